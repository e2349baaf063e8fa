/- Conditions, plain: no program. What a list of codes reads as; items as codes; one is read as the other. -/
import Derived.Lib.MapLaws
import Derived.Lib.ValidLaws
import Derived.Lib.RuneBytes
import Derived.Test.YtfehpcbmdancoaaGreatDoorProg
import Derived.Lib.Hide
import Derived.WalkKit
import Derived.WalkSpells
import Derived.WalkLawsBesides
import Derived.IntWalk
import Derived.BigQuiet
import Derived.BigRegion
import Derived.Deep.QuietTactic
import Derived.Deep.LoopGhost
import Derived.Below
import Derived.Outline
import Derived.WalkMore
import Derived.Laws.Rows
import Derived.Lib.Bytealg
import Derived.Maps.RangeWalk
import Derived.Maps.Ext
import Derived.DeepKeys4
import Derived.StillTailTactics
import Derived.Deep.CutRange
import Derived.Deep.DeepCutAuto
import Derived.Test.YtfehpcbmdancoaaGreatDoorPdPbSGives
namespace Go.Proofs.YtfehpcbmdancoaaGreatDoor
open Go
structure It where
 any:Bool
 not:Bool
 set:List Int
deriving DecidableEq
def takeSet:List Int→Option (List Int×List Int)
 | []=>none
 | c::r=>if c=93 then some ([],r)else(takeSet r).map fun x=>(c::x.1,x.2)
def setC (neg:Bool)(r:List Int):Option (It×List Int):=
 match takeSet r with
 | none=>none
 | some (a,b)=>if a=[]then none else some (⟨false,neg,a⟩,b)
def headC:List Int→Option (It×List Int)
 | []=>none
 | c::r=>if c=46 then some (⟨true,false,[]⟩,r)else if c=93 then none else if c=91 then(if r.head?=some 94 then setC true r.tail else setC false r)else some (⟨false,false,[c]⟩,r)
def parseF:Nat→List Int→Option (List It)
 | 0,cs=>if cs=[]then some []else none
 | f+1,cs=>if cs=[]then some []else match headC cs with
   | none=>none
   | some (it,r)=>(parseF f r).map fun l=>it::l
def parseC (cs:List Int):Option (List It):=
 match parseF cs.length cs with
 | none=>none
 | some l=>if 0<l.length∧l.length≤8 then some l else none
def itemC (it:It):List Int:=
 if it.any then [46]else if it.set.length=1∧it.not=false∧it.set.head?≠some 46∧it.set.head?≠some 91∧it.set.head?≠some 93 then it.set
 else 91::((if it.not then [94]else [])++(it.set++[93]))
def textC (l:List It):List Int:=l.flatMap itemC
def Good (it:It):Prop:=it=⟨true,false,[]⟩∨(it.any=false∧it.set≠[]∧(∀c∈it.set,c≠93)∧(it.not=false→it.set.head?=some 94→it.set=[94]))
def hasP (it:It)(c:Int):Bool:=it.any||(it.set.contains c != it.not)
def startsP (l:List It)(cs:List Int):Bool:=decide (l.length≤cs.length)&&(l.zip cs).all fun x=>hasP x.1 x.2
def endsP (l:List It)(cs:List Int):Bool:=decide (l.length≤cs.length)&&startsP l (cs.drop (cs.length-l.length))
theorem headC_cons (c:Int)(r:List Int):headC (c::r)=if c=46 then some (⟨true,false,[]⟩,r)else if c=93 then none else if c=91 then(if r.head?=some 94 then setC true r.tail else setC false r)else some (⟨false,false,[c]⟩,r):=rfl
theorem takeSet_len:∀(cs:List Int) {a b:List Int},takeSet cs=some (a,b)→cs=a++93::b∧∀c∈a,c≠93
 | [],a,b,h=>by simp[takeSet]at h
 | c::r,a,b,h=>by
   unfold takeSet at h;by_cases hc:c=93
   ·rw[if_pos hc]at h;simp only[Option.some.injEq,Prod.mk.injEq]at h;obtain⟨rfl,rfl⟩:=h;exact⟨by rw[hc];rfl,fun c hc=>by cases hc⟩
   ·rw[if_neg hc,Option.map_eq_some_iff]at h;obtain⟨⟨a',b'⟩,h1,h2⟩:=h;simp only[Prod.mk.injEq]at h2;obtain⟨rfl,rfl⟩:=h2;obtain⟨h3,h4⟩:=takeSet_len r h1;refine⟨by rw[h3];rfl,fun x hx=>?_⟩;rcases List.mem_cons.1 hx with rfl|hx
    ·exact hc
    ·exact h4 x hx
theorem takeSet_app:∀(a b:List Int),(∀c∈a,c≠93)→takeSet (a++93::b)=some (a,b)
 | [],b,_=>by simp[takeSet]
 | c::a,b,h=>by
   have hc:=h c (List.mem_cons_self ..);have ih:=takeSet_app a b fun x hx=>h x (List.mem_cons_of_mem _ hx);show takeSet (c::(a++93::b))=_;unfold takeSet;rw[if_neg hc,ih];rfl
theorem setC_len {neg:Bool}{r b:List Int}{it:It}(h:setC neg r=some (it,b)):it.any=false∧it.not=neg∧it.set≠[]∧(∀c∈it.set,c≠93)∧r=it.set++93::b:=by
 unfold setC at h;split at h
 ·cases h
 ·rename_i a b' ht;split at h
  ·cases h
  ·rename_i hne;simp only[Option.some.injEq,Prod.mk.injEq]at h;obtain⟨rfl,rfl⟩:=h;obtain⟨h1,h2⟩:=takeSet_len r ht;exact⟨rfl,rfl,hne,h2,h1⟩
theorem setC_app {neg:Bool}{a b:List Int}(hne:a≠[])(h:∀c∈a,c≠93):setC neg (a++93::b)=some (⟨false,neg,a⟩,b):=by
 unfold setC;rw[takeSet_app a b h];simp[hne]
theorem headC_says {cs r:List Int}{it:It}(h:headC cs=some (it,r)):Good it∧(itemC it).length+r.length≤cs.length∧r.length<cs.length∧(∀c∈it.set,c∈cs)∧(∀c∈r,c∈cs)∧it.set.length≤cs.length:=by
 match cs,h with
 | c::t,h=>
   rw[headC_cons]at h;split at h
   ·simp only[Option.some.injEq,Prod.mk.injEq]at h;obtain⟨rfl,rfl⟩:=h;exact⟨.inl rfl,by simp[itemC];omega,by simp,(fun c hc=>by cases hc),(fun c hc=>List.mem_cons_of_mem _ hc),Nat.zero_le _⟩
   split at h
   ·cases h
   split at h
   ·rename_i h46 h93 h91;have hlen:∀(it:It),it.any=false→(itemC it).length≤it.set.length+2+(if it.not then 1 else 0):=by
     intro it ha;unfold itemC;rw[if_neg (by simp[ha])];split
     ·omega
     ·split<;>simp_all
    split at h
    ·rename_i hhead;obtain⟨h1,h2,h3,h4,h5⟩:=setC_len h;have ht:t=94::t.tail:=by
      cases t with
      | nil=>simp at hhead
      | cons x t'=>simp only[List.head?_cons,Option.some.injEq]at hhead;rw[hhead];rfl
     have hl:=hlen it h1;rw[h2]at hl;have hT:t.length=it.set.length+r.length+2:=by
      rw[ht,h5];simp;omega
     refine⟨.inr ⟨h1,h3,h4,fun h=>by rw[h2]at h;cases h⟩,by simp only[List.length_cons];simp at hl;omega,by simp only[List.length_cons];omega,fun c hc=>?_,fun c hc=>?_,by simp only[List.length_cons];omega⟩
     ·rw[ht,h5];simp[hc]
     ·rw[ht,h5];simp[hc]
    ·rename_i hhead;obtain⟨h1,h2,h3,h4,h5⟩:=setC_len h;have hl:=hlen it h1;rw[h2]at hl;have hT:t.length=it.set.length+r.length+1:=by
      rw[h5];simp;omega
     refine⟨.inr ⟨h1,h3,h4,fun _ hh=>?_⟩,by simp only[List.length_cons];simp at hl;omega,by simp only[List.length_cons];omega,fun c hc=>?_,fun c hc=>?_,by simp only[List.length_cons];omega⟩
     ·exfalso;apply hhead;rw[h5];cases hs:it.set with
      | nil=>exact absurd hs h3
      | cons x y=>rw[hs]at hh;simpa using hh
     ·rw[h5];simp[hc]
     ·rw[h5];simp[hc]
   ·rename_i h46 h93 h91;simp only[Option.some.injEq,Prod.mk.injEq]at h;obtain⟨rfl,rfl⟩:=h;refine⟨.inr ⟨rfl,(fun h=>by cases h),(fun x hx=>?_),(fun _ hh=>?_)⟩,?_,by simp,(fun x hx=>?_),(fun c hc=>List.mem_cons_of_mem _ hc),by simp⟩
    ·simp only[List.mem_cons,List.not_mem_nil,or_false]at hx;rw[hx];exact h93
    ·simp only[List.head?_cons,Option.some.injEq]at hh;rw[hh]
    ·unfold itemC;rw[if_neg (by simp),if_pos (by simp[h46,h91,h93])];simp;omega
    ·simp only[List.mem_cons,List.not_mem_nil,or_false]at hx;rw[hx];exact List.mem_cons_self ..
theorem headC_item {it:It}(h:Good it)(r:List Int):headC (itemC it++r)=some (it,r):=by
 obtain⟨any,neg,set⟩:=it;rcases h with h|⟨h1,h2,h3,h4⟩
 ·cases h;rfl
 ·simp only at h1 h2 h3 h4;subst h1;unfold itemC;rw[if_neg (by simp)];split
  ·rename_i hc;obtain⟨hl,hn,a,b,c⟩:=hc;simp only at hl hn a b c
   match set,hl with
   | [x],_=>
     simp only[List.head?_cons,ne_eq,Option.some.injEq]at a b c;subst hn;show headC (x::r)=_;rw[headC_cons,if_neg a,if_neg c,if_neg b]
  ·rename_i hc;simp only[List.cons_append,List.append_assoc,List.nil_append];rw[headC_cons,if_neg (by decide),if_neg (by decide),if_pos rfl];cases neg with
   | true=>
     simp only[if_true,List.cons_append,List.nil_append,List.head?_cons,List.tail_cons];exact setC_app h2 h3
   | false=>
     simp only[Bool.false_eq_true,if_false,List.nil_append];have hh:(set++93::r).head?≠some 94:=by
      cases hs:set with
      | nil=>exact absurd hs h2
      | cons x y=>
        intro hx;have hx':set.head?=some 94:=by rw[hs];simpa using hx
        have:=h4 rfl hx';apply hc;simp[this]
     rw[if_neg hh];exact setC_app h2 h3
theorem parseF_text:∀(l:List It) (f:Nat),(∀it∈l,Good it)→(textC l).length≤f→parseF f (textC l)=some l
 | [],f,_,_=>by cases f<;>simp[textC,parseF]
 | it::l,f,h,hf=>by
   have hg:=h it (List.mem_cons_self ..);have hh:=headC_item hg (textC l);have ht:textC (it::l)=itemC it++textC l:=by simp[textC]
   rw[ht]at hf⊢;have hlt:=(headC_says hh).2.2.1;cases f with
   | zero=>omega
   | succ f=>
     have ih:=parseF_text l f (fun x hx=>h x (List.mem_cons_of_mem _ hx)) (by omega);unfold parseF;rw[if_neg (by intro e;rw[e]at hlt;simp at hlt),hh];simp only[ih,Option.map_some]
theorem parseF_says:∀(f:Nat) (cs:List Int) {l:List It},parseF f cs=some l→(∀it∈l,Good it∧(∀c∈it.set,c∈cs)∧it.set.length≤cs.length)∧(textC l).length≤cs.length
 | 0,cs,l,h=>by
   unfold parseF at h;split at h
   ·simp only[Option.some.injEq]at h;subst h;exact⟨(fun it hit=>by cases hit),Nat.zero_le _⟩
   ·cases h
 | f+1,cs,l,h=>by
   unfold parseF at h;split at h
   ·simp only[Option.some.injEq]at h;subst h;exact⟨(fun it hit=>by cases hit),Nat.zero_le _⟩
   split at h
   ·cases h
   ·rename_i it r hh;rw[Option.map_eq_some_iff]at h;obtain⟨l',h1,rfl⟩:=h;obtain⟨g1,g2,g3,g4,g5,g6⟩:=headC_says hh;obtain⟨i1,i2⟩:=parseF_says f r h1;refine⟨fun x hx=>?_,by rw[show textC (it::l')=itemC it++textC l' by simp[textC],List.length_append];omega⟩;rcases List.mem_cons.1 hx with rfl|hx
    ·exact⟨g1,g4,g6⟩
    ·obtain⟨j1,j2,j3⟩:=i1 x hx;exact⟨j1,fun c hc=>g5 c (j2 c hc),by omega⟩
theorem parseC_says {cs:List Int}{l:List It}(h:parseC cs=some l):(∀it∈l,Good it∧(∀c∈it.set,c∈cs)∧it.set.length≤cs.length)∧(textC l).length≤cs.length∧0<l.length∧l.length≤8:=by
 unfold parseC at h;split at h
 ·cases h
 ·rename_i l' hf;split at h
  ·rename_i hl;simp only[Option.some.injEq]at h;subst h;obtain⟨h1,h2⟩:=parseF_says _ _ hf;exact⟨h1,h2,hl.1,hl.2⟩
  ·cases h
theorem parseC_text {l:List It}(h:∀it∈l,Good it)(h0:0<l.length)(h8:l.length≤8):parseC (textC l)=some l:=by
 unfold parseC;rw[parseF_text l _ h (Nat.le_refl _)];simp[h0,h8]
theorem textC_mem {l:List It}{P:Int→Prop}(h:∀it∈l,∀c∈it.set,P c)(h46:P 46)(h91:P 91)(h93:P 93)(h94:P 94):∀c∈textC l,P c:=by
 intro c hc;unfold textC at hc;rw[List.mem_flatMap]at hc;obtain⟨it,hit,hc⟩:=hc;unfold itemC at hc;split at hc
 ·simp at hc;exact hc▸h46
 split at hc
 ·exact h it hit c hc
 ·rcases List.mem_cons.1 hc with rfl|hc
  ·exact h91
  rcases List.mem_append.1 hc with hc|hc
  ·split at hc
   ·simp at hc;exact hc▸h94
   ·cases hc
  rcases List.mem_append.1 hc with hc|hc
  ·exact h it hit c hc
  ·simp at hc;exact hc▸h93
end Go.Proofs.YtfehpcbmdancoaaGreatDoor
namespace Go.Proofs.YtfehpcbmdancoaaGreatDoor
open Go Go.Lib
def uBad (l:List UInt8):Bool:=decide ((decodeL l).1=65533∧(decodeL l).2=1)
def uCode (l:List UInt8):Int:=if uBad l then -1-((l.getD 0 0).toNat:Int)else((decodeL l).1:Int)
def unitsF:Nat→Nat→List UInt8→List (Nat×Nat×Int)
 | 0,_,_=>[]
 | f+1,p,l=>if l=[]then []else(p,(decodeL l).2,uCode l)::unitsF f (p+(decodeL l).2) (l.drop (decodeL l).2)
def units (p:Nat)(l:List UInt8):List (Nat×Nat×Int):=unitsF l.length p l
theorem unitsF_nil:∀f p,unitsF f p []=[]
 | 0,_=>rfl
 | _+1,_=>by simp[unitsF]
theorem unitsF_fuel:∀(n m p:Nat) (l:List UInt8),l.length≤n→l.length≤m→unitsF n p l=unitsF m p l
 | 0,m,p,l,hn,_=>by
   have:l=[]:=List.eq_nil_of_length_eq_zero (by omega);subst this;rw[unitsF_nil,unitsF_nil]
 | n+1,0,p,l,_,hm=>by
   have:l=[]:=List.eq_nil_of_length_eq_zero (by omega);subst this;rw[unitsF_nil,unitsF_nil]
 | n+1,m+1,p,l,hn,hm=>by
   by_cases hne:l=[]
   ·subst hne;rw[unitsF_nil,unitsF_nil]
   ·have hw:=decodeL_width l;have hl:0<l.length:=List.length_pos_iff.2 hne;simp only[unitsF,if_neg hne];rw[unitsF_fuel n m _ _ (by rw[List.length_drop];omega) (by rw[List.length_drop];omega)]
theorem units_nil (p:Nat):units p []=[]:=rfl
theorem units_step (p:Nat)(l:List UInt8)(hne:l≠[]):units p l=(p,(decodeL l).2,uCode l)::units (p+(decodeL l).2) (l.drop (decodeL l).2):=by
 have hw:=decodeL_width l;have hl:0<l.length:=List.length_pos_iff.2 hne;unfold units;obtain⟨n,hn⟩:∃n,l.length=n+1:=⟨l.length-1,by omega⟩;rw[hn];simp only[unitsF,if_neg hne];rw[unitsF_fuel n _ _ _ (by rw[List.length_drop];omega) (Nat.le_refl _)]
theorem unit_ind (C:List UInt8→Prop)(h0:C [])(h1:∀l,l≠[]→C (l.drop (decodeL l).2)→C l):∀l,C l:=by
 intro l
 suffices h:∀n (l:List UInt8),l.length≤n→C l from h l.length l (Nat.le_refl _)
 intro n
 induction n with
 | zero=>
   intro l hl;have:l=[]:=List.eq_nil_of_length_eq_zero (by omega);exact this▸h0
 | succ n ih=>
   intro l hl;by_cases hne:l=[]
   ·exact hne▸h0
   ·have hw:=decodeL_width l;have hp:0<l.length:=List.length_pos_iff.2 hne;exact h1 l hne (ih _ (by rw[List.length_drop];omega))
theorem units_length_le:∀(l:List UInt8) p,(units p l).length≤l.length:=by
 apply unit_ind
 ·intro p;simp[units_nil]
 ·intro l hne ih p;have hw:=decodeL_width l;have hp:0<l.length:=List.length_pos_iff.2 hne;rw[units_step p l hne,List.length_cons];have:=ih (p+(decodeL l).2);rw[List.length_drop]at this;omega
theorem validD_units:∀(l:List UInt8) p,validD l=(units p l).all fun u=>decide (0≤u.2.2):=by
 apply unit_ind
 ·intro p;rfl
 ·intro l hne ih p;rw[units_step p l hne,validD_step l hne,List.all_cons,←ih];by_cases hb:(decodeL l).1=65533∧(decodeL l).2=1
  ·have:decide (0≤uCode l)=false:=by simp[uCode,uBad,hb];omega
   rw[if_pos hb];simp[this]
  ·have:decide (0≤uCode l)=true:=by
    have h:uBad l=false:=by simpa[uBad]using hb
    simp[uCode,h]
   rw[if_neg hb];simp[this]
theorem getD_append_left (l t:List UInt8)(k:Nat)(h:k<l.length):(l++t).getD k 0=l.getD k 0:=by
 simp[List.getD,List.getElem?_append_left h]
theorem decodeL_append (l t:List UInt8)(hne:l≠[])(hb:¬((decodeL l).1=65533∧(decodeL l).2=1)):decodeL (l++t)=decodeL l:=by
 have hl:0<l.length:=List.length_pos_iff.2 hne;rw[decodeL_N]at hb;rw[decodeL_N,decodeL_N l,getD_append_left l t 0 hl,List.length_append];by_cases h1:1<l.length
 ·rw[getD_append_left l t 1 h1];by_cases h2:2<l.length
  ·rw[getD_append_left l t 2 h2];by_cases h3:3<l.length
   ·rw[getD_append_left l t 3 h3];unfold decodeN;simp only[show 1<l.length+t.length from by omega,show 2<l.length+t.length from by omega,show 3<l.length+t.length from by omega,h1,h2,h3,true_and]
   ·revert hb;unfold decodeN;simp only[show 1<l.length+t.length from by omega,show 2<l.length+t.length from by omega,h1,h2,h3,true_and,false_and,and_false,if_false];intro hb;split
    ·rfl
    split
    ·rfl
    split
    ·rfl
    rename_i a b c;rw[if_neg a,if_neg b,if_neg c]at hb;simp at hb
  ·revert hb;unfold decodeN;simp only[show 1<l.length+t.length from by omega,h1,h2,true_and,false_and,and_false,if_false];intro hb;split
   ·rfl
   split
   ·rfl
   rename_i a b;rw[if_neg a,if_neg b]at hb;simp at hb
 ·revert hb;unfold decodeN;simp only[h1,false_and,and_false,if_false];intro hb;split
  ·rfl
  rename_i a;rw[if_neg a]at hb;simp at hb
theorem units_append (t:List UInt8):∀(l:List UInt8) p,validD l=true→units p (l++t)=units p l++units (p+l.length) t:=by
 apply unit_ind (C:=fun l=>∀p,validD l=true→units p (l++t)=units p l++units (p+l.length) t)
 ·intro p _;simp[units_nil]
 ·intro l hne ih p hv;rw[validD_step l hne]at hv;by_cases hb:(decodeL l).1=65533∧(decodeL l).2=1
  ·rw[if_pos hb]at hv;cases hv
  ·rw[if_neg hb]at hv;have hd:=decodeL_append l t hne hb;have hle:=decodeL_le l hne;have hu:uBad (l++t)=uBad l:=by simp[uBad,hd]
   have hc:uCode (l++t)=uCode l:=by
    have h:uBad l=false:=by simpa[uBad]using hb
    simp[uCode,hu,h,hd]
   rw[units_step p (l++t) (by simp[hne]),units_step p l hne,hd,hc,List.drop_append_of_le_length hle,ih _ hv,List.cons_append,List.length_drop];congr 3;omega
theorem validD_append (t:List UInt8)(l:List UInt8)(h:validD l=true):validD (l++t)=validD t:=by
 rw[validD_units (l++t) 0,units_append t l 0 h,List.all_append,←validD_units,←validD_units,h,Bool.true_and]
theorem ofNat_toNat (n:Nat)(h:n<256):(UInt8.ofNat n).toNat=n:=by simp;omega
theorem enc_cases (k:Nat)(hv:Utf8.valid (k:Int)=true):
  (k<128∧(Utf8.encode k).data.toList=[UInt8.ofNat k])∨
  (128≤k∧k<2048∧(Utf8.encode k).data.toList=[UInt8.ofNat (192+k/64),UInt8.ofNat (128+k%64)])∨
  (2048≤k∧k<65536∧(k<55296∨57344≤k)∧(Utf8.encode k).data.toList=[UInt8.ofNat (224+k/4096),UInt8.ofNat (128+k/64%64),UInt8.ofNat (128+k%64)])∨
  (65536≤k∧k≤1114111∧(Utf8.encode k).data.toList=[UInt8.ofNat (240+k/262144),UInt8.ofNat (128+k/4096%64),UInt8.ofNat (128+k/64%64),UInt8.ofNat (128+k%64)]):=by
 have hv':(k<55296)∨(57344≤k∧k≤1114111):=by
  simp[Utf8.valid]at hv;omega
 unfold Utf8.encode;simp only[hv,if_true,Int.toNat_natCast];by_cases h1:k<128
 ·left;exact⟨h1,by rw[if_pos h1]⟩
 ·by_cases h2:k<2048
  ·right;left;exact⟨by omega,h2,by rw[if_neg h1,if_pos h2]⟩
  ·by_cases h3:k<65536
   ·right;right;left;exact⟨by omega,h3,by omega,by rw[if_neg h1,if_neg h2,if_pos h3]⟩
   ·right;right;right;exact⟨by omega,by omega,by rw[if_neg h1,if_neg h2,if_neg h3]⟩
theorem decode_encode (k:Nat)(hv:Utf8.valid (k:Int)=true):decodeL (Utf8.encode k).data.toList=(k,(Utf8.encode k).size)∧1≤(Utf8.encode k).size∧(Utf8.encode k).size≤4∧
  ∀n,0<n→n<(Utf8.encode k).size→decodeL ((Utf8.encode k).data.toList.take n)=(65533,1):=by
 rw[Lib.size_eq];rcases enc_cases k hv with ⟨h,e⟩|⟨h1,h2,e⟩|⟨h1,h2,h3,e⟩|⟨h1,h2,e⟩
 ·rw[e];refine⟨?_,by simp,by simp,fun n a b=>by simp at b;omega⟩;rw[decodeL_N];simp only[List.getD_cons_zero,List.length_cons,List.length_nil];rw[ofNat_toNat k (by omega)];simp[decodeN,h]
 ·rw[e];have e0:=ofNat_toNat (192+k/64) (by omega);have e1:=ofNat_toNat (128+k%64) (by omega);refine⟨?_,by simp,by simp,fun n a b=>?_⟩
  ·rw[decodeL_N];simp only[List.getD_cons_zero,List.getD_cons_succ,List.length_cons,List.length_nil];rw[e0,e1];unfold decodeN;rw[if_neg (by omega),if_pos (by omega),if_pos (by omega)];simp;omega
  ·obtain rfl:n=1:=by simp at b;omega
   rw[decodeL_N];simp only[List.take_succ_cons,List.take_zero,List.getD_cons_zero,List.getD_cons_succ,List.length_cons,List.length_nil];rw[e0];exact decodeN_alone _ _ _ _ _ (by omega) (.inl (by omega))
 ·rw[e];have e0:=ofNat_toNat (224+k/4096) (by omega);have e1:=ofNat_toNat (128+k/64%64) (by omega);have e2:=ofNat_toNat (128+k%64) (by omega);refine⟨?_,by simp,by simp,fun n a b=>?_⟩
  ·rw[decodeL_N];simp only[List.getD_cons_zero,List.getD_cons_succ,List.length_cons,List.length_nil];rw[e0,e1,e2];unfold decodeN;rw[if_neg (by omega),if_neg (by omega),if_pos (by omega),if_pos (by omega)];simp;omega
  ·have hn:n=1∨n=2:=by simp at b;omega
   rcases hn with rfl|rfl
   ·rw[decodeL_N];simp only[List.take_succ_cons,List.take_zero,List.getD_cons_zero,List.getD_cons_succ,List.length_cons,List.length_nil];rw[e0];exact decodeN_alone _ _ _ _ _ (by omega) (.inl (by omega))
   ·rw[decodeL_N];simp only[List.take_succ_cons,List.take_zero,List.getD_cons_zero,List.getD_cons_succ,List.length_cons,List.length_nil];rw[e0,e1];unfold decodeN;rw[if_neg (by omega),if_neg (by omega),if_neg (by omega),if_neg (by omega)]
 ·rw[e];have e0:=ofNat_toNat (240+k/262144) (by omega);have e1:=ofNat_toNat (128+k/4096%64) (by omega);have e2:=ofNat_toNat (128+k/64%64) (by omega);have e3:=ofNat_toNat (128+k%64) (by omega);refine⟨?_,by simp,by simp,fun n a b=>?_⟩
  ·rw[decodeL_N];simp only[List.getD_cons_zero,List.getD_cons_succ,List.length_cons,List.length_nil];rw[e0,e1,e2,e3];unfold decodeN;rw[if_neg (by omega),if_neg (by omega),if_neg (by omega),if_pos (by omega),if_pos (by omega)];simp;omega
  ·have hn:n=1∨n=2∨n=3:=by simp at b;omega
   rcases hn with rfl|rfl|rfl
   ·rw[decodeL_N];simp only[List.take_succ_cons,List.take_zero,List.getD_cons_zero,List.getD_cons_succ,List.length_cons,List.length_nil];rw[e0];exact decodeN_alone _ _ _ _ _ (by omega) (.inl (by omega))
   ·rw[decodeL_N];simp only[List.take_succ_cons,List.take_zero,List.getD_cons_zero,List.getD_cons_succ,List.length_cons,List.length_nil];rw[e0,e1];unfold decodeN;rw[if_neg (by omega),if_neg (by omega),if_neg (by omega),if_neg (by omega)]
   ·rw[decodeL_N];simp only[List.take_succ_cons,List.take_zero,List.getD_cons_zero,List.getD_cons_succ,List.length_cons,List.length_nil];rw[e0,e1,e2];unfold decodeN;rw[if_neg (by omega),if_neg (by omega),if_neg (by omega),if_neg (by omega)]
theorem units_encode (k:Nat)(hv:Utf8.valid (k:Int)=true):validD (Utf8.encode k).data.toList=true∧units 0 (Utf8.encode k).data.toList=[(0,(Utf8.encode k).size,(k:Int))]:=by
 obtain⟨hd,h1,_,_⟩:=decode_encode k hv;have hne:(Utf8.encode k).data.toList≠[]:=by
  intro h0;have:=congrArg List.length h0;rw[←Lib.size_eq,List.length_nil]at this;omega
 have hdrop:(Utf8.encode k).data.toList.drop (Utf8.encode k).size=[]:=List.drop_eq_nil_of_le (by rw[←Lib.size_eq];omega);have hbad:¬((decodeL (Utf8.encode k).data.toList).1=65533∧(decodeL (Utf8.encode k).data.toList).2=1):=by
  rw[hd];rintro⟨e1,e2⟩;dsimp only at e1 e2;subst e1;revert e2;decide
 constructor
 ·rw[validD_step _ hne,if_neg hbad,hd];dsimp only;rw[hdrop];rfl
 ·have hu:uBad (Utf8.encode k).data.toList=false:=by simpa[uBad]using hbad
  rw[units_step _ _ hne];simp[uCode,hu,hd,hdrop,units_nil]
def encL (cs:List Int):List UInt8:=cs.flatMap fun c=>(Utf8.encode c).data.toList
def textS (l:List It):ByteArray:=⟨(encL (textC l)).toArray⟩
def codesB (s:List UInt8):Option (List Int):=if validD s then some ((units 0 s).map (·.2.2))else none
def parseS (s:ByteArray):Option (List It):=match codesB s.data.toList with
 | none=>none
 | some cs=>parseC cs
def Pt (c:Int):Prop:=Utf8.valid c=true
theorem valid_dec (l:List UInt8):Utf8.valid ((decodeL l).1:Int)=true:=by
 have k0:=(l.getD 0 0).toNat_lt;have k1:=(l.getD 1 0).toNat_lt;have h:(decodeL l).1<55296∨(57344≤(decodeL l).1∧(decodeL l).1≤1114111):=by
  rw[decodeL_N];rcases decodeN_shape l.length (l.getD 0 0).toNat (l.getD 1 0).toNat (l.getD 2 0).toNat (l.getD 3 0).toNat with ⟨c,e⟩|⟨c1,c2,c3,cv,e⟩|⟨c1,c2,c3,c4,cv,cs,e⟩|⟨c1,c2,c3,c4,c5,cv,cw,e⟩|e;all_goals (rw [e];dsimp only;omega)
 simp[Utf8.valid];omega
theorem units_any:∀(l:List UInt8) p q,(units p l).map (·.2.2)=(units q l).map (·.2.2):=by
 apply unit_ind
 ·intro p q;rfl
 ·intro l hne ih p q;rw[units_step p l hne,units_step q l hne,List.map_cons,List.map_cons];rw[ih _ (q+(decodeL l).2)]
theorem units_pts:∀(l:List UInt8) p,validD l=true→∀c∈(units p l).map (·.2.2),Pt c:=by
 apply unit_ind (C:=fun l=>∀p,validD l=true→∀c∈(units p l).map (·.2.2),Pt c)
 ·intro p _ c hc;simp[units_nil]at hc
 ·intro l hne ih p hv c hc;rw[validD_step l hne]at hv;by_cases hb:(decodeL l).1=65533∧(decodeL l).2=1
  ·rw[if_pos hb]at hv;cases hv
  ·rw[if_neg hb]at hv;rw[units_step p l hne,List.map_cons]at hc;rcases List.mem_cons.1 hc with rfl|hc
   ·have hu:uBad l=false:=by simpa[uBad]using hb
    show Pt (uCode l);unfold uCode Pt;rw[hu];exact valid_dec l
   ·exact ih _ hv c hc
theorem codesB_says {s:List UInt8}{cs:List Int}(h:codesB s=some cs):(∀c∈cs,Pt c)∧cs.length≤s.length:=by
 unfold codesB at h;split at h
 ·rename_i hv;simp only[Option.some.injEq]at h;subst h;exact⟨units_pts s 0 hv,by rw[List.length_map];exact units_length_le s 0⟩
 ·cases h
theorem pt_nat {c:Int}(h:Pt c):∃k:Nat,c=k∧Utf8.valid (k:Int)=true:=by
 have h0:0≤c:=by unfold Pt Utf8.valid at h;simp at h;omega
 obtain⟨k,rfl⟩:=Int.eq_ofNat_of_zero_le h0;exact⟨k,rfl,h⟩
theorem codesB_enc:∀(cs:List Int),(∀c∈cs,Pt c)→codesB (encL cs)=some cs
 | [],_=>rfl
 | c::cs,h=>by
   obtain⟨k,rfl,hk⟩:=pt_nat (h c (List.mem_cons_self ..));have ih:=codesB_enc cs fun x hx=>h x (List.mem_cons_of_mem _ hx);obtain⟨hv,hu⟩:=units_encode k hk;have he:encL ((k:Int)::cs)=(Utf8.encode k).data.toList++encL cs:=by simp[encL]
   unfold codesB at ih⊢;split at ih
   ·rename_i hv2;simp only[Option.some.injEq]at ih;rw[he,validD_append _ _ hv,if_pos hv2,units_append _ _ _ hv,hu,List.map_append,units_any _ _ 0,ih];rfl
   ·cases ih
theorem enc_len (c:Int):(Utf8.encode c).data.toList.length≤4:=by
 unfold Utf8.encode;dsimp only;generalize (if Utf8.valid c=true then c.toNat else Utf8.runeError)=k;by_cases h1:k<128
 ·rw[if_pos h1];exact(by decide:1≤4)
 rw[if_neg h1];by_cases h2:k<2048
 ·rw[if_pos h2];exact(by decide:2≤4)
 rw[if_neg h2];by_cases h3:k<65536
 ·rw[if_pos h3];exact(by decide:3≤4)
 rw[if_neg h3];exact(by decide:4≤4)
theorem enc_rune9 (k:Nat)(hv:Utf8.valid (k:Int)=true):(Utf8.encode k).data.toList=encodeRune k:=by
 unfold encodeRune;rcases enc_cases k hv with ⟨h,e⟩|⟨h1,h2,e⟩|⟨h1,h2,h3,e⟩|⟨h1,h2,e⟩
 ·rw[e,encodeRuneZ_one (by omega) (by omega)];rfl
 ·rw[e,encodeRuneZ_two (by omega) (by omega)];simp only[List.map_cons,List.map_nil];rw[show ((192:Int)+k/64).toNat=192+k/64 from by omega,show ((128:Int)+k%64).toNat=128+k%64 from by omega]
 ·rw[e,encodeRuneZ_three (by omega)];simp only[List.map_cons,List.map_nil];rw[show ((224:Int)+k/4096).toNat=224+k/4096 from by omega,show ((128:Int)+k/64%64).toNat=128+k/64%64 from by omega,show ((128:Int)+k%64).toNat=128+k%64 from by omega]
 ·rw[e,encodeRuneZ_four (by omega) (by omega)];simp only[List.map_cons,List.map_nil];rw[show ((240:Int)+k/262144).toNat=240+k/262144 from by omega,show ((128:Int)+k/4096%64).toNat=128+k/4096%64 from by omega,show ((128:Int)+k/64%64).toNat=128+k/64%64 from by omega,show ((128:Int)+k%64).toNat=128+k%64 from by omega]
theorem encL_units:∀(l:List UInt8) p,validD l=true→encL ((units p l).map (·.2.2))=l:=by
 apply unit_ind (C:=fun l=>∀p,validD l=true→encL ((units p l).map (·.2.2))=l)
 ·intro p _;rfl
 ·intro l hne ih p hv;rw[validD_step l hne]at hv;by_cases hb:(decodeL l).1=65533∧(decodeL l).2=1
  ·rw[if_pos hb]at hv;cases hv
  ·rw[if_neg hb]at hv;have hu:uBad l=false:=by simpa[uBad]using hb
   have hc:uCode l=((decodeL l).1:Int):=by simp[uCode,hu]
   rw[units_step p l hne,List.map_cons];show (Utf8.encode (uCode l)).data.toList++encL ((units _ _).map (·.2.2))=l;rw[ih _ hv,hc,enc_rune9 _ (valid_dec l),encode_decode _ hne hb,List.take_append_drop]
theorem encL_codesB {s:List UInt8}{cs:List Int}(h:codesB s=some cs):encL cs=s:=by
 unfold codesB at h;split at h
 ·rename_i hv;simp only[Option.some.injEq]at h;subst h;exact encL_units s 0 hv
 ·cases h
theorem encL_mem {cs:List Int}(h:∀c∈cs,Pt c){b:UInt8}(hb:b.toNat<128):b∈encL cs↔(b.toNat:Int)∈cs:=by
 have one:∀c:Int,Pt c→(b∈(Utf8.encode c).data.toList↔(b.toNat:Int)=c):=by
  intro c hc;obtain⟨k,rfl,hk⟩:=pt_nat hc;have key:∀n:Nat,n<256→(b=UInt8.ofNat n↔b.toNat=n):=fun n hn=>
   ⟨fun e=>by rw[e];exact ofNat_toNat n hn,fun e=>by rw[←e];simp⟩
  rcases enc_cases k hk with ⟨h,e⟩|⟨h1,h2,e⟩|⟨h1,h2,h3,e⟩|⟨h1,h2,e⟩
  ·rw[e,List.mem_singleton,key k (by omega)];omega
  ·rw[e];simp only[List.mem_cons,List.not_mem_nil,or_false];rw[key _ (by omega),key _ (by omega)];omega
  ·rw[e];simp only[List.mem_cons,List.not_mem_nil,or_false];rw[key _ (by omega),key _ (by omega),key _ (by omega)];omega
  ·have hk2:k≤1114111:=by unfold Utf8.valid at hk;simp at hk;omega
   rw[e];simp only[List.mem_cons,List.not_mem_nil,or_false];rw[key _ (by omega),key _ (by omega),key _ (by omega),key _ (by omega)];omega
 unfold encL;rw[List.mem_flatMap];constructor
 ·rintro⟨c,hc,hbc⟩;rw[(one c (h c hc)).1 hbc];exact hc
 ·intro hc;exact⟨_,hc,(one _ (h _ hc)).2 rfl⟩
def ptB (c:Int):List UInt8:=if Utf8.valid c=true then(Utf8.encode c).data.toList else []
def ptL (cs:List Int):List UInt8:=cs.flatMap ptB
def textG (l:List It):ByteArray:=if parseS ⟨(ptL (textC l)).toArray⟩=some l then ⟨(ptL (textC l)).toArray⟩else ⟨#[]⟩
theorem ptL_enc:∀{cs:List Int},(∀c∈cs,Pt c)→ptL cs=encL cs
 | [],_=>rfl
 | c::cs,h=>by
   have ih:=ptL_enc (cs:=cs) fun x hx=>h x (List.mem_cons_of_mem _ hx);have hc:Utf8.valid c=true:=h c (List.mem_cons_self ..);show ptB c++ptL cs=(Utf8.encode c).data.toList++encL cs;rw[ih];unfold ptB;rw[if_pos hc]
def wordsL:List UInt8→List (List UInt8)
 | []=>[[]]
 | b::r=>if b=32 then [] ::wordsL r else match wordsL r with
   | []=>[[b]]
   | h::t=>(b::h)::t
theorem wordsL_cons (b:UInt8)(r:List UInt8):wordsL (b::r)=if b=32 then [] ::wordsL r else match wordsL r with
 | []=>[[b]]
 | h::t=>(b::h)::t:=rfl
theorem wordsL_ne:∀l,wordsL l≠[]
 | []=>by simp[wordsL]
 | b::r=>by
   unfold wordsL;split
   ·simp
   ·split<;>simp
theorem wordsL_app:∀(a r:List UInt8),(32:UInt8) ∉ a→wordsL (a++32::r)=a::wordsL r
 | [],r,_=>by simp[wordsL]
 | b::a,r,h=>by
   have hb:b≠32:=fun e=>h (by rw[e];exact List.mem_cons_self ..);have ih:=wordsL_app a r fun e=>h (List.mem_cons_of_mem _ e);show wordsL (b::(a++32::r))=_;rw[wordsL_cons,if_neg hb,ih]
theorem wordsL_one:∀(a:List UInt8),(32:UInt8) ∉ a→wordsL a=[a]
 | [],_=>rfl
 | b::a,h=>by
   have hb:b≠32:=fun e=>h (by rw[e];exact List.mem_cons_self ..);have ih:=wordsL_one a fun e=>h (List.mem_cons_of_mem _ e);rw[wordsL_cons,if_neg hb,ih]
theorem wordsL_mem:∀(l:List UInt8) w,w∈wordsL l→(32:UInt8) ∉ w∧w.length≤l.length
 | [],w,h=>by
   simp[wordsL]at h;subst h;simp
 | b::r,w,h=>by
   unfold wordsL at h;split at h
   ·rcases List.mem_cons.1 h with rfl|h
    ·simp
    ·obtain⟨h1,h2⟩:=wordsL_mem r w h;exact⟨h1,by rw[List.length_cons];omega⟩
   ·rename_i hb;split at h
    ·rename_i he;exact absurd he (wordsL_ne r)
    ·rename_i x t he;rcases List.mem_cons.1 h with rfl|h
     ·obtain⟨h1,h2⟩:=wordsL_mem r x (by rw[he];exact List.mem_cons_self ..);refine⟨fun e=>?_,by rw[List.length_cons,List.length_cons];omega⟩;rcases List.mem_cons.1 e with e|e
      ·exact hb e.symm
      ·exact h1 e
     ·obtain⟨h1,h2⟩:=wordsL_mem r w (by rw[he];exact List.mem_cons_of_mem _ h);exact⟨h1,by rw[List.length_cons];omega⟩
structure Ru where
 pre:Bool
 flag:Int
 cross:Bool
 strip:ByteArray
 add:ByteArray
 cond:List It
deriving DecidableEq
def ru0:Ru:=⟨false,0,false,⟨#[]⟩,⟨#[]⟩,[]⟩
def flagL:List UInt8→Int
 | [b]=>if (97≤b.toNat∧b.toNat≤122)∨(65≤b.toNat∧b.toNat≤90)then(b.toNat:Int)else 0
 | _=>0
def partL (w:List UInt8):Option ByteArray:=if w=[48]then some ⟨#[]⟩else if w≠[]∧w.length≤20∧validD w=true then some ⟨w.toArray⟩else none
def pfx:List UInt8:=[80,70,88]
def sfx:List UInt8:=[83,70,88]
def parse6 (a f c x y z:List UInt8):Option Ru:=
 if (a=pfx∨a=sfx)∧flagL f≠0∧(c=[89]∨c=[78])then
  match partL x,partL y,parseS ⟨z.toArray⟩with
  | some u,some v,some l=>some ⟨decide (a=pfx),flagL f,decide (c=[89]),u,v,l⟩
  | _,_,_=>none
 else none
def parseR (s:ByteArray):Option Ru:=
 match wordsL s.data.toList with
 | [a,f,c,x,y,z]=>parse6 a f c x y z
 | _=>none
def or0L (s:ByteArray):List UInt8:=if s.data.toList=[]then [48]else s.data.toList
def lineL (r:Ru)(t:List UInt8):List UInt8:=
 (if r.pre then pfx else sfx)++32::([UInt8.ofNat r.flag.toNat]++32::((if r.cross then [89]else [78])++32::(or0L r.strip++32::(or0L r.add++32::t))))
theorem flagL_says {w:List UInt8}(h:flagL w≠0):w=[UInt8.ofNat (flagL w).toNat]∧(32:UInt8) ∉ w∧0<flagL w∧flagL w≤127:=by
 match w,h with
 | [],h=>exact absurd rfl h
 | _::_::_,h=>exact absurd rfl h
 | [b],h=>
   have hd:flagL [b]=if (97≤b.toNat∧b.toNat≤122)∨(65≤b.toNat∧b.toNat≤90)then(b.toNat:Int)else 0:=rfl
   rw[hd]at h⊢;by_cases hb:(97≤b.toNat∧b.toNat≤122)∨(65≤b.toNat∧b.toNat≤90)
   ·rw[if_pos hb];have hlt:=b.toNat_lt;refine⟨by simp,?_,by omega,by omega⟩;simp only[List.mem_singleton];intro e;rw[←e]at hb;simp at hb
   ·rw[if_neg hb]at h;exact absurd rfl h
theorem partL_says {w:List UInt8}{u:ByteArray}(h:partL w=some u)(hw:(32:UInt8) ∉ w):partL (or0L u)=some u∧(32:UInt8) ∉ or0L u∧u.size≤20:=by
 unfold partL at h;split at h
 ·simp only[Option.some.injEq]at h;subst h;exact⟨rfl,by decide,by decide⟩
 ·rename_i h48;split at h
  ·rename_i hc;simp only[Option.some.injEq]at h;subst h;have ho:or0L ⟨w.toArray⟩=w:=by unfold or0L;rw[if_neg (by simpa using hc.1)]
   rw[ho];refine⟨?_,hw,by show w.toArray.size≤20;simpa using hc.2.1⟩;unfold partL;rw[if_neg h48,if_pos hc]
  ·cases h
def textR (r:Ru):ByteArray:=
 if 0≤r.flag∧r.flag≤127∧parseR ⟨(lineL r (textG r.cond).data.toList).toArray⟩=some r then ⟨(lineL r (textG r.cond).data.toList).toArray⟩else ⟨#[]⟩
def applyR (r:Ru)(w:ByteArray):ByteArray:=
 match codesB w.data.toList with
 | none=>⟨#[]⟩
 | some cs=>
   if r.pre then
    if r.strip.size≤w.size∧w.extract 0 r.strip.size=r.strip∧startsP r.cond cs=true then r.add++w.extract r.strip.size w.size else ⟨#[]⟩
   else if r.strip.size≤w.size∧w.extract (w.size-r.strip.size) w.size=r.strip∧endsP r.cond cs=true then w.extract 0 (w.size-r.strip.size)++r.add else ⟨#[]⟩
def bothR (p s:Ru)(w:ByteArray):ByteArray:=
 if p.pre=true∧s.pre=false∧p.cross=true∧s.cross=true∧(applyR p w).size≠0∧(applyR s w).size≠0∧p.strip.size+s.strip.size≤w.size then
  p.add++w.extract p.strip.size (w.size-s.strip.size)++s.add
 else ⟨#[]⟩
end Go.Proofs.YtfehpcbmdancoaaGreatDoor
namespace Go.Proofs.YtfehpcbmdancoaaGreatDoor
open Go Go.RowKit
def IntsAt (w:World)(v:Value)(cs:List Int):Prop:=
 (cs=[]∧∃a cap,v= .slice a 0 cap)∨∃b off cap,v= .slice (some ⟨b,off,none⟩) cs.length cap∧b<w.heap.size∧cs.length≤cap∧cap≤maxLen∧∀(i:Nat) c,cs[i]?=some c→w.cell? ⟨b,off+i,none⟩=some (.int .i64 c)
def ItemsAt (w:World)(v:Value)(l:List It):Prop:=
 (l=[]∧∃a cap,v= .slice a 0 cap)∨∃b off cap,v= .slice (some ⟨b,off,none⟩) l.length cap∧b<w.heap.size∧l.length≤cap∧cap≤maxLen∧
  ∀(i:Nat) it,l[i]?=some it→w.cell? ⟨b,off+i*3,none⟩=some (.bool it.any)∧w.cell? ⟨b,off+i*3+1,none⟩=some (.bool it.not)∧∃sv,w.cell? ⟨b,off+i*3+2,none⟩=some sv∧IntsAt w sv it.set
theorem cell_old {w w':World}{p:Addr}(hb:Below w.heap.size w w')(hp:p.block<w.heap.size):w'.cell? p=w.cell? p:=by
 unfold World.cell?;rw[hb.block p.block hp]
theorem IntsAt.keep {w w':World}{v:Value}{cs:List Int}(h:IntsAt w v cs)(hb:Below w.heap.size w w'):IntsAt w' v cs:=by
 rcases h with h|⟨b,off,cap,rfl,h1,h2,h3,h4⟩
 ·exact .inl h
 ·exact .inr ⟨b,off,cap,rfl,Nat.lt_of_lt_of_le h1 hb.size,h2,h3,fun i c hc=>(cell_old (p:=⟨b,off+i,none⟩) hb h1).trans (h4 i c hc)⟩
theorem ItemsAt.keep {w w':World}{v:Value}{l:List It}(h:ItemsAt w v l)(hb:Below w.heap.size w w'):ItemsAt w' v l:=by
 rcases h with h|⟨b,off,cap,rfl,h1,h2,h3,h4⟩
 ·exact .inl h
 ·refine .inr ⟨b,off,cap,rfl,Nat.lt_of_lt_of_le h1 hb.size,h2,h3,fun i it hi=>?_⟩;obtain⟨k1,k2,sv,k3,k4⟩:=h4 i it hi;exact⟨(cell_old (p:=⟨b,off+i*3,none⟩) hb h1).trans k1,(cell_old (p:=⟨b,off+i*3+1,none⟩) hb h1).trans k2,sv,(cell_old (p:=⟨b,off+i*3+2,none⟩) hb h1).trans k3,k4.keep hb⟩
theorem IntsAt.lit (w:World)(cs:List Int)(xs:Array Value)(t:TypeId)(hx:xs=(cs.map (Value.int .i64)).toArray)(hm:cs.length≤1000):IntsAt (w.alloc (.cells xs t)) (.slice (some ⟨w.heap.size,0,none⟩) cs.length cs.length) cs:=by
 subst hx;refine .inr ⟨w.heap.size,0,cs.length,rfl,by simp,Nat.le_refl _,by unfold maxLen;omega,fun i c hc=>?_⟩;rw[cell_of_row _ w.heap.size (0+i) _ t (0,0) (World.alloc_heap_new w _)];simp[hc]
theorem ints_open {w:World}{v:Value}{cs:List Int}(h:IntsAt w v cs):∃A cap,v= .slice A cs.length cap∧∀(i:Nat) c,cs[i]?=some c→∃q o,A=some ⟨q,o,none⟩∧q<w.heap.size∧cs.length≤cap∧w.cell? ⟨q,o+i,none⟩=some (.int .i64 c):=by
 obtain⟨rfl,a,cap,rfl⟩|⟨b,off,cap,rfl,hlt,hcap,hm,hc⟩:=h
 ·exact⟨a,cap,rfl,fun i c hi=>by simp at hi⟩
 ·exact⟨_,cap,rfl,fun i c hi=>⟨b,off,rfl,hlt,hcap,hc i c hi⟩⟩
def RuAt (w:World)(v:Value)(r:Ru):Prop:=
 ∃A cap,v= .agg #[.bool r.pre,.int .i64 r.flag,.bool r.cross,.string r.strip,.string r.add,.slice A r.cond.length cap]∧ItemsAt w (.slice A r.cond.length cap) r.cond
theorem RuAt.keep {w w':World}{v:Value}{r:Ru}(h:RuAt w v r)(hb:Below w.heap.size w w'):RuAt w' v r:=by
 obtain⟨A,cap,rfl,h1⟩:=h;exact⟨A,cap,rfl,h1.keep hb⟩
def okB (s:ByteArray):Bool:=decide (s.size≠0)
theorem box6 {w w':World}{a b c d e f:Value}{t:TypeId}(hb:Below (w.alloc (.cells #[a,b,c,d,e,f] t)).heap.size (w.alloc (.cells #[a,b,c,d,e,f] t)) w'):
  w'.cell? ⟨w.heap.size,0,none⟩=some a∧w'.cell? ⟨w.heap.size,1,none⟩=some b∧w'.cell? ⟨w.heap.size,2,none⟩=some c∧w'.cell? ⟨w.heap.size,3,none⟩=some d∧w'.cell? ⟨w.heap.size,4,none⟩=some e∧w'.cell? ⟨w.heap.size,5,none⟩=some f:=by
 have h:w'.heap[w.heap.size]?=some (.cells #[a,b,c,d,e,f] t (0,0)):=(hb.block w.heap.size (by rw[World.size_alloc];omega)).trans (World.alloc_heap_new w _);refine⟨?_,?_,?_,?_,?_,?_⟩<;>simp[World.cell?,h]
variable {T : World → Prop}
end Go.Proofs.YtfehpcbmdancoaaGreatDoor
namespace Go.Proofs.YtfehpcbmdancoaaGreatDoor
open Go Go.Lib
def linesL:List UInt8→List (List UInt8)
 | []=>[]
 | b::r=>if b=10 then [] ::linesL r else match linesL r with
   | []=>[[b]]
   | h::t=>(b::h)::t
theorem linesL_cons (b:UInt8)(r:List UInt8):linesL (b::r)=if b=10 then [] ::linesL r else match linesL r with
 | []=>[[b]]
 | h::t=>(b::h)::t:=rfl
theorem linesL_app:∀(a r:List UInt8),(10:UInt8) ∉ a→linesL (a++10::r)=a::linesL r
 | [],r,_=>by simp[linesL]
 | b::a,r,h=>by
   have hb:b≠10:=fun e=>h (by rw[e];exact List.mem_cons_self ..);have ih:=linesL_app a r fun e=>h (List.mem_cons_of_mem _ e);show linesL (b::(a++10::r))=_;rw[linesL_cons,if_neg hb,ih]
theorem linesL_one:∀(a:List UInt8),a≠[]→(10:UInt8) ∉ a→linesL a=[a]
 | [],h,_=>absurd rfl h
 | [b],_,h=>by
   have hb:b≠10:=fun e=>h (by rw[e];exact List.mem_cons_self ..);rw[linesL_cons,if_neg hb];rfl
 | b::c::a,_,h=>by
   have hb:b≠10:=fun e=>h (by rw[e];exact List.mem_cons_self ..);have ih:=linesL_one (c::a) (by simp) fun e=>h (List.mem_cons_of_mem _ e);rw[linesL_cons,if_neg hb,ih]
theorem linesL_mem:∀(s l:List UInt8),l∈linesL s→(10:UInt8) ∉ l
 | [],l,h=>by simp[linesL]at h
 | b::r,l,h=>by
   rw[linesL_cons]at h;by_cases hb:b=10
   ·rw[if_pos hb]at h;rcases List.mem_cons.1 h with rfl|h
    ·simp
    ·exact linesL_mem r l h
   ·rw[if_neg hb]at h;split at h
    ·rw[List.mem_singleton]at h;subst h;rw[List.mem_singleton];exact fun e=>hb e.symm
    ·rename_i x t he;rcases List.mem_cons.1 h with rfl|h
     ·intro hm;rcases List.mem_cons.1 hm with e|e
      ·exact hb e.symm
      ·exact linesL_mem r x (by rw[he];exact List.mem_cons_self ..) e
     ·exact linesL_mem r l (by rw[he];exact List.mem_cons_of_mem _ h)
theorem linesL_sum:∀(s:List UInt8),((linesL s).map List.length).sum≤s.length
 | []=>Nat.le_refl _
 | b::r=>by
   have ih:=linesL_sum r;rw[linesL_cons];by_cases hb:b=10
   ·rw[if_pos hb,List.map_cons,List.sum_cons,List.length_cons];simp;omega
   ·rw[if_neg hb];cases he:linesL r with
    | nil=>simp
    | cons x t=>
      rw[he,List.map_cons,List.sum_cons]at ih;rw[List.map_cons,List.sum_cons,List.length_cons,List.length_cons];omega
def plainC (c:Int):Bool:=decide ((65≤c∧c≤90)∨(97≤c∧c≤122))
def usedP (ps:List (Int×Int))(c:Int):Bool:=ps.any fun p=>p.1==c||p.2==c
def caseW:List UInt8:=[67,65,83,69,32]
def okPair (ps:List (Int×Int))(g s:Int):Bool:= !(g==s)&& !plainC g&& !plainC s&& !usedP ps g&& !usedP ps s
def pairL (ps:List (Int×Int))(l:List UInt8):Option (Int×Int):=
 if l.take 5=caseW then match codesB (l.drop 5)with
  | some [g,s]=>if okPair ps g s=true then some (g,s)else none
  | _=>none
 else none
structure Af where
 rules:List Ru
 pairs:List (Int×Int)
deriving DecidableEq
def af0:Af:=⟨[],[]⟩
structure Rd where
 rules:List Ru
 at_:List Nat
 pairs:List (Int×Int)
 bad:Nat
deriving DecidableEq
def rd0:Rd:=⟨[],[],[],0⟩
def stepA (d:Rd)(n:Nat)(l:List UInt8):Rd:=
 if l=[]∨l.head?=some 35 then d
 else match pairL d.pairs l with
  | some p=>{ d with pairs:=d.pairs++[p] }
  | none=>match parseR ⟨l.toArray⟩with
    | some r=>{ d with rules:=d.rules++[r],at_:=d.at_++[n] }
    | none=>{ d with bad:=if d.bad=0 then n else d.bad }
def readA:Rd→Nat→List (List UInt8)→Rd
 | d,_,[]=>d
 | d,n,l::r=>readA (stepA d n l) (n+1) r
def clash (seen:List Ru)(r:Ru):Bool:=seen.any fun q=>q.flag==r.flag&& !(q.pre==r.pre)
def flagA:List Ru→List Ru→List Nat→Nat
 | _,[],_=>0
 | seen,r::rs,at_=>if clash seen r=true then at_.headD 0 else flagA (seen++[r]) rs at_.tail
def endA (d:Rd):Af×Nat×Int:=
 if 200<d.rules.length∨200<d.pairs.length then(af0,0,3)
 else if 0<d.bad then(af0,d.bad,5)
 else if 0<flagA [] d.rules d.at_ then(af0,flagA [] d.rules d.at_,6)
 else(⟨d.rules,d.pairs⟩,0,0)
def parseA (s:ByteArray):Af×Nat×Int:=
 if 65536<s.size then(af0,0,3)else endA (readA rd0 1 (linesL s.data.toList))
def PairsOk (ps:List (Int×Int)):Prop:=∀(a:List (Int×Int)) p b,ps=a++p::b→okPair a p.1 p.2=true∧Pt p.1∧Pt p.2∧p.1≠10∧p.2≠10
theorem PairsOk.nil:PairsOk []:=fun a p b h=>by simp at h
theorem PairsOk.snoc {ps:List (Int×Int)}{p:Int×Int}(h:PairsOk ps)(hp:okPair ps p.1 p.2=true∧Pt p.1∧Pt p.2∧p.1≠10∧p.2≠10):PairsOk (ps++[p]):=by
 intro a q b e;rcases List.append_eq_append_iff.1 e with ⟨c,e1,e2⟩|⟨c,e1,e2⟩
 ·cases c with
  | nil=>
    rw[List.append_nil]at e1;rw[List.nil_append]at e2;obtain⟨e3,-⟩:=List.cons.inj e2;rw[e1,←e3];exact hp
  | cons x c=>
    rw[List.cons_append]at e2;have:=(List.cons.inj e2).2;simp at this
 ·cases c with
  | nil=>
    rw[List.nil_append]at e2;obtain⟨e3,-⟩:=List.cons.inj e2;rw[List.append_nil]at e1;rw[←e1,e3];exact hp
  | cons x c=>
    rw[List.cons_append]at e2;obtain⟨e3,e4⟩:=List.cons.inj e2;rw[←e3]at e1;exact h a q c e1
theorem pairL_says {ps:List (Int×Int)}{l:List UInt8}{p:Int×Int}(h:pairL ps l=some p)(h10:(10:UInt8) ∉ l):okPair ps p.1 p.2=true∧Pt p.1∧Pt p.2∧p.1≠10∧p.2≠10:=by
 unfold pairL at h;split at h
 ·split at h
  ·rename_i g s hc;split at h
   ·rename_i hok;obtain rfl:=Option.some.inj h;obtain⟨hp,-⟩:=codesB_says hc;have he:=encL_codesB hc;have hn:∀c∈[g,s],c≠10:=fun c hcm e=>h10 (List.mem_of_mem_drop (i:=5) (by
     rw[←he];exact(encL_mem hp (b:=10) (by decide)).2 (by rw[show ((10:UInt8).toNat:Int)=10 from rfl,←e];exact hcm)))
    exact⟨hok,hp g (by simp),hp s (by simp),hn g (by simp),hn s (by simp)⟩
   ·cases h
  ·cases h
 ·cases h
theorem mem_sum:∀(ls:List (List UInt8)) l,l∈ls→l.length≤(ls.map List.length).sum
 | [],l,h=>by cases h
 | x::ls,l,h=>by
   rw[List.map_cons,List.sum_cons];rcases List.mem_cons.1 h with rfl|h
   ·omega
   ·have:=mem_sum ls l h;omega
structure En where
 word:ByteArray
 flags:List Int
deriving DecidableEq
def isLet (b:UInt8):Bool:=decide ((97≤b.toNat∧b.toNat≤122)∨(65≤b.toNat∧b.toNat≤90))
def flagsL:List Int→List UInt8→Option (List Int)
 | acc,[]=>some acc
 | acc,b::r=>if isLet b=true∧(b.toNat:Int) ∉ acc then flagsL (acc++[(b.toNat:Int)]) r else none
def wordOk (w:List UInt8):Bool:=decide (w≠[])&&w.all (fun b=>decide (33≤b.toNat∧b≠47∧b≠35))&&validD w
def flagsO (l:List UInt8):Option (List Int):=match l with
 | []=>some []
 | _::fs=>if fs=[]then none else flagsL [] fs
def entryL (l:List UInt8):Option En:=
 if wordOk (l.takeWhile (· ≠47))=true then(flagsO (l.dropWhile (· ≠47))).map fun f=>⟨⟨(l.takeWhile (· ≠47)).toArray⟩,f⟩else none
def noneL (l:List UInt8):Bool:=decide (l≠[])&& !decide (l.head?=some 35)&&(entryL l).isNone
def badE:Nat→List (List UInt8)→Nat
 | _,[]=>0
 | n,l::r=>if noneL l=true then n else badE (n+1) r
def esOf (ls:List (List UInt8)):List En:=ls.filterMap entryL
def endE (ls:List (List UInt8)):List En×Nat×Int:=
 if 2000<(esOf ls).length then([],0,3)else if 0<badE 1 ls then([],badE 1 ls,5)else(esOf ls,0,0)
def parseE (s:ByteArray):List En×Nat×Int:=
 if 65536<s.size then([],0,3)else endE (linesL s.data.toList)
def lineE (e:En):List UInt8:=e.word.data.toList++(if e.flags=[]then []else 47::ptL e.flags)
theorem badE_app:∀(a b:List (List UInt8)) (n:Nat),0<n→badE n (a++b)=if badE n a=0 then badE (n+a.length) b else badE n a
 | [],b,n,_=>by simp[badE]
 | l::a,b,n,h=>by
   have ih:=badE_app a b (n+1) (Nat.succ_pos _);show (if noneL l=true then n else badE (n+1) (a++b))=if (if noneL l=true then n else badE (n+1) a)=0 then badE (n+(a.length+1)) b else(if noneL l=true then n else badE (n+1) a)
   by_cases hl:noneL l=true
   ·rw[if_pos hl,if_neg (by rw[if_pos hl];omega),if_pos hl]
   ·rw[if_neg hl,if_neg hl,ih,show n+1+a.length=n+(a.length+1)by omega]
theorem badE_le:∀(a:List (List UInt8)) (n:Nat),badE n a=0∨(n≤badE n a∧badE n a<n+a.length)
 | [],n=>by simp[badE]
 | l::a,n=>by
   have ih:=badE_le a (n+1);show (if noneL l=true then n else badE (n+1) a)=0∨(n≤(if noneL l=true then n else badE (n+1) a)∧(if noneL l=true then n else badE (n+1) a)<n+(a.length+1));by_cases hl:noneL l=true
   ·rw[if_pos hl];right;omega
   ·rw[if_neg hl];omega
theorem esOf_app (a b:List (List UInt8)):esOf (a++b)=esOf a++esOf b:=by simp[esOf]
theorem esOf_take {ls:List (List UInt8)}{k:Nat}{l:List UInt8}(h:ls[k]?=some l):esOf (ls.take (k+1))=esOf (ls.take k)++(match entryL l with|some e=>[e] |none=>[]):=by
 obtain⟨hlt,he⟩:=List.getElem?_eq_some_iff.1 h;rw[List.take_succ_eq_append_getElem hlt,he,esOf_app];congr 1;unfold esOf;rw[List.filterMap_cons];cases entryL l<;>rfl
theorem badE_take {ls:List (List UInt8)}{k:Nat}{l:List UInt8}(h:ls[k]?=some l):badE 1 (ls.take (k+1))=if badE 1 (ls.take k)=0 then(if noneL l=true then k+1 else 0)else badE 1 (ls.take k):=by
 obtain⟨hk,he⟩:=List.getElem?_eq_some_iff.1 h;rw[List.take_succ_eq_append_getElem hk,he,badE_app _ _ 1 (by decide),List.length_take,Nat.min_eq_left (by omega),show 1+k=k+1 by omega];rfl
theorem esOf_le (ls:List (List UInt8)):(esOf ls).length≤ls.length:=List.length_filterMap_le _ _
theorem esOf_pre (ls:List (List UInt8))(k:Nat):(esOf (ls.take k)).length≤(esOf ls).length:=by
 conv=>rhs;rw[←List.take_append_drop k ls,esOf_app,List.length_append]
 omega
theorem skip_entry {l:List UInt8}(h:l=[]∨l.head?=some 35):entryL l=none:=by
 unfold entryL;rw[if_neg];rcases h with rfl|h
 ·simp[wordOk]
 ·match l,h with
  | b::t,h=>
    obtain rfl:b=35:=by simpa using h
    intro e;rw[List.takeWhile_cons,if_pos (by decide)]at e;unfold wordOk at e;simp at e
theorem noneL_eq (l:List UInt8):noneL l=true↔¬(l=[]∨l.head?=some 35)∧entryL l=none:=by
 unfold noneL;simp[and_assoc,not_or]
theorem flagsL_says:∀(fs:List UInt8) (acc f:List Int),flagsL acc fs=some f→(∀b∈fs,isLet b=true)∧f=acc++fs.map fun b=>(b.toNat:Int)
 | [],acc,f,h=>by simp[flagsL]at h;simp[h]
 | b::r,acc,f,h=>by
   unfold flagsL at h;split at h
   ·rename_i hc;obtain⟨h1,h2⟩:=flagsL_says r _ _ h;refine⟨fun x hx=>?_,by rw[h2];simp⟩;rcases List.mem_cons.1 hx with rfl|hx
    ·exact hc.1
    ·exact h1 x hx
   ·cases h
theorem isLet_nat {b:UInt8}(h:isLet b=true):65≤b.toNat∧b.toNat≤122:=by
 unfold isLet at h;have:=of_decide_eq_true h;omega
theorem ptB_asc {b:UInt8}(h:b.toNat<128):ptB (b.toNat:Int)=[b]:=by
 have key:∀n:Fin 128,ptB ((UInt8.ofNat n.1).toNat:Int)=[UInt8.ofNat n.1]:=by decide +kernel
 have:=key ⟨b.toNat,h⟩;simpa using this
theorem ptL_asc8:∀(fs:List UInt8),(∀b∈fs,b.toNat<128)→ptL (fs.map fun b=>(b.toNat:Int))=fs
 | [],_=>rfl
 | b::fs,h=>by
   have ih:=ptL_asc8 fs fun x hx=>h x (List.mem_cons_of_mem _ hx);unfold ptL at ih⊢;rw[List.map_cons,List.flatMap_cons,ih,ptB_asc (h b (List.mem_cons_self ..))];rfl
theorem entry_line {l:List UInt8}{e:En}(h:entryL l=some e):lineE e=l∧l≠[]∧e.word.size≤l.length∧e.flags.length≤l.length∧(∀f∈e.flags,65≤f∧f≤122)∧wordOk e.word.data.toList=true:=by
 unfold entryL at h;split at h
 ·rename_i hw;cases hf:flagsO (l.dropWhile (· ≠47))with
  | none=>rw[hf]at h;cases h
  | some f=>
    rw[hf]at h;obtain rfl:=Option.some.inj h;have hl:l.takeWhile (· ≠47)++l.dropWhile (· ≠47)=l:=List.takeWhile_append_dropWhile;have hne:l≠[]:=by
     rintro rfl;simp[wordOk]at hw
    have hlen:(l.takeWhile (· ≠47)).length+(l.dropWhile (· ≠47)).length=l.length:=by rw[←List.length_append,hl]
    obtain⟨w,hwd⟩:∃w,w=l.takeWhile (· ≠47):=⟨_,rfl⟩;obtain⟨d,hd⟩:∃w,w=l.dropWhile (· ≠47):=⟨_,rfl⟩;have hhd:∀b t,d=b::t→b=47:=fun b t e=>by
     have h1:=List.head?_dropWhile_not (p:=fun x:UInt8=>decide (x≠47)) l;rw[←hd,e]at h1;simpa using h1
    rw[←hwd]at hw hl hlen⊢;rw[←hd]at hf hl hlen;have hsz:(⟨w.toArray⟩:ByteArray).size=w.length:=by show w.toArray.size=_;rw[List.size_toArray]
    match d,hf with
    | [],hf=>
      obtain rfl: []=f:=Option.some.inj hf;refine⟨by unfold lineE;simpa using hl,hne,by rw[hsz];omega,Nat.zero_le _,by simp,by simpa using hw⟩
    | b::fs,hf=>
      obtain rfl:=hhd b fs rfl;rw[show flagsO (47::fs)=if fs=[]then none else flagsL [] fs from rfl]at hf;by_cases hn:fs=[]
      ·rw[if_pos hn]at hf;cases hf
      ·rw[if_neg hn]at hf
       ·obtain⟨k1,k2⟩:=flagsL_says _ _ _ hf;rw[List.nil_append]at k2;have hfl:f.length=fs.length:=by rw[k2,List.length_map]
        refine⟨?_,hne,by rw[hsz];omega,by dsimp only;rw[hfl];simp at hlen;omega,?_,by simpa using hw⟩
        ·unfold lineE;dsimp only;rw[if_neg (by intro e;apply hn;rw[e]at hfl;exact List.eq_nil_of_length_eq_zero hfl.symm),k2,ptL_asc8 _ fun b hb=>by have:=isLet_nat (k1 b hb);omega];simpa using hl
        ·intro x hx;dsimp only at hx;rw[k2]at hx;obtain⟨b,hb,rfl⟩:=List.mem_map.1 hx;have:=isLet_nat (k1 b hb);omega
 ·cases h
theorem es_from {ls:List (List UInt8)}{e:En}(h:e∈esOf ls):∃l∈ls,entryL l=some e:=by
 obtain⟨l,h1,h2⟩:=List.mem_filterMap.1 h;exact⟨l,h1,h2⟩
theorem parseE_in {s:ByteArray}{e:En}(h:e∈(parseE s).1):∃l∈linesL s.data.toList,entryL l=some e:=by
 unfold parseE endE at h;split at h
 ·cases h
 ·split at h
  ·cases h
  ·split at h
   ·cases h
   ·exact es_from h
theorem parseE_len (s:ByteArray):(parseE s).1.length≤2000:=by
 unfold parseE endE;split
 ·exact Nat.zero_le _
 ·split
  ·exact Nat.zero_le _
  ·split
   ·exact Nat.zero_le _
   ·dsimp only;omega
def ltS (a b:ByteArray):Prop:=a.data.toList<b.data.toList
instance (a b:ByteArray):Decidable (ltS a b):=inferInstanceAs (Decidable (a.data.toList<b.data.toList))
theorem ltS_irrefl (a:ByteArray):¬ltS a a:=List.lt_irrefl _
theorem ltS_trans {a b c:ByteArray}(h:ltS a b)(k:ltS b c):ltS a c:=List.lt_trans h k
theorem ltS_total {a b:ByteArray}(h:¬ltS a b)(hne:a≠b):ltS b a:=by
 have h1:b.data.toList≤a.data.toList:=List.not_lt.1 h;rcases Classical.em (b.data.toList<a.data.toList)with h2|h2
 ·exact h2
 ·exfalso;apply hne;have h3:=List.not_lt.1 h2;have h4:a.data.toList=b.data.toList:=List.le_antisymm h3 h1;have h5:a.data=b.data:=Array.toList_inj.1 h4;cases a;cases b;simp at h5;rw[h5]
theorem ltS_asymm {a b:ByteArray}(h:ltS a b):¬ltS b a:=fun k=>ltS_irrefl a (ltS_trans h k)
def Rising (l:List ByteArray):Prop:=l.Pairwise ltS
def putL:List ByteArray→ByteArray→List ByteArray
 | [],s=>[s]
 | a::r,s=>if ltS a s then a::putL r s else if a=s then a::r else s::a::r
theorem putL_mem (s x:ByteArray):∀l,x∈putL l s↔x=s∨x∈l
 | []=>by simp[putL]
 | a::r=>by
   unfold putL;split
   ·rw[List.mem_cons,putL_mem s x r,List.mem_cons];constructor
    ·rintro (h|h|h)
     ·exact .inr (.inl h)
     ·exact .inl h
     ·exact .inr (.inr h)
    ·rintro (h|h|h)
     ·exact .inr (.inl h)
     ·exact .inl h
     ·exact .inr (.inr h)
   ·split
    ·rename_i h;subst h;rw[List.mem_cons];constructor
     ·exact .inr
     ·rintro (h|h)
      ·exact .inl h
      ·exact h
    ·rw[List.mem_cons]
theorem putL_rising (s:ByteArray):∀l,Rising l→Rising (putL l s)
 | [],_=>by simp[putL,Rising]
 | a::r,h=>by
   obtain⟨h1,h2⟩:=List.pairwise_cons.1 h;unfold putL;split
   ·rename_i hlt;refine List.pairwise_cons.2 ⟨fun x hx=>?_,putL_rising s r h2⟩;rcases (putL_mem s x r).1 hx with rfl|hx
    ·exact hlt
    ·exact h1 x hx
   ·rename_i hn;split
    ·exact h
    ·rename_i hne;have hsa:=ltS_total hn hne;refine List.pairwise_cons.2 ⟨fun x hx=>?_,h⟩;rcases List.mem_cons.1 hx with rfl|hx
     ·exact hsa
     ·exact ltS_trans hsa (h1 x hx)
theorem putL_length (s:ByteArray):∀l,(putL l s).length≤l.length+1
 | []=>by simp[putL]
 | a::r=>by
   unfold putL;split
   ·have:=putL_length s r;simp only[List.length_cons];omega
   ·split<;>simp
theorem rising_eq:∀{l m:List ByteArray},Rising l→Rising m→(∀x,x∈l↔x∈m)→l=m
 | [],[],_,_,_=>rfl
 | [],b::m,_,_,h=>absurd ((h b).2 (List.mem_cons_self ..)) (by simp)
 | a::l,[],_,_,h=>absurd ((h a).1 (List.mem_cons_self ..)) (by simp)
 | a::l,b::m,hl,hm,h=>by
   obtain⟨l1,l2⟩:=List.pairwise_cons.1 hl;obtain⟨m1,m2⟩:=List.pairwise_cons.1 hm;have hab:a=b:=by
    rcases List.mem_cons.1 ((h a).1 (List.mem_cons_self ..))with e|e
    ·exact e
    ·rcases List.mem_cons.1 ((h b).2 (List.mem_cons_self ..))with e'|e'
     ·exact e'.symm
     ·exact absurd (l1 b e') (ltS_asymm (m1 a e))
   subst hab;congr 1;refine rising_eq l2 m2 fun x=>?_;have hx:=h x;rw[List.mem_cons,List.mem_cons]at hx;constructor
   ·intro hm';rcases hx.1 (.inr hm')with e|e
    ·subst e;exact absurd (l1 x hm') (ltS_irrefl x)
    ·exact e
   ·intro hm';rcases hx.2 (.inr hm')with e|e
    ·subst e;exact absurd (m1 x hm') (ltS_irrefl x)
    ·exact e
def putOk (l:List ByteArray)(x:ByteArray):List ByteArray:=if x.size≠0 then putL l x else l
theorem putOk_mem (l:List ByteArray)(s x:ByteArray):x∈putOk l s↔(s.size≠0∧x=s)∨x∈l:=by
 unfold putOk;split
 ·rename_i h;rw[putL_mem];simp[h]
 ·rename_i h;simp at h;simp[h]
def twoL (e:En)(p:Ru)(l:List ByteArray)(s:Ru):List ByteArray:=if s.flag∈e.flags then putOk l (bothR p s e.word)else l
def oneL (rs:List Ru)(e:En)(l:List ByteArray)(r:Ru):List ByteArray:=if r.flag∈e.flags then rs.foldl (twoL e r) (putOk l (applyR r e.word))else l
def formsL (rs:List Ru)(e:En):List ByteArray:=rs.foldl (oneL rs e) [e.word]
def allF (rs:List Ru)(es:List En):List ByteArray:=es.foldl (fun m e=>(formsL rs e).foldl putL m) []
def IsForm (rs:List Ru)(e:En)(x:ByteArray):Prop:=
 x=e.word∨(∃r∈rs,r.flag∈e.flags∧(applyR r e.word).size≠0∧x=applyR r e.word)∨∃p∈rs,∃s∈rs,p.flag∈e.flags∧s.flag∈e.flags∧(bothR p s e.word).size≠0∧x=bothR p s e.word
theorem two_mem (e:En)(p:Ru)(x:ByteArray):∀(rs:List Ru) (l:List ByteArray),x∈rs.foldl (twoL e p) l↔x∈l∨∃s∈rs,s.flag∈e.flags∧(bothR p s e.word).size≠0∧x=bothR p s e.word
 | [],l=>by simp
 | s::rs,l=>by
   rw[List.foldl_cons,two_mem e p x rs];have h1:x∈twoL e p l s↔x∈l∨(s.flag∈e.flags∧(bothR p s e.word).size≠0∧x=bothR p s e.word):=by
    unfold twoL;split
    ·rename_i h;rw[putOk_mem];simp only[h,true_and];exact or_comm
    ·rename_i h;simp[h]
   rw[h1];simp only[List.mem_cons,exists_eq_or_imp,or_assoc]
theorem one_mem (rs:List Ru)(e:En)(x:ByteArray):∀(ts:List Ru) (l:List ByteArray),x∈ts.foldl (oneL rs e) l↔
  x∈l∨∃r∈ts,r.flag∈e.flags∧(((applyR r e.word).size≠0∧x=applyR r e.word)∨∃s∈rs,s.flag∈e.flags∧(bothR r s e.word).size≠0∧x=bothR r s e.word)
 | [],l=>by simp
 | r::ts,l=>by
   rw[List.foldl_cons,one_mem rs e x ts];have h1:x∈oneL rs e l r↔x∈l∨(r.flag∈e.flags∧(((applyR r e.word).size≠0∧x=applyR r e.word)∨∃s∈rs,s.flag∈e.flags∧(bothR r s e.word).size≠0∧x=bothR r s e.word)):=by
    unfold oneL;split
    ·rename_i h;rw[two_mem,putOk_mem];simp only[h,true_and];constructor
     ·rintro ((h|h)|h)
      ·exact .inr (.inl h)
      ·exact .inl h
      ·exact .inr (.inr h)
     ·rintro (h|h|h)
      ·exact .inl (.inr h)
      ·exact .inl (.inl h)
      ·exact .inr h
    ·rename_i h;simp[h]
   rw[h1];simp only[List.mem_cons,exists_eq_or_imp,or_assoc]
theorem forms_mem (rs:List Ru)(e:En)(x:ByteArray):x∈formsL rs e↔IsForm rs e x:=by
 unfold formsL IsForm;rw[one_mem,List.mem_singleton];constructor
 ·rintro (h|⟨r,hr,hf,h|⟨s,hs,h1,h2,h3⟩⟩)
  ·exact .inl h
  ·exact .inr (.inl ⟨r,hr,hf,h⟩)
  ·exact .inr (.inr ⟨r,hr,s,hs,hf,h1,h2,h3⟩)
 ·rintro (h|⟨r,hr,hf,h⟩|⟨p,hp,s,hs,h0,h1,h2,h3⟩)
  ·exact .inl h
  ·exact .inr ⟨r,hr,hf,.inl h⟩
  ·exact .inr ⟨p,hp,h0,.inr ⟨s,hs,h1,h2,h3⟩⟩
theorem puts_mem (x:ByteArray):∀(l m:List ByteArray),x∈l.foldl putL m↔x∈m∨x∈l
 | [],m=>by simp
 | a::l,m=>by
   rw[List.foldl_cons,puts_mem x l,putL_mem,List.mem_cons];constructor
   ·rintro ((h|h)|h)
    ·exact .inr (.inl h)
    ·exact .inl h
    ·exact .inr (.inr h)
   ·rintro (h|h|h)
    ·exact .inl (.inr h)
    ·exact .inl (.inl h)
    ·exact .inr h
theorem puts_rising:∀(l m:List ByteArray),Rising m→Rising (l.foldl putL m)
 | [],_,h=>h
 | a::l,m,h=>puts_rising l _ (putL_rising a m h)
theorem allF_from (rs:List Ru)(x:ByteArray):∀(es:List En) (m:List ByteArray),x∈es.foldl (fun m e=>(formsL rs e).foldl putL m) m↔x∈m∨∃e∈es,IsForm rs e x
 | [],m=>by simp
 | e::es,m=>by
   rw[List.foldl_cons,allF_from rs x es,puts_mem,forms_mem];simp only[List.mem_cons,exists_eq_or_imp,or_assoc]
theorem allF_mem (rs:List Ru)(es:List En)(x:ByteArray):x∈allF rs es↔∃e∈es,IsForm rs e x:=by
 unfold allF;rw[allF_from];simp
theorem allF_rise (rs:List Ru):∀(es:List En) (m:List ByteArray),Rising m→Rising (es.foldl (fun m e=>(formsL rs e).foldl putL m) m)
 | [],_,h=>h
 | _::es,_,h=>allF_rise rs es _ (puts_rising _ _ h)
theorem allF_rising (rs:List Ru)(es:List En):Rising (allF rs es):=allF_rise rs es [] List.Pairwise.nil
def allL (rs:List Ru)(es:List En):List ByteArray×Nat:=if (allF rs es).length≤20000 then(allF rs es,0)else([],3)
theorem both_alike {p p' s s':Ru}{w:ByteArray}(h1:p.pre=true∧p'.pre=true∧s.pre=false∧s'.pre=false∧p.cross=true∧p'.cross=true∧s.cross=true∧s'.cross=true)(h2:(applyR p w).size≠0)(h2':(applyR p' w).size≠0)
  (h3:(applyR s w).size≠0) (h3':(applyR s' w).size≠0) (hp:p.strip=p'.strip∧p.add=p'.add) (hs:s.strip=s'.strip∧s.add=s'.add):bothR p s w=bothR p' s' w:=by
 obtain⟨a1,a2,a3,a4,a5,a6,a7,a8⟩:=h1;unfold bothR;rw[hp.1,hp.2,hs.1,hs.2];by_cases hz:p'.strip.size+s'.strip.size≤w.size
 ·rw[if_pos ⟨a1,a3,a5,a7,h2,h3,hz⟩,if_pos ⟨a2,a4,a6,a8,h2',h3',hz⟩]
 ·rw[if_neg (fun h=>hz h.2.2.2.2.2.2),if_neg (fun h=>hz h.2.2.2.2.2.2)]
theorem both_wants {p s:Ru}{w:ByteArray}(h:(bothR p s w).size≠0):p.pre=true∧s.pre=false∧p.cross=true∧s.cross=true∧(applyR p w).size≠0∧(applyR s w).size≠0:=by
 unfold bothR at h;split at h
 ·rename_i hc
  simp_all
 ·exact absurd rfl h
theorem units_shift (q:Nat):∀(l:List UInt8) p,units (p+q) l=(units p l).map fun u=>(u.1+q,u.2):=by
 apply unit_ind (C:=fun l=>∀p,units (p+q) l=(units p l).map fun u=>(u.1+q,u.2))
 ·intro p;rfl
 ·intro l hne ih p;rw[units_step _ l hne,units_step p l hne,List.map_cons,show p+q+(decodeL l).2=p+(decodeL l).2+q by omega,ih]
def cuts (l:List UInt8):List (List UInt8×Int):=(units 0 l).map fun u=>((l.drop u.1).take u.2.1,u.2.2)
theorem cuts_step (l:List UInt8)(hne:l≠[]):cuts l=(l.take (decodeL l).2,uCode l)::cuts (l.drop (decodeL l).2):=by
 unfold cuts;rw[units_step 0 l hne,List.map_cons,Nat.zero_add];have h:=units_shift (decodeL l).2 (l.drop (decodeL l).2) 0;rw[Nat.zero_add]at h;rw[h,List.map_map];congr 1;apply List.map_congr_left;intro u _;simp[List.drop_drop,Nat.add_comm]
theorem cuts_len (l:List UInt8):(cuts l).length=(units 0 l).length:=by simp[cuts]
theorem cuts_bytes:∀l,(cuts l).flatMap (fun u=>u.1)=l:=by
 apply unit_ind
 ·rfl
 ·intro l hne ih;rw[cuts_step l hne,List.flatMap_cons,ih,List.take_append_drop]
def byC (c:Int):List UInt8:=if Utf8.valid c then(Utf8.encode c).data.toList else []
def smC (ps:List (Int×Int))(c:Int):Option Int:=
 match ps.find? fun p=>decide (p.1=c)with
 | some p=>some p.2
 | none=>if 65≤c∧c≤90 then some (c-65+97)else none
def grC (ps:List (Int×Int))(c:Int):Option Int:=
 match ps.find? fun p=>decide (p.2=c)with
 | some p=>some p.1
 | none=>if 97≤c∧c≤122 then some (c-97+65)else none
def pcS (ps:List (Int×Int))(u:List UInt8×Int):List UInt8:=match smC ps u.2 with
 | some d=>byC d
 | none=>u.1
def smallT (ps:List (Int×Int))(s:List UInt8):List UInt8:=(cuts s).flatMap (pcS ps)
def titleT (ps:List (Int×Int))(s:List UInt8):List UInt8:=if s=[]then []else match grC ps (uCode s)with
 | some d=>byC d++s.drop (decodeL s).2
 | none=>s
def shapeN (g m:Nat)(f:Bool):Int:=if g=0 then 0 else if g=1∧f=true then 1 else if 1<g∧m=0 then 2 else 3
def greatsC (ps:List (Int×Int))(cs:List Int):Nat:=cs.countP fun c=>(smC ps c).isSome
def smallsC (ps:List (Int×Int))(cs:List Int):Nat:=cs.countP fun c=>(grC ps c).isSome
def firstC (ps:List (Int×Int))(cs:List Int):Bool:=match cs with
 | []=>false
 | c::_=>(smC ps c).isSome
def shapeC (ps:List (Int×Int))(cs:List Int):Int:=shapeN (greatsC ps cs) (smallsC ps cs) (firstC ps cs)
def codesT (s:List UInt8):List Int:=(cuts s).map (·.2)
def shapeT (ps:List (Int×Int))(s:List UInt8):Int:=shapeC ps (codesT s)
theorem codesT_units (s:List UInt8):codesT s=(units 0 s).map (·.2.2):=by simp[codesT,cuts]
theorem PairsOk.mem {ps:List (Int×Int)}(h:PairsOk ps){p:Int×Int}(hp:p∈ps):Pt p.1∧Pt p.2∧plainC p.1=false∧plainC p.2=false:=by
 obtain⟨a,b,rfl⟩:=List.append_of_mem hp;obtain⟨h1,h2,h3,_,_⟩:=h a p b rfl;unfold okPair at h1;simp only[Bool.and_eq_true,Bool.not_eq_true']at h1;exact⟨h2,h3,h1.1.1.1.2,h1.1.1.2⟩
theorem small_len {ps:List (Int×Int)}:∀l:List (List UInt8×Int),(l.flatMap (pcS ps)).length≤(l.flatMap fun u=>u.1).length+4*l.length
 | []=>by simp
 | u::l=>by
   have ih:=small_len (ps:=ps) l;rw[List.flatMap_cons,List.flatMap_cons,List.length_append,List.length_append,List.length_cons];have:(pcS ps u).length≤u.1.length+4:=by
    unfold pcS;split
    ·have:∀d,(byC d).length≤4:=by
      intro d;unfold byC;split
      ·exact enc_len d
      ·simp
     have:=this ‹Int›;omega
    ·omega
   omega
theorem small_size (ps:List (Int×Int))(s:List UInt8):(smallT ps s).length≤5*s.length:=by
 have h:=small_len (ps:=ps) (cuts s);rw[cuts_bytes,cuts_len]at h;have:=units_length_le s 0;unfold smallT;omega
structure Di where
 forms:List ByteArray
 pairs:List (Int×Int)
deriving DecidableEq
def longD (l:List ByteArray):Bool:=l.any fun s=>decide (200<s.size)
def newD (fa fl:ByteArray):Option Di×Nat×Nat×Int:=
 if (parseA fa).2.2≠0 then(none,1,(parseA fa).2.1,(parseA fa).2.2)
 else if (parseE fl).2.2≠0 then(none,2,(parseE fl).2.1,(parseE fl).2.2)
 else if (allL (parseA fa).1.rules (parseE fl).1).2≠0 then(none,2,0,3)
 else if longD (allL (parseA fa).1.rules (parseE fl).1).1=true then(none,2,0,3)
 else(some ⟨(allL (parseA fa).1.rules (parseE fl).1).1,(parseA fa).1.pairs⟩,0,0,0)
def bytesD (d:Di):List (List UInt8):=d.forms.map fun s=>s.data.toList
def isD (d:Di)(s:List UInt8):Bool:=decide (s∈bytesD d)
def smallD (d:Di)(s:List UInt8):List UInt8:=smallT d.pairs s
def check0 (d:Di)(s:List UInt8):Bool:=isD d s
def check1 (d:Di)(s:List UInt8):Bool:=decide (shapeT d.pairs s=1)&&isD d (smallD d s)
def check2 (d:Di)(s:List UInt8):Bool:=decide (shapeT d.pairs s=2)&&isD d (smallD d s)
def check3 (d:Di)(s:List UInt8):Bool:=decide (shapeT d.pairs s=2)&&isD d (titleT d.pairs (smallD d s))
def hasD (d:Di)(s:List UInt8):Bool:=check0 d s||check1 d s||check2 d s||check3 d s
def textB (s:List UInt8):ByteArray:=⟨s.toArray⟩
theorem textB_list (s:List UInt8):(textB s).data.toList=s:=by simp[textB]
theorem textB_back (s:ByteArray):textB s.data.toList=s:=by cases s;simp[textB]
theorem flagA_snoc:∀(rs seen:List Ru) (a:List Nat) (r:Ru) (n:Nat),a.length=rs.length→(∀x∈a,0<x)→
  flagA seen (rs++[r]) (a++[n])=if flagA seen rs a=0 then(if clash (seen++rs) r=true then n else 0)else flagA seen rs a
 | [],seen,a,r,n,hl,_=>by
   obtain rfl:a=[]:=List.eq_nil_of_length_eq_zero hl;simp[flagA]
 | q::rs,seen,a,r,n,hl,hp=>by
   match a,hl,hp with
   | m::a,hl,hp=>
     have ih:=flagA_snoc rs (seen++[q]) a r n (by simpa using hl) fun x hx=>hp x (List.mem_cons_of_mem _ hx);have hm:=hp m (List.mem_cons_self ..);rw[List.append_assoc,List.singleton_append]at ih;show (if clash seen q=true then m else flagA (seen++[q]) (rs++[r]) (a++[n]))=if (if clash seen q=true then m else flagA (seen++[q]) rs a)=0 then _ else(if clash seen q=true then m else flagA (seen++[q]) rs a)
     by_cases hc:clash seen q=true
     ·rw[if_pos hc,if_pos hc,if_neg (by omega)]
     ·rw[if_neg hc,if_neg hc,ih]
theorem stepA_grow (d:Rd)(n:Nat)(l:List UInt8):d.rules.length≤(stepA d n l).rules.length∧d.pairs.length≤(stepA d n l).pairs.length:=by
 unfold stepA;split
 ·exact⟨Nat.le_refl _,Nat.le_refl _⟩
 ·split
  ·simp
  ·split<;>simp
theorem readA_grow:∀(ls:List (List UInt8)) (d:Rd) (n:Nat),d.rules.length≤(readA d n ls).rules.length∧d.pairs.length≤(readA d n ls).pairs.length
 | [],d,n=>⟨Nat.le_refl _,Nat.le_refl _⟩
 | l::ls,d,n=>by
   have h1:=stepA_grow d n l;have h2:=readA_grow ls (stepA d n l) (n+1);exact⟨Nat.le_trans h1.1 h2.1,Nat.le_trans h1.2 h2.2⟩
theorem endA_big {d:Rd}(n:Nat)(ls:List (List UInt8))(h:200<d.rules.length∨200<d.pairs.length):endA (readA d n ls)=(af0,0,3):=by
 have hg:=readA_grow ls d n;unfold endA;exact if_pos (by omega)
def AtsOk (d:Rd):Prop:=d.at_.length=d.rules.length∧∀n∈d.at_,0<n
theorem AtsOk.step {d:Rd}{n:Nat}{l:List UInt8}(h:AtsOk d)(hn:0<n):AtsOk (stepA d n l):=by
 unfold stepA;split
 ·exact h
 ·split
  ·exact h
  ·split
   ·refine⟨by simp[h.1],fun m hm=>?_⟩;rcases List.mem_append.1 hm with hm|hm
    ·exact h.2 m hm
    ·rw[List.mem_singleton]at hm;omega
   ·exact h
theorem linesL_split:∀(s:List UInt8),s≠[]→linesL s=s.takeWhile (· ≠10)::linesL (s.dropWhile (· ≠10)).tail
 | [],h=>absurd rfl h
 | b::r,_=>by
   rw[linesL_cons];by_cases hb:b=10
   ·subst hb;rw[if_pos rfl];simp
   ·have hd:decide (b≠10)=true:=by simpa using hb
    rw[if_neg hb,List.takeWhile_cons,if_pos hd,List.dropWhile_cons,if_pos hd];cases r with
    | nil=>rfl
    | cons c r=>
      rw[linesL_split (c::r) (by simp)]
theorem idx10_none {l:List UInt8}(h:(10:UInt8) ∉ l):indexByte l 10= -1:=by
 induction l with
 | nil=>rfl
 | cons b l ih=>
   unfold indexByte;rw[if_neg (by simp;exact fun e=>h (by rw[e];exact List.mem_cons_self ..)),ih fun e=>h (List.mem_cons_of_mem _ e)];rfl
theorem idx10_some {l:List UInt8}(h:(10:UInt8)∈l):indexByte l 10=((l.takeWhile (· ≠10)).length:Nat):=by
 induction l with
 | nil=>cases h
 | cons b l ih=>
   unfold indexByte;by_cases hb:b=10
   ·subst hb;simp
   ·have hm:(10:UInt8)∈l:=by
     rcases List.mem_cons.1 h with e|e
     ·exact absurd e.symm hb
     ·exact e
    have hd:(decide (b≠10))=true:=by simpa using hb
    rw[if_neg (by simpa using hb),ih hm,List.takeWhile_cons,if_pos hd,List.length_cons,if_neg (by simp)];omega
theorem cut10:∀{l:List UInt8},(10:UInt8)∈l→l.take (l.takeWhile (· ≠10)).length=l.takeWhile (· ≠10)∧l.drop ((l.takeWhile (· ≠10)).length+1)=(l.dropWhile (· ≠10)).tail∧(l.takeWhile (· ≠10)).length<l.length
 | [],h=>by cases h
 | b::l,h=>by
   by_cases hb:b=10
   ·subst hb;simp
   ·have hm:(10:UInt8)∈l:=by
     rcases List.mem_cons.1 h with e|e
     ·exact absurd e.symm hb
     ·exact e
    have hd:(decide (b≠10))=true:=by simpa using hb
    obtain⟨h1,h2,h3⟩:=cut10 hm;rw[List.takeWhile_cons,if_pos hd,List.dropWhile_cons,if_pos hd,List.length_cons,List.take_succ_cons,List.drop_succ_cons,h1,h2,List.length_cons];exact⟨rfl,rfl,by omega⟩
theorem all10:∀{l:List UInt8},(10:UInt8) ∉ l→l.takeWhile (· ≠10)=l∧l.dropWhile (· ≠10)=[]
 | [],_=>⟨rfl,rfl⟩
 | b::l,h=>by
   have hb:b≠10:=fun e=>h (by rw[e];exact List.mem_cons_self ..);have hd:(decide (b≠10))=true:=by simpa using hb
   obtain⟨h1,h2⟩:=all10 (l:=l) fun e=>h (List.mem_cons_of_mem _ e);rw[List.takeWhile_cons,if_pos hd,List.dropWhile_cons,if_pos hd,h1];exact⟨rfl,h2⟩
theorem wordsL_first {s a:List UInt8}{ws:List (List UInt8)}(h:wordsL s=a::ws)(ha:a≠[]):s.head?=a.head?:=by
 cases s with
 | nil=>
   have:a=[]:=by
    have h2:wordsL []=[[]]:=rfl;rw[h2]at h;exact(List.cons.inj h).1.symm
   exact absurd this ha
 | cons b t=>
   rw[wordsL_cons]at h;by_cases hb:b=32
   ·rw[if_pos hb]at h;exact absurd (List.cons.inj h).1.symm ha
   ·rw[if_neg hb]at h;split at h
    ·rename_i e;exact absurd e (wordsL_ne t)
    ·rw[←(List.cons.inj h).1];rfl
theorem parseR_head {s:ByteArray}{r:Ru}(h:parseR s=some r):s.data.toList.head?=some 80∨s.data.toList.head?=some 83:=by
 unfold parseR at h;split at h
 ·rename_i a f c x y z hw;unfold parse6 at h;split at h
  ·rename_i hc;rcases hc.1 with e|e
   ·left;rw[wordsL_first hw (by rw[e];decide),e];rfl
   ·right;rw[wordsL_first hw (by rw[e];decide),e];rfl
  ·cases h
 ·cases h
theorem pairL_head67 {ps:List (Int×Int)}{l:List UInt8}{p:Int×Int}(h:pairL ps l=some p):l.head?=some 67:=by
 unfold pairL at h;split at h
 ·rename_i h5;cases l with
  | nil=>cases h5
  | cons b t=>
    have:(b::t).take 5=b::t.take 4:=rfl;rw[this]at h5;rw[(List.cons.inj h5).1];rfl
 ·cases h
theorem skip_none {l:List UInt8}(h:l=[]∨l.head?=some 35):parseR ⟨l.toArray⟩=none∧∀ps,pairL ps l=none:=by
 have hl:(⟨l.toArray⟩:ByteArray).data.toList=l:=by simp
 constructor
 ·cases hp:parseR ⟨l.toArray⟩with
  | none=>rfl
  | some r=>
    have:=parseR_head hp;rw[hl]at this;rcases h with rfl|h
    ·simp at this
    ·rw[h]at this;rcases this with e|e<;>cases e
 ·intro ps;cases hp:pairL ps l with
  | none=>rfl
  | some p=>
    have:=pairL_head67 hp;rcases h with rfl|h
    ·simp at this
    ·rw[h]at this;cases this
theorem stepA_rule1 {d:Rd}{n:Nat}{l:List UInt8}{r:Ru}(h:parseR ⟨l.toArray⟩=some r):stepA d n l={ d with rules:=d.rules++[r],at_:=d.at_++[n] }:=by
 have hs:¬(l=[]∨l.head?=some 35):=fun e=>by rw[(skip_none e).1]at h;cases h
 have hp:pairL d.pairs l=none:=by
  cases hp:pairL d.pairs l with
  | none=>rfl
  | some p=>
    have h1:=pairL_head67 hp;have h2:=parseR_head h;have hl:(⟨l.toArray⟩:ByteArray).data.toList=l:=by simp
    rw[hl,h1]at h2;rcases h2 with e|e<;>cases e
 unfold stepA;rw[if_neg hs,hp];dsimp only;rw[h]
theorem stepA_pair1 {d:Rd}{n:Nat}{l:List UInt8}{p:Int×Int}(h:pairL d.pairs l=some p):stepA d n l={ d with pairs:=d.pairs++[p] }:=by
 have hs:¬(l=[]∨l.head?=some 35):=fun e=>by rw[(skip_none e).2]at h;cases h
 unfold stepA;rw[if_neg hs,h]
theorem stepA_none1 {d:Rd}{n:Nat}{l:List UInt8}(h1:parseR ⟨l.toArray⟩=none)(h2:pairL d.pairs l=none):stepA d n l=if l=[]∨l.head?=some 35 then d else { d with bad:=if d.bad=0 then n else d.bad }:=by
 unfold stepA;by_cases hs:l=[]∨l.head?=some 35
 ·rw[if_pos hs,if_pos hs]
 ·rw[if_neg hs,if_neg hs,h2];dsimp only;rw[h1]
theorem used_take1 {ps:List (Int×Int)}{k:Nat}{p:Int×Int}{c:Int}(h:ps[k]?=some p):usedP (ps.take (k+1)) c=(usedP (ps.take k) c||(p.1==c||p.2==c)):=by
 obtain⟨hlt,he⟩:=List.getElem?_eq_some_iff.1 h;unfold usedP;rw[List.take_succ_eq_append_getElem hlt,he,List.any_append];simp
theorem used_in1 {ps:List (Int×Int)}{k:Nat}{p:Int×Int}{c:Int}(h:ps[k]?=some p)(hc:(p.1==c||p.2==c)=true):usedP ps c=true:=by
 unfold usedP;rw[List.any_eq_true];exact⟨p,List.mem_of_getElem? h,hc⟩
theorem parseS_wide {s:ByteArray}{l:List It}(h:parseS s=some l):parseS (textS l)=some l∧textG l=textS l∧(∀it∈l,∀c∈it.set,Pt c)∧l.length≤8∧∀it∈l,it.set.length≤s.size:=by
 unfold parseS at h;split at h
 ·cases h
 ·rename_i cs hc;obtain⟨h1,h2⟩:=codesB_says hc;obtain⟨g1,g2,g3,g4⟩:=parseC_says h;have hl:s.data.toList.length=s.size:=(Lib.size_eq s).symm;have hpt:∀it∈l,∀c∈it.set,Pt c:=fun it hit c hc=>h1 c ((g1 it hit).2.1 c hc);have hp:∀c∈textC l,Pt c:=textC_mem hpt rfl rfl rfl rfl;have ht:parseS (textS l)=some l:=by
   unfold parseS;show (match codesB (encL (textC l))with|none=>none|some cs=>parseC cs)=_;rw[codesB_enc _ hp];exact parseC_text (fun it hit=>(g1 it hit).1) g3 g4
  refine⟨ht,?_,hpt,g4,fun it hit=>by have:=(g1 it hit).2.2;omega⟩;unfold textG;rw[ptL_enc hp];exact if_pos ht
theorem parseR_wide {s:ByteArray}{r:Ru}(h:parseR s=some r):
  parseR (textR r)=some r∧r.cond.length≤8∧(∀it∈r.cond,it.set.length≤s.size)∧r.strip.size≤20∧r.add.size≤20:=by
 unfold parseR at h;split at h
 ·rename_i a f c x y z hw;have hmem:∀w∈[a,f,c,x,y,z],(32:UInt8) ∉ w∧w.length≤s.data.toList.length:=fun w hw'=>wordsL_mem _ w (by rw[hw];exact hw');unfold parse6 at h;split at h
  ·rename_i hc;split at h
   ·rename_i u v l hx hy hz;simp only[Option.some.injEq]at h;subst h;obtain⟨hf1,hf2,hf3,hf4⟩:=flagL_says hc.2.1;obtain⟨hx1,hx2,hx3⟩:=partL_says hx (hmem x (by simp)).1;obtain⟨hy1,hy2,hy3⟩:=partL_says hy (hmem y (by simp)).1;have hzl:=(hmem z (by simp)).2;have hsl:s.data.toList.length=s.size:=(Lib.size_eq s).symm;have hzz:(⟨z.toArray⟩:ByteArray).size=z.length:=by show z.toArray.size=_;rw[List.size_toArray]
    obtain⟨k1,k2,k3,k4,k5⟩:=parseS_wide hz;refine⟨?_,k4,fun it hit=>by have:=k5 it hit;omega,hx3,hy3⟩;have hnb:(32:UInt8) ∉ (textS l).data.toList:=by
     unfold parseS at hz;split at hz
     ·cases hz
     ·rename_i cs hcs;have hpt:=(codesB_says hcs).1;have he:=encL_codesB hcs;have hz32:(32:Int) ∉ cs:=fun hm=>(hmem z (by simp)).1 (by
       have:=(encL_mem hpt (b:=32) (by decide)).2 hm;rw[he]at this;exact this)
      have hall:=(parseC_says hz).1;intro hm;have hpc:∀c∈textC l,Pt c:=textC_mem k3 rfl rfl rfl rfl;have h1:=(encL_mem hpc (b:=32) (by decide)).1 hm;exact textC_mem (P:=fun c=>c≠32) (fun it hit c hc e=>hz32 (e▸(hall it hit).2.1 c hc)) (by decide) (by decide) (by decide) (by decide) _ h1 rfl
    have hpre:(32:UInt8) ∉ (if decide (a=pfx)=true then pfx else sfx):=by split<;>decide
    have hcr:(32:UInt8) ∉ (if decide (c=[89])=true then [89]else [78]:List UInt8):=by split<;>decide
    have hfl:(32:UInt8) ∉ [UInt8.ofNat (flagL f).toNat]:=by rw[←hf1];exact hf2
    have hline:parseR ⟨(lineL ⟨decide (a=pfx),flagL f,decide (c=[89]),u,v,l⟩ (textG l).data.toList).toArray⟩=some ⟨decide (a=pfx),flagL f,decide (c=[89]),u,v,l⟩:=by
     rw[k2];unfold parseR lineL;dsimp only;rw[wordsL_app _ _ hpre,wordsL_app _ _ hfl,wordsL_app _ _ hcr,wordsL_app _ _ hx2,wordsL_app _ _ hy2,wordsL_one _ hnb];dsimp only;have ha:(if decide (a=pfx)=true then pfx else sfx)=a:=by
      rcases hc.1 with e|e
      ·rw[e];simp
      ·rw[e];decide
     have hcc:(if decide (c=[89])=true then [89]else [78]:List UInt8)=c:=by
      rcases hc.2.2 with e|e
      ·rw[e];simp
      ·rw[e];decide
     rw[ha,hcc,←hf1];unfold parse6;rw[if_pos hc,hx1,hy1,show (⟨((textS l).data.toList).toArray⟩:ByteArray)=textS l by simp,k1]
    unfold textR;rw[if_pos ⟨by dsimp only;omega,hf4,hline⟩];exact hline
   ·cases h
  ·cases h
 ·cases h
theorem parseR_nil:parseR ⟨#[]⟩=none:=by decide +kernel
theorem readA_saidW:∀(ls:List (List UInt8)) (d:Rd) (n:Nat) r,r∈(readA d n ls).rules→r∈d.rules∨∃l∈ls,parseR ⟨l.toArray⟩=some r
 | [],d,n,r,h=> .inl h
 | l::ls,d,n,r,h=>by
   rcases readA_saidW ls (stepA d n l) (n+1) r h with h|⟨x,hx,h⟩
   ·unfold stepA at h;split at h
    ·exact .inl h
    ·split at h
     ·exact .inl h
     ·split at h
      ·rename_i q hq;rcases List.mem_append.1 h with h|h
       ·exact .inl h
       ·rw[List.mem_singleton]at h;subst h;exact .inr ⟨l,List.mem_cons_self ..,hq⟩
      ·exact .inl h
   ·exact .inr ⟨x,List.mem_cons_of_mem _ hx,h⟩
theorem line_le {s l:List UInt8}(h:l∈linesL s):l.length≤s.length:=Nat.le_trans (mem_sum _ l h) (linesL_sum s)
theorem parseA_from {s:ByteArray}{r:Ru}(h:r∈(parseA s).1.rules):∃l:List UInt8,parseR ⟨l.toArray⟩=some r∧l.length≤s.size∧s.size≤65536:=by
 have hsl:s.data.toList.length=s.size:=(Lib.size_eq s).symm;unfold parseA at h;split at h
 ·simp[af0]at h
 ·rename_i hs;unfold endA at h;split at h
  ·simp[af0]at h
  ·split at h
   ·simp[af0]at h
   ·split at h
    ·simp[af0]at h
    ·rcases readA_saidW _ _ _ r h with h|⟨l,hl,h⟩
     ·simp[rd0]at h
     ·exact⟨l,h,by have:=line_le hl;omega,by omega⟩
end Go.Proofs.YtfehpcbmdancoaaGreatDoor
namespace Go.Proofs.YtfehpcbmdancoaaGreatDoor
open Go Go.RowKit
def iCells (it:It)(sv:Value):List Value:=[.bool it.any,.bool it.not,sv]
def ItsRow (w:World)(xs:List Value)(l:List It)(N:Nat→Prop):Prop:=
 ∀(i:Nat) it,l[i]?=some it→∃sv,xs[i*3]?=some (.bool it.any)∧xs[i*3+1]?=some (.bool it.not)∧xs[i*3+2]?=some sv∧IntsAt w sv it.set∧∀b,sv.ownBlock=some b→b<w.heap.size∧¬N b
structure Grow (w0 w:World)(v vc:Value)(xs:List Value)(l:List It)(cs:List Int):Prop where
 row:w.ownsRow w0.heap.size 236 3 v l.length xs
 codes:w.ownsRow w0.heap.size 3 1 vc cs.length (cs.map (Value.int .i64))
 sets:ItsRow w xs l (fun b=>v.ownBlock=some b∨vc.ownBlock=some b)
 below:Below w0.heap.size w0 w
theorem apart {w:World}{B e e' size size' n n':Nat}{v v':Value}{xs xs':List Value}(h:w.ownsRow B e size v n xs)(h':w.ownsRow B e' size' v' n' xs')(hne:e≠e'):v.ownBlock=none∨v.ownBlock≠v'.ownBlock:=by
 rcases h.2 with ⟨rfl,_⟩|⟨g,cap,cur,rfl,_,hg,_⟩
 ·left;rfl
 ·right;rcases h'.2 with ⟨rfl,_⟩|⟨g',cap',cur',rfl,_,hg',_⟩
  ·simp[Value.ownBlock]
  ·simp only[Value.ownBlock];intro e1;obtain rfl:g=g':=Option.some.inj e1;rw[hg]at hg';simp at hg';exact hne hg'.2
theorem IntsAt.still {w w':World}{v:Value}{cs:List Int}(h:IntsAt w v cs)(hs:w.heap.size≤w'.heap.size)(hb:∀b,v.ownBlock=some b→b<w.heap.size→w'.heap[b]?=w.heap[b]?):IntsAt w' v cs:=by
 rcases h with h|⟨b,off,cap,rfl,h1,h2,h3,h4⟩
 ·exact .inl h
 ·exact .inr ⟨b,off,cap,rfl,Nat.lt_of_lt_of_le h1 hs,h2,h3,fun i c hc=>(by unfold World.cell?;rw[show (⟨b,off+i,none⟩:Addr).block=b from rfl,hb b rfl h1];exact h4 i c hc)⟩
theorem ItsRow.still {w w':World}{xs:List Value}{l:List It}{N N':Nat→Prop}(h:ItsRow w xs l N)(hs:w.heap.size≤w'.heap.size)(hb:∀b,b<w.heap.size→¬N b→w'.heap[b]?=w.heap[b]?)(hN:∀b,b<w.heap.size→N' b→N b):ItsRow w' xs l N':=by
 intro i it hi;obtain⟨sv,h1,h2,h3,h4,h5⟩:=h i it hi;exact⟨sv,h1,h2,h3,h4.still hs fun b hv hlt=>hb b hlt (h5 b hv).2,fun b hv=>⟨Nat.lt_of_lt_of_le (h5 b hv).1 hs,fun hn=>(h5 b hv).2 (hN b (h5 b hv).1 hn)⟩⟩
theorem ItsRow.snoc {w:World}{xs:List Value}{l:List It}{N:Nat→Prop}(h:ItsRow w xs l N)(hl:xs.length=l.length*3){it:It}{sv:Value}(hv:IntsAt w sv it.set)(hb:∀b,sv.ownBlock=some b→b<w.heap.size∧¬N b):ItsRow w (xs++iCells it sv) (l++[it]) N:=by
 intro i x hi;rcases Nat.lt_or_ge i l.length with hlt|hge
 ·rw[List.getElem?_append_left hlt]at hi;obtain⟨s,h1,h2,h3,h4,h5⟩:=h i x hi;exact⟨s,by rw[List.getElem?_append_left (by omega)];exact h1,by rw[List.getElem?_append_left (by omega)];exact h2,by rw[List.getElem?_append_left (by omega)];exact h3,h4,h5⟩
 ·rw[List.getElem?_append_right hge]at hi;have h0:i-l.length=0:=by
   have:=(List.getElem?_eq_some_iff.1 hi).1;simp at this;omega
  rw[h0]at hi;obtain rfl:it=x:=by simpa using hi
  obtain rfl:i=l.length:=by omega
  refine⟨sv,?_,?_,?_,hv,hb⟩
  ·rw[List.getElem?_append_right (by omega),hl,Nat.sub_self];rfl
  ·rw[List.getElem?_append_right (by omega),hl,show l.length*3+1-l.length*3=1 by omega];rfl
  ·rw[List.getElem?_append_right (by omega),hl,show l.length*3+2-l.length*3=2 by omega];rfl
theorem Grow.alloc {w0 w:World}{v vc:Value}{xs:List Value}{l:List It}{cs:List Int}(h:Grow w0 w v vc xs l cs)(o:Obj):Grow w0 (w.alloc o) v vc xs l cs:=
 ⟨h.row.alloc o,h.codes.alloc o,h.sets.still (by simp) (fun b hb _=>Below.heap_alloc _ _ _ hb) (fun _ _ hn=>hn),h.below.alloc h.below.size o⟩
theorem Grow.item {w0 w w':World}{v vc v':Value}{xs:List Value}{l:List It}{cs:List Int}{it:It}{sv:Value}(h:Grow w0 w v vc xs l cs)(hown:w'.ownsRow w0.heap.size 236 3 v' (l.length+1) (xs++iCells it sv))(hgrow:w.grownBy w' v.ownBlock)
  (hwh:v'.ownBlock=v.ownBlock∨∀g,v'.ownBlock=some g→w.heap.size≤g) (hv:IntsAt w sv it.set) (hb:∀b,sv.ownBlock=some b→b<w.heap.size∧v.ownBlock≠some b∧vc.ownBlock≠some b):Grow w0 w' v' vc (xs++iCells it sv) (l++[it]) cs:=by
 have hlo:∀z,v.ownBlock=some z→w0.heap.size≤z:=fun z hz=>(h.row.lt z hz).1;refine⟨by rw[List.length_append];exact hown,h.codes.kept hgrow ?_,?_,h.below.grown hgrow h.below.size hlo⟩
 ·rcases apart h.codes h.row (by decide)with e|e
  ·exact .inl e
  ·exact .inr e
 ·have h1:ItsRow w (xs++iCells it sv) (l++[it]) (fun b=>v.ownBlock=some b∨vc.ownBlock=some b):=h.sets.snoc h.row.1 hv fun b hvb=>⟨(hb b hvb).1,fun hn=>hn.elim (hb b hvb).2.1 (hb b hvb).2.2⟩;refine h1.still hgrow.size (fun b hlt hn=>hgrow.block b hlt (fun e=>hn (.inl e.symm))) (fun b hlt hn=>?_);rcases hn with hn|hn
  ·rcases hwh with e|e
   ·exact .inl (e▸hn)
   ·have:=e b hn;omega
  ·exact .inr hn
theorem Grow.start (w:World):Grow w w (.slice none 0 0) (.slice none 0 0) [] [] []:=
 ⟨World.ownsRow_nil _ _ _ _,World.ownsRow_nil _ _ _ _,fun i it h=>by simp at h,Below.refl _ _⟩
theorem Grow.reads {w0 w:World}{v vc:Value}{xs:List Value}{l:List It}{cs:List Int}(h:Grow w0 w v vc xs l cs):ItemsAt w v l∧IntsAt w vc cs:=by
 have hadd:∀(g j:Nat),(⟨g,0,none⟩:Addr).add j=⟨g,j,none⟩:=fun g j=>by unfold Addr.add;split<;>simp_all
 constructor
 ·have hc:= @World.ownsRow.cells _ _ _ _ _ _ _ h.row;rcases h.row.2 with ⟨rfl,h0⟩|⟨g,cap,cur,rfl,hb,hg,hnc,hcm,_⟩
  ·exact .inl ⟨List.eq_nil_of_length_eq_zero h0,_,_,rfl⟩
  ·refine .inr ⟨g,0,cap,rfl,(Array.getElem?_eq_some_iff.1 hg).1,hnc,hcm,fun i it hi=>?_⟩;obtain⟨sv,h1,h2,h3,h4,_⟩:=h.sets i it hi;rw[Nat.zero_add];exact⟨by rw[←hadd];exact hc (g:=g) rfl _ _ h1,by rw[←hadd];exact hc (g:=g) rfl _ _ h2,sv,by rw[←hadd];exact hc (g:=g) rfl _ _ h3,h4⟩
 ·have hc:= @World.ownsRow.cells _ _ _ _ _ _ _ h.codes;rcases h.codes.2 with ⟨rfl,h0⟩|⟨g,cap,cur,rfl,hb,hg,hnc,hcm,_⟩
  ·exact .inl ⟨List.eq_nil_of_length_eq_zero h0,_,_,rfl⟩
  ·refine .inr ⟨g,0,cap,rfl,(Array.getElem?_eq_some_iff.1 hg).1,hnc,hcm,fun i c hi=>?_⟩;rw[Nat.zero_add,←hadd];exact hc (g:=g) rfl i _ (by rw[List.getElem?_map,hi];rfl)
theorem ints_own {w:World}{B:Nat}{vc:Value}{cs:List Int}(h:w.ownsRow B 3 1 vc cs.length (cs.map (Value.int .i64))):IntsAt w vc cs:=by
 have hadd:∀(g j:Nat),(⟨g,0,none⟩:Addr).add j=⟨g,j,none⟩:=fun g j=>by unfold Addr.add;split<;>simp_all
 have hc:= @World.ownsRow.cells _ _ _ _ _ _ _ h;rcases h.2 with ⟨rfl,h0⟩|⟨g,cap,cur,rfl,hb,hg,hnc,hcm,_⟩
 ·exact .inl ⟨List.eq_nil_of_length_eq_zero h0,_,_,rfl⟩
 ·refine .inr ⟨g,0,cap,rfl,(Array.getElem?_eq_some_iff.1 hg).1,hnc,hcm,fun i c hi=>?_⟩;rw[Nat.zero_add,←hadd];exact hc (g:=g) rfl i _ (by rw[List.getElem?_map,hi];rfl)
theorem Tryz.infosN236:(Tryz.prog.info? 236).map (fun i=>(i.zero,i.size,i.bytes))=some (some (.agg #[.bool false,.bool false,.slice none 0 0]),3,32):=by kernel_rfl
theorem news_row (w:World)(cs:Array Value)(t:TypeId):∀j u,cs.toList[j]?=some u→(w.alloc (.cells cs t)).cell? ((⟨w.heap.size,0,none⟩:Addr).add j)=some u:=by
 intro j u hu;have hadd:(⟨w.heap.size,0,none⟩:Addr).add j=⟨w.heap.size,j,none⟩:=by unfold Addr.add;split<;>simp_all
 rw[hadd,cell_of_row _ w.heap.size j cs t (0,0) (World.alloc_heap_new w _)];simpa using hu
theorem news_row2 (w:World)(o:Obj)(cs:Array Value)(t:TypeId):∀j u,cs.toList[j]?=some u→((w.alloc o).alloc (.cells cs t)).cell? ((⟨w.heap.size+1,0,none⟩:Addr).add j)=some u:=by
 have:=news_row (w.alloc o) cs t;rwa[World.size_alloc]at this
theorem add9 (g j:Nat):(⟨g,0,none⟩:Addr).add j=⟨g,j,none⟩:=by unfold Addr.add;split<;>simp_all
theorem own_open9 {w:World}{B e size n:Nat}{v:Value}{xs:List Value}(h:w.ownsRow B e size v n xs)(hn:0<n):
  ∃g cap,v= .slice (some ⟨g,0,none⟩) n cap∧g<w.heap.size∧n≤cap∧cap≤maxLen∧∀j u,xs[j]?=some u→w.cell? ⟨g,j,none⟩=some u:=by
 have hc:= @World.ownsRow.cells _ _ _ _ _ _ _ h;rcases h.2 with ⟨_,rfl⟩|⟨g,cap,cur,rfl,hb,hg,hnc,hcm,_⟩
 ·omega
 ·refine⟨g,cap,rfl,(Array.getElem?_eq_some_iff.1 hg).1,hnc,hcm,fun j u hu=>?_⟩;have hadd:(⟨g,0,none⟩:Addr).add j=⟨g,j,none⟩:=by unfold Addr.add;split<;>simp_all
  rw[←hadd];exact hc (g:=g) rfl j u hu
theorem own_keep9 {w w':World}{B:Nat}{e:TypeId}{size n:Nat}{v:Value}{xs:List Value}(h:w.ownsRow B e size v n xs)(hb:Below w.heap.size w w'):w'.ownsRow B e size v n xs:=by
 refine⟨h.1,?_⟩;rcases h.2 with h|⟨g,cap,cur,h1,h2,h3,h4⟩
 ·exact .inl h
 ·exact .inr ⟨g,cap,cur,h1,h2,(hb.block g (Array.getElem?_eq_some_iff.1 h3).1).trans h3,h4⟩
theorem Grow.keep {w0 w w':World}{v vc:Value}{xs:List Value}{l:List It}{cs:List Int}(h:Grow w0 w v vc xs l cs)(hb:Below w.heap.size w w'):Grow w0 w' v vc xs l cs:=
 ⟨own_keep9 h.row hb,own_keep9 h.codes hb,h.sets.still hb.size (fun b hlt _=>hb.block b hlt) (fun _ _ hn=>hn),h.below.trans (hb.mono h.below.size)⟩
theorem iCells_one (it:It)(a:Option Addr)(n cp:Nat):∀u∈iCells it (.slice a n cp),u.oneCell'=true:=by
 intro u hu;unfold iCells at hu;simp only[List.mem_cons,List.not_mem_nil,or_false]at hu;rcases hu with rfl|rfl|rfl<;>rfl
end Go.Proofs.YtfehpcbmdancoaaGreatDoor
namespace Go.Proofs.YtfehpcbmdancoaaGreatDoor
open Go Go.RowKit Go.Lib
def EnCells (w:World)(b o:Nat)(e:En):Prop:=
 w.cell? ⟨b,o,none⟩=some (.string e.word)∧∃A cap,w.cell? ⟨b,o+1,none⟩=some (.slice A e.flags.length cap)∧IntsAt w (.slice A e.flags.length cap) e.flags
def EntsAt (w:World)(v:Value)(es:List En):Prop:=
 (es=[]∧∃a cap,v= .slice a 0 cap)∨∃b off cap,v= .slice (some ⟨b,off,none⟩) es.length cap∧b<w.heap.size∧es.length≤cap∧cap≤maxLen∧∀(i:Nat) e,es[i]?=some e→EnCells w b (off+i*2) e
theorem EnCells.keep {w w':World}{b o:Nat}{e:En}(h:EnCells w b o e)(hb:Below w.heap.size w w')(hlt:b<w.heap.size):EnCells w' b o e:=by
 obtain⟨h0,A,cap,h1,h2⟩:=h;exact⟨(cell_old (p:=⟨b,o,none⟩) hb hlt).trans h0,A,cap,(cell_old (p:=⟨b,o+1,none⟩) hb hlt).trans h1,h2.keep hb⟩
theorem EntsAt.keep {w w':World}{v:Value}{es:List En}(h:EntsAt w v es)(hb:Below w.heap.size w w'):EntsAt w' v es:=by
 rcases h with h|⟨b,off,cap,rfl,h1,h2,h3,h4⟩
 ·exact .inl h
 ·exact .inr ⟨b,off,cap,rfl,Nat.lt_of_lt_of_le h1 hb.size,h2,h3,fun i r hr=>(h4 i r hr).keep hb h1⟩
theorem ents_form {w:World}{v:Value}{es:List En}(h:EntsAt w v es):∃A cap,v= .slice A es.length cap:=by
 rcases h with ⟨rfl,a,c,e⟩|⟨b,off,c,e,_⟩
 ·exact⟨a,c,e⟩
 ·exact⟨_,c,e⟩
theorem ents_open {w:World}{A:Option Addr}{n cap:Nat}{es:List En}(h:EntsAt w (.slice A n cap) es):∀(k:Nat) e,es[k]?=some e→∃b off,A=some ⟨b,off,none⟩∧b<w.heap.size∧n≤cap∧EnCells w b (off+k*2) e:=by
 intro k e hk;rcases h with ⟨rfl,_⟩|⟨b,off,c,e',h1,h2,h3,h4⟩
 ·simp at hk
 ·injection e' with e1 e2 e3;subst e1 e2 e3;exact⟨b,off,rfl,h1,h2,h4 k e hk⟩
variable {T : World → Prop}
end Go.Proofs.YtfehpcbmdancoaaGreatDoor
namespace Go.Proofs.YtfehpcbmdancoaaGreatDoor
open Go Go.RowKit Go.Lib
def RuCells (w:World)(b o:Nat)(r:Ru):Prop:=
 w.cell? ⟨b,o,none⟩=some (.bool r.pre)∧w.cell? ⟨b,o+1,none⟩=some (.int .i64 r.flag)∧w.cell? ⟨b,o+2,none⟩=some (.bool r.cross)∧w.cell? ⟨b,o+3,none⟩=some (.string r.strip)∧w.cell? ⟨b,o+4,none⟩=some (.string r.add)∧
  ∃A cap,w.cell? ⟨b,o+5,none⟩=some (.slice A r.cond.length cap)∧ItemsAt w (.slice A r.cond.length cap) r.cond
def RulesAt (w:World)(v:Value)(rs:List Ru):Prop:=
 (rs=[]∧∃a cap,v= .slice a 0 cap)∨∃b off cap,v= .slice (some ⟨b,off,none⟩) rs.length cap∧b<w.heap.size∧rs.length≤cap∧cap≤maxLen∧∀(i:Nat) r,rs[i]?=some r→RuCells w b (off+i*6) r
def PairsAt (w:World)(v:Value)(ps:List (Int×Int)):Prop:=
 (ps=[]∧∃a cap,v= .slice a 0 cap)∨∃b off cap,v= .slice (some ⟨b,off,none⟩) ps.length cap∧b<w.heap.size∧ps.length≤cap∧cap≤maxLen∧
  ∀(i:Nat) p,ps[i]?=some p→w.cell? ⟨b,off+i*2,none⟩=some (.int .i64 p.1)∧w.cell? ⟨b,off+i*2+1,none⟩=some (.int .i64 p.2)
def AffAt (w:World)(v:Value)(a:Af):Prop:=
 ∃A cap B cap',v= .agg #[.slice A a.rules.length cap,.slice B a.pairs.length cap']∧RulesAt w (.slice A a.rules.length cap) a.rules∧PairsAt w (.slice B a.pairs.length cap') a.pairs
theorem RuCells.keep {w w':World}{b o:Nat}{r:Ru}(h:RuCells w b o r)(hb:Below w.heap.size w w')(hlt:b<w.heap.size):RuCells w' b o r:=by
 obtain⟨h0,h1,h2,h3,h4,A,cap,h5,h6⟩:=h;exact⟨(cell_old (p:=⟨b,o,none⟩) hb hlt).trans h0,(cell_old (p:=⟨b,o+1,none⟩) hb hlt).trans h1,(cell_old (p:=⟨b,o+2,none⟩) hb hlt).trans h2,(cell_old (p:=⟨b,o+3,none⟩) hb hlt).trans h3,(cell_old (p:=⟨b,o+4,none⟩) hb hlt).trans h4,A,cap,(cell_old (p:=⟨b,o+5,none⟩) hb hlt).trans h5,h6.keep hb⟩
theorem RulesAt.keep {w w':World}{v:Value}{rs:List Ru}(h:RulesAt w v rs)(hb:Below w.heap.size w w'):RulesAt w' v rs:=by
 rcases h with h|⟨b,off,cap,rfl,h1,h2,h3,h4⟩
 ·exact .inl h
 ·exact .inr ⟨b,off,cap,rfl,Nat.lt_of_lt_of_le h1 hb.size,h2,h3,fun i r hr=>(h4 i r hr).keep hb h1⟩
theorem PairsAt.keep {w w':World}{v:Value}{ps:List (Int×Int)}(h:PairsAt w v ps)(hb:Below w.heap.size w w'):PairsAt w' v ps:=by
 rcases h with h|⟨b,off,cap,rfl,h1,h2,h3,h4⟩
 ·exact .inl h
 ·exact .inr ⟨b,off,cap,rfl,Nat.lt_of_lt_of_le h1 hb.size,h2,h3,fun i p hp=>⟨(cell_old (p:=⟨b,off+i*2,none⟩) hb h1).trans (h4 i p hp).1,(cell_old (p:=⟨b,off+i*2+1,none⟩) hb h1).trans (h4 i p hp).2⟩⟩
theorem RulesAt.bd {w:World}{A:Option Addr}{n cap:Nat}{rs:List Ru}(h:RulesAt w (.slice A n cap) rs):rs.length≤maxLen∧n=rs.length:=by
 rcases h with ⟨rfl,a,c,e⟩|⟨b,off,c,e,_,h2,h3,_⟩
 ·injection e with _ e2 _;exact⟨Nat.zero_le _,e2⟩
 ·injection e with _ e2 _;exact⟨Nat.le_trans h2 h3,e2⟩
theorem PairsAt.bd {w:World}{A:Option Addr}{n cap:Nat}{ps:List (Int×Int)}(h:PairsAt w (.slice A n cap) ps):ps.length≤maxLen∧n=ps.length:=by
 rcases h with ⟨rfl,a,c,e⟩|⟨b,off,c,e,_,h2,h3,_⟩
 ·injection e with _ e2 _;exact⟨Nat.zero_le _,e2⟩
 ·injection e with _ e2 _;exact⟨Nat.le_trans h2 h3,e2⟩
theorem box2 {w w':World}{a b:Value}{t:TypeId}(hb:Below (w.alloc (.cells #[a,b] t)).heap.size (w.alloc (.cells #[a,b] t)) w'):
  w'.cell? ⟨w.heap.size,0,none⟩=some a∧w'.cell? ⟨w.heap.size,1,none⟩=some b:=by
 have h:w'.heap[w.heap.size]?=some (.cells #[a,b] t (0,0)):=(hb.block w.heap.size (by rw[World.size_alloc];omega)).trans (World.alloc_heap_new w _);refine⟨?_,?_⟩<;>simp[World.cell?,h]
variable {T : World → Prop}
end Go.Proofs.YtfehpcbmdancoaaGreatDoor
namespace Go.Proofs.YtfehpcbmdancoaaGreatDoor
open Go Go.RowKit Go.Lib Go.Maps
def Sub (w w':World):Prop:=w.heap.size≤w'.heap.size∧∀a v,w.cell? a=some v→w'.cell? a=some v
theorem Sub.trans {a b c:World}(h:Sub a b)(k:Sub b c):Sub a c:=⟨Nat.le_trans h.1 k.1,fun p v hp=>k.2 p v (h.2 p v hp)⟩
theorem Sub.of_below {w w':World}(h:Below w.heap.size w w'):Sub w w':=⟨h.size,fun a _v ha=>(cell_old h (World.block_lt_of_cell? w a ha)).trans ha⟩
def CellsOf (w:World)(k:Nat):Prop:=∃c t f,w.heap[k]?=some (.cells c t f)
theorem CellsOf.lt {w:World}{k:Nat}(h:CellsOf w k):k<w.heap.size:=by
 obtain⟨c,t,f,h⟩:=h;exact(Array.getElem?_eq_some_iff.1 h).1
theorem CellsOf.of_cell {w:World}{a:Addr}{v:Value}(h:w.cell? a=some v):CellsOf w a.block:=by
 unfold World.cell? at h;split at h
 ·rename_i c t f hb;exact⟨_,_,_,hb⟩
 all_goals cases h
theorem Sub.of_keeps {R:Nat→Prop}{w w':World}(h:KeepsAt R w w')(hR:∀k,CellsOf w k→R k):Sub w w':=by
 refine⟨h.size,fun a v ha=>?_⟩;have hc:=CellsOf.of_cell ha;unfold World.cell? at ha⊢;rw[h.block a.block hc.lt (hR _ hc)];exact ha
theorem IntsAt.sub {w w':World}{v:Value}{cs:List Int}(h:IntsAt w v cs)(hs:Sub w w'):IntsAt w' v cs:=by
 rcases h with h|⟨b,off,cap,rfl,h1,h2,h3,h4⟩
 ·exact .inl h
 ·exact .inr ⟨b,off,cap,rfl,Nat.lt_of_lt_of_le h1 hs.1,h2,h3,fun i c hc=>hs.2 _ _ (h4 i c hc)⟩
theorem ItemsAt.sub {w w':World}{v:Value}{l:List It}(h:ItemsAt w v l)(hs:Sub w w'):ItemsAt w' v l:=by
 rcases h with h|⟨b,off,cap,rfl,h1,h2,h3,h4⟩
 ·exact .inl h
 ·refine .inr ⟨b,off,cap,rfl,Nat.lt_of_lt_of_le h1 hs.1,h2,h3,fun i it hi=>?_⟩;obtain⟨k1,k2,sv,k3,k4⟩:=h4 i it hi;exact⟨hs.2 _ _ k1,hs.2 _ _ k2,sv,hs.2 _ _ k3,k4.sub hs⟩
theorem RuAt.sub {w w':World}{v:Value}{r:Ru}(h:RuAt w v r)(hs:Sub w w'):RuAt w' v r:=by
 obtain⟨A,cap,rfl,h1⟩:=h;exact⟨A,cap,rfl,h1.sub hs⟩
def StrsAt (w:World)(v:Value)(l:List ByteArray):Prop:=
 (l=[]∧∃a cap,v= .slice a 0 cap)∨∃b off cap,v= .slice (some ⟨b,off,none⟩) l.length cap∧b<w.heap.size∧l.length≤cap∧cap≤maxLen∧∀(i:Nat) s,l[i]?=some s→w.cell? ⟨b,off+i,none⟩=some (.string s)
theorem StrsAt.keep {w w':World}{v:Value}{l:List ByteArray}(h:StrsAt w v l)(hb:Below w.heap.size w w'):StrsAt w' v l:=by
 rcases h with h|⟨b,off,cap,rfl,h1,h2,h3,h4⟩
 ·exact .inl h
 ·exact .inr ⟨b,off,cap,rfl,Nat.lt_of_lt_of_le h1 hb.size,h2,h3,fun i c hc=>(cell_old (p:=⟨b,off+i,none⟩) hb h1).trans (h4 i c hc)⟩
theorem strs_form {w:World}{v:Value}{l:List ByteArray}(h:StrsAt w v l):∃A cap,v= .slice A l.length cap:=by
 rcases h with ⟨rfl,a,c,e⟩|⟨b,off,c,e,_⟩
 ·exact⟨a,c,e⟩
 ·exact⟨_,c,e⟩
theorem strs_open {w:World}{A:Option Addr}{n cap:Nat}{l:List ByteArray}(h:StrsAt w (.slice A n cap) l):∀(k:Nat) s,l[k]?=some s→∃b off,A=some ⟨b,off,none⟩∧b<w.heap.size∧n≤cap∧w.cell? ⟨b,off+k,none⟩=some (.string s):=by
 intro k e hk;rcases h with ⟨rfl,_⟩|⟨b,off,c,e',h1,h2,h3,h4⟩
 ·simp at hk
 ·injection e' with e1 e2 e3;subst e1 e2 e3;exact⟨b,off,rfl,h1,h2,h4 k e hk⟩
theorem strs_own {w:World}{B n:Nat}{v:Value}{l:List ByteArray}(h:w.ownsRow B 9 1 v n (l.map Value.string))(hn:n=l.length):StrsAt w v l:=by
 subst hn;have hc:= @World.ownsRow.cells _ _ _ _ _ _ _ h;rcases h.2 with ⟨rfl,h0⟩|⟨g,cap,cur,rfl,hb,hg,hnc,hcm,_⟩
 ·exact .inl ⟨List.eq_nil_of_length_eq_zero h0,_,_,rfl⟩
 ·refine .inr ⟨g,0,cap,rfl,(Array.getElem?_eq_some_iff.1 hg).1,hnc,hcm,fun i c hi=>?_⟩;rw[Nat.zero_add,←add9];exact hc (g:=g) rfl i _ (by rw[List.getElem?_map,hi];rfl)
def heldR (v:Value):Option (DataW Value×List MemPlace):=some (.held v,[])
theorem heldR_inv {v:Value}{y:DataW Value×List MemPlace}(h:heldR v=some y):y=(.held v,[]):=(Option.some.inj h).symm
theorem omap_below {H:Type}{P:Program}{k:TypeId}{R:Value→Option (DataW H×List MemPlace)}{w w':World}{b n:Nat}{D:DataW H}(h:w.ownsMap P k R b n D)(hb:Below w.heap.size w w'):w'.ownsMap P k R b n D:=by
 have hlt:=h.lt;obtain⟨es,clock,h1,h2⟩:=h;exact⟨es,clock,(hb.block b hlt).trans h1,h2⟩
theorem omap_same {H:Type}{P:Program}{k:TypeId}{R:Value→Option (DataW H×List MemPlace)}{w w':World}{b n:Nat}{D:DataW H}(h:w.ownsMap P k R b n D)(hb:w'.heap[b]?=w.heap[b]?):w'.ownsMap P k R b n D:=by
 obtain⟨es,clock,h1,h2⟩:=h;exact⟨es,clock,hb.trans h1,h2⟩
theorem omap_fit {H:Type}{P:Program}{k:TypeId}{R:Value→Option (DataW H×List MemPlace)}{w:World}{b n:Nat}{D:DataW H}(h:w.ownsMap P k R b n D):w.ownsMap P k R b (Maps.size D) D:=by
 obtain⟨es,clock,h1,h2,h3,rfl⟩:=h;refine⟨es,clock,h1,h2,?_,rfl⟩;simp[Maps.size,length_sorted]
theorem keyed_int:Keyed Tryz.prog 3:=int_keyed Tryz.underlying3
theorem keyed_str:Keyed Tryz.prog 9:=string_keyed Tryz.underlying9
def In64 (f:Int):Prop:= -9223372036854775808≤f∧f≤9223372036854775807
theorem wf_in {f:Int}(h:In64 f):(Lit.int .i64 f).wf=true:=WalkArith.wf_i64 h
theorem key_int {f:Int}(h:In64 f):keyOf Tryz.prog 3 (.int .i64 f)=some (.int .i64 f):=keyOf_int_mk Tryz.underlying3 (wf_in h)
theorem key_str {s:ByteArray}(h:s.size≤maxLen):keyOf Tryz.prog 9 (.string s)=some (.string s.data.toList):=Go.WideMaps.keyOf_string_mk Tryz.underlying9 h
def RuOn (Wb w:World)(b o:Nat)(r:Ru):Prop:=
 w.cell? ⟨b,o,none⟩=some (.bool r.pre)∧w.cell? ⟨b,o+1,none⟩=some (.int .i64 r.flag)∧w.cell? ⟨b,o+2,none⟩=some (.bool r.cross)∧w.cell? ⟨b,o+3,none⟩=some (.string r.strip)∧w.cell? ⟨b,o+4,none⟩=some (.string r.add)∧
  ∃A cap,w.cell? ⟨b,o+5,none⟩=some (.slice A r.cond.length cap)∧ItemsAt Wb (.slice A r.cond.length cap) r.cond
def RulesOn (Wb w:World)(v:Value)(rs:List Ru):Prop:=
 (rs=[]∧∃a cap,v= .slice a 0 cap)∨∃b off cap,v= .slice (some ⟨b,off,none⟩) rs.length cap∧b<w.heap.size∧rs.length≤cap∧cap≤maxLen∧∀(i:Nat) r,rs[i]?=some r→RuOn Wb w b (off+i*6) r
theorem RulesOn.sub {Wb w w':World}{v:Value}{rs:List Ru}(h:RulesOn Wb w v rs)(hs:Sub w w'):RulesOn Wb w' v rs:=by
 rcases h with h|⟨b,off,cap,rfl,h1,h2,h3,h4⟩
 ·exact .inl h
 ·refine .inr ⟨b,off,cap,rfl,Nat.lt_of_lt_of_le h1 hs.1,h2,h3,fun i r hr=>?_⟩;obtain⟨k0,k1,k2,k3,k4,A,c,k5,k6⟩:=h4 i r hr;exact⟨hs.2 _ _ k0,hs.2 _ _ k1,hs.2 _ _ k2,hs.2 _ _ k3,hs.2 _ _ k4,A,c,hs.2 _ _ k5,k6⟩
def TabAt (Wb w:World)(b:Nat)(rs:List Ru):Prop:=
 ∃(n:Nat) (D:DataW Value) (U:Int→Value),w.ownsMap Tryz.prog 3 heldR b n D∧(∀f,D.atKey (.int .i64 f) (.held (.slice none 0 0))= .held (U f))∧∀f,RulesOn Wb w (U f) (rs.filter fun r=>decide (r.flag=f))
theorem TabAt.on {Wb w w':World}{b:Nat}{rs:List Ru}(h:TabAt Wb w b rs)(hs:Sub w w')(hb:w'.heap[b]?=w.heap[b]?):TabAt Wb w' b rs:=by
 obtain⟨n,D,U,h1,h2,h3⟩:=h;exact⟨n,D,U,omap_same h1 hb,h2,fun f=>(h3 f).sub hs⟩
theorem TabAt.lt {Wb w:World}{b:Nat}{rs:List Ru}(h:TabAt Wb w b rs):b<w.heap.size:=by
 obtain⟨n,D,U,h1,_⟩:=h;exact h1.lt
theorem TabAt.keep {Wb w w':World}{b:Nat}{rs:List Ru}(h:TabAt Wb w b rs)(hb:Below w.heap.size w w'):TabAt Wb w' b rs:=h.on (.of_below hb) (hb.block b h.lt)
end Go.Proofs.YtfehpcbmdancoaaGreatDoor
namespace Go.Proofs.YtfehpcbmdancoaaGreatDoor
open Go Go.RowKit
theorem items_open {w:World}{v:Value}{l:List It}(h:ItemsAt w v l):∃A cap,v= .slice A l.length cap∧∀(i:Nat) it,l[i]?=some it→∃b off,A=some ⟨b,off,none⟩∧b<w.heap.size∧l.length≤cap∧w.cell? ⟨b,off+i*3,none⟩=some (.bool it.any)∧w.cell? ⟨b,off+i*3+1,none⟩=some (.bool it.not)∧∃sv,w.cell? ⟨b,off+i*3+2,none⟩=some sv∧IntsAt w sv it.set:=by
 obtain⟨rfl,a,cap,rfl⟩|⟨b,off,cap,rfl,hlt,hcap,hm,hc⟩:=h
 ·exact⟨a,cap,rfl,fun i it hi=>by simp at hi⟩
 ·exact⟨_,cap,rfl,fun i it hi=>⟨b,off,rfl,hlt,hcap,hc i it hi⟩⟩
end Go.Proofs.YtfehpcbmdancoaaGreatDoor
namespace Go.Proofs.YtfehpcbmdancoaaGreatDoor.Af
open Go Go.RowKit Go.Lib
theorem rules_open {w:World}{A:Option Addr}{n cap:Nat}{rs:List Ru}(h:RulesAt w (.slice A n cap) rs):∀(k:Nat) r,rs[k]?=some r→∃b off,A=some ⟨b,off,none⟩∧b<w.heap.size∧n≤cap∧RuCells w b (off+k*6) r:=by
 intro k r hk;rcases h with ⟨rfl,_⟩|⟨b,off,c,e,h1,h2,h3,h4⟩
 ·simp at hk
 ·injection e with e1 e2 e3;subst e1 e2 e3;exact⟨b,off,rfl,h1,h2,h4 k r hk⟩
theorem pairs_open {w:World}{A:Option Addr}{n cap:Nat}{ps:List (Int×Int)}(h:PairsAt w (.slice A n cap) ps):∀(k:Nat) p,ps[k]?=some p→∃b off,A=some ⟨b,off,none⟩∧b<w.heap.size∧n≤cap∧w.cell? ⟨b,off+k*2,none⟩=some (.int .i64 p.1)∧w.cell? ⟨b,off+k*2+1,none⟩=some (.int .i64 p.2):=by
 intro k p hk;rcases h with ⟨rfl,_⟩|⟨b,off,c,e,h1,h2,h3,h4⟩
 ·simp at hk
 ·injection e with e1 e2 e3;subst e1 e2 e3;exact⟨b,off,rfl,h1,h2,h4 k p hk⟩
theorem _root_.Go.Proofs.YtfehpcbmdancoaaGreatDoor.RuCells.at_ {w:World}{b o:Nat}{r:Ru}(h:RuCells w b o r):∃A cap,w.cell? ⟨b,o,none⟩=some (.bool r.pre)∧w.cell? ⟨b,o+1,none⟩=some (.int .i64 r.flag)∧w.cell? ⟨b,o+2,none⟩=some (.bool r.cross)∧w.cell? ⟨b,o+3,none⟩=some (.string r.strip)∧w.cell? ⟨b,o+4,none⟩=some (.string r.add)∧w.cell? ⟨b,o+5,none⟩=some (.slice A r.cond.length cap)∧
  RuAt w (.agg #[.bool r.pre,.int .i64 r.flag,.bool r.cross,.string r.strip,.string r.add,.slice A r.cond.length cap]) r:=by
 obtain⟨h0,h1,h2,h3,h4,A,cap,h5,h6⟩:=h;exact⟨A,cap,h0,h1,h2,h3,h4,h5,A,cap,rfl,h6⟩
end Go.Proofs.YtfehpcbmdancoaaGreatDoor.Af
namespace Go.Proofs.YtfehpcbmdancoaaGreatDoor
open Go Go.Lib
def Head (t:List UInt8):Prop:=(t.getD 0 0).toNat/64≠2
theorem Head.cons {b:UInt8}(h:b.toNat/64≠2)(t:List UInt8):Head (b::t):=by simpa[Head]using h
theorem byC_pt {c:Int}(h:Pt c):byC c=(Utf8.encode c).data.toList:=by unfold Pt at h;unfold byC;rw[if_pos h]
theorem enc_len_pos {c:Int}(h:Pt c):byC c≠[]∧Head (byC c)∧(byC c).length≤4:=by
 rw[byC_pt h];refine⟨?_,?_,enc_len c⟩
 ·obtain⟨k,rfl,hk⟩:=pt_nat h;intro e;have:=(decode_encode k hk).2.1;rw[Lib.size_eq,e]at this;simp at this
 ·obtain⟨k,rfl,hk⟩:=pt_nat h;rcases enc_cases k hk with ⟨h,e⟩|⟨h1,h2,e⟩|⟨h1,h2,h3,e⟩|⟨h1,h2,e⟩
  ·rw[e];exact Head.cons (by rw[ofNat_toNat k (by omega)];omega) _
  ·rw[e];exact Head.cons (by rw[ofNat_toNat _ (by omega)];omega) _
  ·rw[e];exact Head.cons (by rw[ofNat_toNat _ (by omega)];omega) _
  ·rw[e];exact Head.cons (by rw[ofNat_toNat _ (by omega)];omega) _
theorem cuts_code {c:Int}(h:Pt c)(t:List UInt8):cuts (byC c++t)=(byC c,c)::cuts t:=by
 have hb:=byC_pt h;obtain⟨hne,-,-⟩:=enc_len_pos h;obtain⟨k,rfl,hk⟩:=pt_nat h;obtain⟨hd,h1,h4,hcut⟩:=decode_encode k hk;rw[←hb]at hd;have hsz:(Utf8.encode k).size=(byC k).length:=by rw[hb,Lib.size_eq]
 rw[hsz]at hd h1;have hgood:¬((decodeL (byC k)).1=65533∧(decodeL (byC k)).2=1):=by
  rw[hd];rintro⟨e1,e2⟩;dsimp only at e1 e2;subst e1;rw[hb]at e2;revert e2;decide +kernel
 have hd2:=decodeL_append (byC k) t hne hgood;have hl:(byC k++t)≠[]:=by simp[hne]
 have hub:uBad (byC k++t)=false:=by unfold uBad;rw[hd2];exact decide_eq_false hgood
 rw[cuts_step _ hl,hd2,hd];have hu:uCode (byC k++t)=k:=by
  unfold uCode;rw[hub,hd2,hd];simp
 rw[hu];simp
theorem grC_pt {ps:List (Int×Int)}(h:PairsOk ps){c d:Int}(e:grC ps c=some d):Pt d:=by
 unfold grC at e;split at e
 ·rename_i p hp;obtain rfl:p.1=d:=by simpa using e
  exact(h.mem (List.mem_of_find?_eq_some hp)).1
 ·split at e
  ·obtain rfl:c-97+65=d:=by simpa using e
   unfold Pt Utf8.valid;simp;omega
  ·cases e
theorem flat_id {ps:List (Int×Int)}:∀l:List (List UInt8×Int),(∀u∈l,smC ps u.2=none)→l.flatMap (pcS ps)=l.flatMap fun u=>u.1
 | [],_=>rfl
 | u::l,h=>by
   rw[List.flatMap_cons,List.flatMap_cons,flat_id l fun x hx=>h x (List.mem_cons_of_mem _ hx)];congr 1;unfold pcS;rw[h u (List.mem_cons_self ..)]
end Go.Proofs.YtfehpcbmdancoaaGreatDoor
namespace Go.Proofs.YtfehpcbmdancoaaGreatDoor
open Go Go.RowKit Go.Lib
theorem linesL_flat:∀(ls:List (List UInt8)),(∀l∈ls,(10:UInt8) ∉ l)→linesL ((ls.map fun l=>l++[10]).flatten)=ls
 | [],_=>rfl
 | l::ls,h=>by
   have ih:=linesL_flat ls fun x hx=>h x (List.mem_cons_of_mem _ hx);rw[List.map_cons,List.flatten_cons,List.append_assoc];show linesL (l++10::(ls.map fun l=>l++[10]).flatten)=_;rw[linesL_app _ _ (h l (List.mem_cons_self ..)),ih]
theorem badE_zero:∀(a:List (List UInt8)) (n:Nat),0<n→(badE n a=0↔∀l∈a,noneL l=false)
 | [],n,_=>by simp[badE]
 | l::a,n,h=>by
   have ih:=badE_zero a (n+1) (Nat.succ_pos _);show (if noneL l=true then n else badE (n+1) a)=0↔_;by_cases hl:noneL l=true
   ·rw[if_pos hl];constructor
    ·intro e;omega
    ·intro e;have:=e l (List.mem_cons_self ..);rw[hl]at this;cases this
   ·rw[if_neg hl,ih];constructor
    ·intro e x hx;rcases List.mem_cons.1 hx with rfl|hx
     ·simpa using hl
     ·exact e x hx
    ·exact fun e x hx=>e x (List.mem_cons_of_mem _ hx)
theorem parseE_of {s:ByteArray}(hs:s.size≤65536)(he:(esOf (linesL s.data.toList)).length≤2000)(hb:∀l∈linesL s.data.toList,noneL l=false):parseE s=(esOf (linesL s.data.toList),0,0):=by
 unfold parseE endE;rw[if_neg (by omega),if_neg (by omega),if_neg (by rw[(badE_zero _ 1 (by decide)).2 hb];omega)]
theorem puts_len:∀(f m:List ByteArray),(f.foldl putL m).length≤m.length+f.length
 | [],_=>Nat.le_refl _
 | x::f,m=>by
   have h:=puts_len f (putL m x);have h1:=putL_length x m;rw[List.foldl_cons,List.length_cons];omega
theorem tmod9 (v n:Int)(hn:0<n):(v.tmod n<0→v%n=v.tmod n+n)∧(0≤v.tmod n→v%n=v.tmod n)∧ -n<v.tmod n∧v.tmod n<n:=by
 have h1:=Int.emod_nonneg v (show n≠0 by omega);have h2:=Int.emod_lt_of_pos v hn;have ht:v.tmod n=if 0≤v then v%n else if v%n=0 then 0 else v%n-n:=by
  rw[Int.tmod_eq_emod];have hd:(n∣v)↔v%n=0:=Int.dvd_iff_emod_eq_zero;by_cases h0:0≤v
  ·simp[h0]
  ·by_cases hz:v%n=0
   ·simp[h0,hd,hz]
   ·have:(n.natAbs:Int)=n:=by omega
    simp[h0,hd,hz,this]
 by_cases h0:0≤v
 ·have h:v.tmod n=v%n:=by rw[ht,if_pos h0]
  omega
 ·by_cases hz:v%n=0
  ·have h:v.tmod n=0:=by rw[ht,if_neg h0,if_pos hz]
   omega
  ·have h:v.tmod n=v%n-n:=by rw[ht,if_neg h0,if_neg hz]
   omega
theorem ret_int9 {k:IntKind}{a b:Int}(h:a=b):Ending.returned (.int k a)= .returned (.int k b):=by rw[h]
set_option maxHeartbeats 400000 in
theorem place9 (v n:Int)(w:World)(hn:0<n)(hn2:n≤1000000000000000000):
  Calls Tryz.prog 27 #[.int .i64 v,.int .i64 n] w fun e w'=>e= .returned (.int .i64 (v%n))∧w=w':=by
 obtain⟨hneg,hpos,hb1,hb2⟩:=tmod9 v n hn;have hz0:(n==0)=false:=by simp;omega
 have HN:=hid hneg;have HP:=hid hpos;clear hneg hpos;go_enter Tryz.func27,Tryz.ntmps27;go_wp2;all_goals go_ret
 ·exact⟨ret_int9 (HN.out (by assumption)).symm,rfl⟩
 ·exact⟨ret_int9 (HP.out (by omega)).symm,rfl⟩
end Go.Proofs.YtfehpcbmdancoaaGreatDoor
namespace Go.Proofs.YtfehpcbmdancoaaGreatDoor.Ls
open Go Go.Lib
def nst (b:UInt8):Bool:=decide (b≠47∧b≠35)
def isW (l:List UInt8):Bool:=match codesB l with
 | some cs=>decide (0<cs.length)&&cs.all fun c=>decide (33≤c)
 | none=>false
def gEntry (l:List UInt8):Option En:=
 if isW (l.takeWhile nst)=true then match l.dropWhile nst with
  | []=>some ⟨⟨(l.takeWhile nst).toArray⟩,[]⟩
  | b::fs=>if b=47∧fs≠[]then(flagsL [] fs).map fun f=>⟨⟨(l.takeWhile nst).toArray⟩,f⟩else none
 else none
theorem takeW_mem {p:UInt8→Bool}:∀(l:List UInt8) x,x∈l.takeWhile p→p x=true
 | [],x,h=>by cases h
 | y::l,x,h=>by
   rw[List.takeWhile_cons]at h;by_cases hy:p y=true
   ·rw[if_pos hy]at h;rcases List.mem_cons.1 h with rfl|h
    ·exact hy
    ·exact takeW_mem l x h
   ·rw[if_neg hy]at h;cases h
theorem dropW_head {p:UInt8→Bool}:∀(l:List UInt8) (b:UInt8) (r:List UInt8),l.dropWhile p=b::r→p b=false
 | [],b,r,h=>by cases h
 | y::l,b,r,h=>by
   rw[List.dropWhile_cons]at h;by_cases hy:p y=true
   ·rw[if_pos hy]at h;exact dropW_head l b r h
   ·rw[if_neg hy]at h;obtain⟨rfl,_⟩:=List.cons.inj h;simpa using hy
theorem takeW_app {p:UInt8→Bool}:∀(a r:List UInt8),(∀x∈a,p x=true)→(a++r).takeWhile p=a++r.takeWhile p∧(a++r).dropWhile p=r.dropWhile p
 | [],r,_=>⟨rfl,rfl⟩
 | x::a,r,h=>by
   have ih:=takeW_app a r fun y hy=>h y (List.mem_cons_of_mem _ hy);have hx:=h x (List.mem_cons_self ..);simp only[List.cons_append,List.takeWhile_cons,List.dropWhile_cons,hx,if_true];exact⟨by rw[ih.1],ih.2⟩
theorem pt_lt {c:Int}(h:Pt c):0≤c:=by
 obtain⟨k,rfl,_⟩:=pt_nat h;omega
theorem word_same {l:List UInt8}(h:∀b∈l,nst b=true):wordOk l=isW l:=by
 unfold wordOk isW;cases hc:codesB l with
 | none=>
   have hv:validD l=false:=by
    unfold codesB at hc;split at hc
    ·cases hc
    ·rename_i hn;simpa using hn
   rw[hv];simp
 | some cs=>
   have hv:validD l=true:=by
    unfold codesB at hc;split at hc
    ·rename_i hn;exact hn
    ·cases hc
   have he:=encL_codesB hc;have hpt:=(codesB_says hc).1;rw[hv,Bool.and_true];have h1:decide (l≠[])=decide (0<cs.length):=by
    apply decide_eq_decide.2;constructor
    ·intro hl;rcases Nat.eq_zero_or_pos cs.length with h0|h0
     ·rw[List.eq_nil_of_length_eq_zero h0]at he;exact absurd he.symm hl
     ·exact h0
    ·rintro h0 rfl;have:=(codesB_says hc).2;simp at this;rw[this]at h0;simp at h0
   have h2:(l.all fun b=>decide (33≤b.toNat∧b≠47∧b≠35))=cs.all fun c=>decide (33≤c):=by
    rw[Bool.eq_iff_iff,List.all_eq_true,List.all_eq_true];constructor
    ·intro hl c hcm;have h0:=pt_lt (hpt c hcm);apply decide_eq_true;rcases Int.lt_or_le c 33 with hlt|hge
     ·obtain⟨b,hb⟩:∃b:UInt8,b=UInt8.ofNat c.toNat:=⟨_,rfl⟩;have hbn:b.toNat=c.toNat:=by rw[hb];exact ofNat_toNat _ (by omega)
      have hm:=(encL_mem hpt (b:=b) (by omega)).2 (by rw[hbn];rwa[Int.toNat_of_nonneg h0]);rw[he]at hm;have:=of_decide_eq_true (hl b hm);omega
     ·exact hge
    ·intro hcs b hb;have hn:=of_decide_eq_true (h b hb);apply decide_eq_true;refine⟨?_,hn⟩;rcases Nat.lt_or_ge b.toNat 33 with hlt|hge
     ·rw[←he]at hb;have hm:=(encL_mem hpt (b:=b) (by omega)).1 hb;have:=of_decide_eq_true (hcs _ hm);omega
     ·exact hge
   rw[h1,h2]
theorem gEntry_eq (l:List UInt8):entryL l=gEntry l:=by
 have hl:l.takeWhile nst++l.dropWhile nst=l:=List.takeWhile_append_dropWhile;have hin:=takeW_mem (p:=nst) l;unfold gEntry;rw[←word_same hin];have h47:∀x∈l.takeWhile nst,(fun y:UInt8=>decide (y≠47)) x=true:=fun x hx=>by
  have:=of_decide_eq_true (hin x hx);exact decide_eq_true this.1
 cases hd:l.dropWhile nst with
 | nil=>
   rw[hd,List.append_nil]at hl;have k:=takeW_app (p:=fun y:UInt8=>decide (y≠47)) (l.takeWhile nst) [] h47;rw[List.append_nil,hl]at k;rw[hl];unfold entryL;rw[k.1,k.2,List.takeWhile_nil,List.append_nil];rfl
 | cons b fs=>
   rw[hd]at hl;have hb:=dropW_head l b fs hd;have k:=takeW_app (p:=fun y:UInt8=>decide (y≠47)) (l.takeWhile nst) (b::fs) h47;rw[hl]at k;by_cases hb47:b=47
   ·subst hb47;have k1:((47:UInt8)::fs).takeWhile (fun y:UInt8=>decide (y≠47))=[]:=by rw[List.takeWhile_cons,if_neg (by decide)]
    have k2:((47:UInt8)::fs).dropWhile (fun y:UInt8=>decide (y≠47))=47::fs:=by rw[List.dropWhile_cons,if_neg (by decide)]
    unfold entryL;rw[k.1,k.2,k1,k2,List.append_nil];by_cases hw:wordOk (l.takeWhile nst)=true
    ·rw[if_pos hw,if_pos hw];show Option.map _ (if fs=[]then none else flagsL [] fs)=if (47:UInt8)=47∧fs≠[]then _ else none
     by_cases hf:fs=[]
     ·rw[if_pos hf,if_neg (fun e=>e.2 hf)];rfl
     ·rw[if_neg hf,if_pos ⟨rfl,hf⟩]
    ·rw[if_neg hw,if_neg hw]
   ·have hb35:b=35:=by
     unfold nst at hb;have:=of_decide_eq_false hb;by_cases h:b=35
     ·exact h
     ·exact absurd ⟨hb47,h⟩ this
    have hbad:wordOk (l.takeWhile (fun y:UInt8=>decide (y≠47)))=false:=by
     rw[k.1,List.takeWhile_cons,if_pos (by rw[hb35];decide),hb35];unfold wordOk;rw[Bool.and_eq_false_iff,Bool.and_eq_false_iff];left;right;rw[List.all_eq_false];exact⟨35,by simp,by decide⟩
    have h0:entryL l=none:=by
     unfold entryL;rw[if_neg];rw[show wordOk (l.takeWhile (· ≠47))=false from hbad];decide
    rw[h0];split
    ·show none=if b=47∧fs≠[]then _ else none
     rw[if_neg (fun e=>hb47 e.1)]
    ·rfl
theorem badE_end {ls:List (List UInt8)}{k:Nat}(h:2000<(esOf (ls.take k)).length):endE ls=([],0,3):=by
 unfold endE;rw[if_pos (by have:=esOf_pre ls k;omega)]
end Go.Proofs.YtfehpcbmdancoaaGreatDoor.Ls
