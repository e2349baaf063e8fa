/- Rules, plain: what Check asks, and that a line says just such rules; a text cut at its blanks into so many parts at most. -/
import Derived.OwnWalk
import Derived.Laws.MakeOwn
import Derived.Lib.Bytealg
import Derived.Deep.CutRange
import Derived.Deep.DeepCutAuto
import Derived.Laws.AppendOwn
import Derived.Laws.Externs
import Derived.Lib.Builder
import Derived.Lib.AppendStr
import Derived.Lib.Hide
import Derived.WalkKit
import Derived.WalkSpells
import Derived.WalkLawsBesides
import Derived.IntWalk
import Derived.Below
import Derived.WalkMore
import Derived.Deep.LoopGhost
import Derived.Deep.RegionHeld3
import Derived.BigQuiet
import Derived.Test.YtfehpcbmdancoaaGreatDoorPdPbFBack
import Derived.Test.YtfehpcbmdancoaaGreatDoorPdPbNPlain
import Derived.Test.YtfehpcbmdancoaaGreatDoorPdPbORows
import Derived.Test.YtfehpcbmdancoaaGreatDoorPdPbSGives
import Derived.Test.YtfehpcbmdancoaaGreatDoorPdPbShelf
import Derived.Test.YtfehpcbmdancoaaGreatDoorPdPbSmall
set_option maxRecDepth 100000
set_option maxHeartbeats 4000000
namespace Go.Proofs.YtfehpcbmdancoaaGreatDoor
open Go Go.RowKit Go.Lib
theorem wordsL_count:∀l:List UInt8,(wordsL l).length=l.count 32+1
 | []=>rfl
 | b::r=>by
   have ih:=wordsL_count r;rw[wordsL_cons];by_cases hb:b=32
   ·rw[if_pos hb,hb,List.length_cons,ih,List.count_cons_self]
   ·rw[if_neg hb,List.count_cons_of_ne hb];cases h:wordsL r with
    | nil=>exact absurd h (wordsL_ne r)
    | cons x t=>rw[h]at ih;simpa using ih
def letterB (k:Int):Bool:=decide ((97≤k∧k≤122)∨(65≤k∧k≤90))
def wordB (s:ByteArray):Bool:=decide (validD s.data.toList=true∧(32:UInt8) ∉ s.data.toList)
def sayB (s:ByteArray):Bool:=decide (s.data.toList≠[48]∧s.size≤20∧wordB s=true)
theorem r_mk (s:ByteArray):(⟨s.data.toList.toArray⟩:ByteArray)=s:=by cases s;simp
def splitL:Nat→List UInt8→List (List UInt8)
 | 0,l=>[l]
 | n+1,l=>if (32:UInt8)∈l then l.takeWhile (· ≠32)::splitL n ((l.dropWhile (· ≠32)).tail)else [l]
theorem blank_cut {l:List UInt8}(h:(32:UInt8)∈l):l=l.takeWhile (· ≠32)++32::(l.dropWhile (· ≠32)).tail∧(32:UInt8) ∉ l.takeWhile (· ≠32):=by
 induction l with
 | nil=>cases h
 | cons b l ih=>
   by_cases hb:b=32
   ·subst hb;simp
   ·have hm:(32:UInt8)∈l:=by
     rcases List.mem_cons.1 h with e|e
     ·exact absurd e.symm hb
     ·exact e
    obtain⟨h1,h2⟩:=ih hm;have hd:(decide (b≠32))=true:=by simpa using hb
    rw[List.takeWhile_cons,List.dropWhile_cons,if_pos hd,if_pos hd];refine⟨by rw[List.cons_append,←h1],fun hm2=>?_⟩;rcases List.mem_cons.1 hm2 with e|e
    ·exact hb e.symm
    ·exact h2 e
theorem splitL_words:∀(n:Nat) (l:List UInt8),(splitL n l).length≤n→splitL n l=wordsL l
 | 0,l,h=>by simp[splitL]at h
 | n+1,l,h=>by
   unfold splitL at h⊢;by_cases hm:(32:UInt8)∈l
   ·rw[if_pos hm]at h⊢;obtain⟨h1,h2⟩:=blank_cut hm
    conv=>rhs;rw[h1,wordsL_app _ _ h2]
    rw[splitL_words n _ (by rw[List.length_cons]at h;omega)]
   ·rw[if_neg hm]at h⊢;exact(wordsL_one l hm).symm
theorem splitL_more:∀(n:Nat) (l:List UInt8),n<(splitL n l).length→n<(wordsL l).length
 | 0,l,_=>List.length_pos_iff.2 (wordsL_ne l)
 | n+1,l,h=>by
   unfold splitL at h;by_cases hm:(32:UInt8)∈l
   ·rw[if_pos hm]at h;obtain⟨h1,h2⟩:=blank_cut hm;rw[h1,wordsL_app _ _ h2,List.length_cons];have:=splitL_more n _ (by rw[List.length_cons]at h;exact Nat.lt_of_succ_lt_succ h);omega
   ·rw[if_neg hm]at h;simp at h
theorem splitL_six (l:List UInt8):((splitL 6 l).length=6↔(wordsL l).length=6)∧((wordsL l).length=6→splitL 6 l=wordsL l):=by
 by_cases h:(splitL 6 l).length≤6
 ·have:=splitL_words 6 l h;rw[this];exact⟨Iff.rfl,fun _=>rfl⟩
 ·have:=splitL_more 6 l (by omega);exact⟨⟨fun h2=>by omega,fun h2=>by omega⟩,fun h2=>by omega⟩
theorem r_toL (s:ByteArray):s.toList=s.data.toList:=by rw[ByteArray.toList_eq]
theorem rl_any (k:Int)(w:World):
  Calls Tryz.prog 190 #[.int .i64 k] w fun e w'=>e= .returned (.bool (letterB k))∧w'=w:=by
 unfold letterB;by_cases c1:97≤k
 ·by_cases c2:k≤122
  ·rw[decide_eq_true (.inl ⟨c1,c2⟩)];go_enter Tryz.func190,Tryz.ntmps190;go_wp2_with fail;go_ret;exact⟨rfl,rfl⟩
  ·rw[decide_eq_false (by omega)];have d3:65≤k:=by omega
   have d4:¬k≤90:=by omega
   go_enter Tryz.func190,Tryz.ntmps190;go_wp2_with fail;go_ret;exact⟨rfl,rfl⟩
 ·by_cases c2:65≤k
  ·by_cases c3:k≤90
   ·rw[decide_eq_true (.inr ⟨c2,c3⟩)];go_enter Tryz.func190,Tryz.ntmps190;go_wp2_with fail;go_ret;exact⟨rfl,rfl⟩
   ·rw[decide_eq_false (by omega)];go_enter Tryz.func190,Tryz.ntmps190;go_wp2_with fail;go_ret;exact⟨rfl,rfl⟩
  ·rw[decide_eq_false (by omega)];go_enter Tryz.func190,Tryz.ntmps190;go_wp2_with fail;go_ret;exact⟨rfl,rfl⟩
theorem letter_flag (b:UInt8):decide (flagL [b]≠0)=letterB b.toNat∧(flagL [b]≠0→(b.toNat:Int)=flagL [b]):=by
 have hd:flagL [b]=if (97≤b.toNat∧b.toNat≤122)∨(65≤b.toNat∧b.toNat≤90)then(b.toNat:Int)else 0:=rfl
 unfold letterB;rw[hd];by_cases h:(97≤b.toNat∧b.toNat≤122)∨(65≤b.toNat∧b.toNat≤90)
 ·rw[if_pos h];exact⟨by rw[decide_eq_true (by omega),decide_eq_true (by omega)],fun _=>rfl⟩
 ·rw[if_neg h];exact⟨by rw[decide_eq_false (by simp),decide_eq_false (by omega)],fun h2=>absurd rfl h2⟩
theorem flag_none {x:List UInt8}(h:x.length≠1):flagL x=0:=by
 match x,h with
 | [],_=>rfl
 | _::_::_,_=>rfl
def LetterE (e:Ending)(L:List UInt8):Prop:=∃k,e= .returned (.tuple #[.int .i64 k,.bool (decide (flagL L≠0))])∧(flagL L≠0→k=flagL L)
theorem rletter_any (s:ByteArray)(w:World)(_hs:s.size≤1000000000000):
  Calls Tryz.prog 139 #[.string s] w fun e w'=>LetterE e s.data.toList∧Below w.heap.size w w':=by
 by_cases h1:s.size=1
 ·obtain⟨b,hb⟩:∃b,s.data.toList=[b]:=by
   have:s.data.toList.length=1:=by rw[←Lib.size_eq];exact h1
   exact List.length_eq_one_iff.1 this
  have hk:0<s.size:=by omega
  have hget:s[0]'hk=b:=by
   have h2:s.data.toList[0]?=s.data[0]?:=Array.getElem?_toList;rw[hb]at h2;have h3:s.data[0]?=some (s.data[0]'hk):=Array.getElem?_eq_getElem hk;rw[h3]at h2;exact(Option.some.inj h2).symm
  rw[hb];have hi:((s.size:Int)==1)=true:=by rw[h1];rfl
  have hi2:(0:Int)<s.size:=by omega
  have hgx:(s[0]'hk).toNat=b.toNat:=by rw[hget]
  have hlt:b.toNat<256:=b.toNat_lt;have wr:IntKind.i64.wrap (b.toNat:Int)=(b.toNat:Int):=IntWalk.i64_in _ (by omega);have C:=hid (fun wx=>rl_any (b.toNat:Int) wx);have HL:=hid (letter_flag b);clear hb hget;go_enter Tryz.func139,Tryz.ntmps139;go_wp2_with fail;go_quiet ((go_at_call 190;refine(C.out _).mono ?_;rintro e w2 ⟨rfl,rfl⟩;exact⟨rfl,_,rfl⟩));go_wp2_with fail;go_ret2;exact⟨⟨(b.toNat:Int),by rw[HL.out.1];rfl,HL.out.2⟩,below_drewN (Below.refl _ _) _⟩
 ·have hz:flagL s.data.toList=0:=flag_none (by rw[←Lib.size_eq];exact h1);have hi:((s.size:Int)==1)=false:=by simp;omega
  have HZ:=hid hz;clear h1 hz;go_enter Tryz.func139,Tryz.ntmps139;go_wp2_with fail;go_ret2;exact⟨⟨0,by rw[HZ.out];rfl,fun h=>absurd HZ.out h⟩,Below.refl _ _⟩
theorem form_cut {a c p q:List UInt8}(hp:(32:UInt8) ∉ p)(hq:(32:UInt8) ∉ q):(a++32::c=p++32::q)↔(a=p∧c=q):=by
 refine⟨fun h=>?_,fun ⟨h1,h2⟩=>by rw[h1,h2]⟩;have hw:wordsL (a++32::c)=[p,q]:=by rw[h,wordsL_app _ _ hp,wordsL_one _ hq]
 have hn:(wordsL (a++32::c)).length=2:=by rw[hw];rfl
 rw[wordsL_count]at hn;simp only[List.count_append,List.count_cons_self]at hn;have ha:(32:UInt8) ∉ a:=List.count_eq_zero.1 (by omega);have hc:(32:UInt8) ∉ c:=List.count_eq_zero.1 (by omega);rw[wordsL_app _ _ ha,wordsL_one _ hc]at hw;exact⟨(List.cons.inj hw).1,(List.cons.inj (List.cons.inj hw).2).1⟩
def fP (a c:List UInt8):Bool:=decide (a=pfx∧(c=[89]∨c=[78]))
def fX (a c:List UInt8):Bool:=decide ((a=pfx∨a=sfx)∧c=[89])
def fO (a c:List UInt8):Bool:=decide ((a=pfx∨a=sfx)∧(c=[89]∨c=[78]))
def FormE (e:Ending)(a c:List UInt8):Prop:=e= .returned (.tuple #[.bool (fP a c),.bool (fX a c),.bool (fO a c)])
theorem FormE.mk {a c:List UInt8}{p x o:Bool}(h1:fP a c=p)(h2:fX a c=x)(h3:fO a c=o):FormE (.returned (.tuple #[.bool p,.bool x,.bool o])) a c:=by subst h1 h2 h3;rfl
theorem r_app (a b:ByteArray):(a++b).data.toList=a.data.toList++b.data.toList:=by
 rw[ByteArray.data_append,Array.toList_append]
theorem rform_any (a c:ByteArray)(w:World)(ha:a.size≤1000000000000)(hc:c.size≤1000000000000):
  Calls Tryz.prog 138 #[.string a,.string c] w fun e w'=>FormE e a.data.toList c.data.toList∧w'=w:=by
 have hT:((a++⟨#[32]⟩)++c).toList=a.data.toList++32::c.data.toList:=by
  rw[r_toL,r_app,r_app,List.append_assoc];rfl
 have q1:¬9223372036854775807<a.size+1:=by omega
 have q2:(a++(⟨#[32]⟩:ByteArray)).size=a.size+1:=by rw[ByteArray.size_append];rfl
 have q3:¬9223372036854775807<a.size+1+c.size:=by omega
 have k1:=form_cut (a:=a.data.toList) (c:=c.data.toList) (p:=pfx) (q:=[89]) (by decide) (by decide);have k2:=form_cut (a:=a.data.toList) (c:=c.data.toList) (p:=pfx) (q:=[78]) (by decide) (by decide);have k3:=form_cut (a:=a.data.toList) (c:=c.data.toList) (p:=sfx) (q:=[89]) (by decide) (by decide);have k4:=form_cut (a:=a.data.toList) (c:=c.data.toList) (p:=sfx) (q:=[78]) (by decide) (by decide);have K:=hid (And.intro (And.intro k1 k2) (And.intro k3 k4));have e1:(((a++(⟨#[32]⟩:ByteArray))++c).toList==[80,70,88,32,89])=decide (a.data.toList=pfx∧c.data.toList=[89]):=by
  rw[Bool.eq_iff_iff,beq_iff_eq,decide_eq_true_eq,hT];exact k1
 have e2:(((a++(⟨#[32]⟩:ByteArray))++c).toList==[80,70,88,32,78])=decide (a.data.toList=pfx∧c.data.toList=[78]):=by
  rw[Bool.eq_iff_iff,beq_iff_eq,decide_eq_true_eq,hT];exact k2
 have e3:(((a++(⟨#[32]⟩:ByteArray))++c).toList==[83,70,88,32,89])=decide (a.data.toList=sfx∧c.data.toList=[89]):=by
  rw[Bool.eq_iff_iff,beq_iff_eq,decide_eq_true_eq,hT];exact k3
 have e4:(((a++(⟨#[32]⟩:ByteArray))++c).toList==[83,70,88,32,78])=decide (a.data.toList=sfx∧c.data.toList=[78]):=by
  rw[Bool.eq_iff_iff,beq_iff_eq,decide_eq_true_eq,hT];exact k4
 clear k1 k2 k3 k4 hT K;obtain⟨A,hA⟩:∃A,A=a.data.toList:=⟨_,rfl⟩;obtain⟨C,hC⟩:∃C,C=c.data.toList:=⟨_,rfl⟩;rw[←hA,←hC]at e1 e2 e3 e4⊢;clear hA hC;by_cases c1:A=pfx∧C=[89]
 ·rw[decide_eq_true c1]at e1;go_enter Tryz.func138,Tryz.ntmps138;go_wp2_with fail;go_ret3;exact⟨FormE.mk (by obtain⟨rfl,rfl⟩:=c1;decide) (by obtain⟨rfl,rfl⟩:=c1;decide) (by obtain⟨rfl,rfl⟩:=c1;decide),rfl⟩
 rw[decide_eq_false c1]at e1;by_cases c2:A=pfx∧C=[78]
 ·rw[decide_eq_true c2]at e2;go_enter Tryz.func138,Tryz.ntmps138;go_wp2_with fail;go_ret3;exact⟨FormE.mk (by obtain⟨rfl,rfl⟩:=c2;decide) (by obtain⟨rfl,rfl⟩:=c2;decide) (by obtain⟨rfl,rfl⟩:=c2;decide),rfl⟩
 rw[decide_eq_false c2]at e2;by_cases c3:A=sfx∧C=[89]
 ·rw[decide_eq_true c3]at e3;go_enter Tryz.func138,Tryz.ntmps138;go_wp2_with fail;go_ret3;exact⟨FormE.mk (by obtain⟨rfl,rfl⟩:=c3;decide) (by obtain⟨rfl,rfl⟩:=c3;decide) (by obtain⟨rfl,rfl⟩:=c3;decide),rfl⟩
 rw[decide_eq_false c3]at e3;by_cases c4:A=sfx∧C=[78]
 ·rw[decide_eq_true c4]at e4;go_enter Tryz.func138,Tryz.ntmps138;go_wp2_with fail;go_ret3;exact⟨FormE.mk (by obtain⟨rfl,rfl⟩:=c4;decide) (by obtain⟨rfl,rfl⟩:=c4;decide) (by obtain⟨rfl,rfl⟩:=c4;decide),rfl⟩
 rw[decide_eq_false c4]at e4;go_enter Tryz.func138,Tryz.ntmps138;go_wp2_with fail;go_ret3;have c0:fO A C=false:=by
  unfold fO;refine decide_eq_false ?_;rintro⟨h1|h1,h2|h2⟩
  ·exact c1 ⟨h1,h2⟩
  ·exact c2 ⟨h1,h2⟩
  ·exact c3 ⟨h1,h2⟩
  ·exact c4 ⟨h1,h2⟩
 have h0:¬((A=pfx∨A=sfx)∧(C=[89]∨C=[78])):=of_decide_eq_false c0;exact⟨FormE.mk (decide_eq_false fun h=>h0 ⟨.inl h.1,h.2⟩) (decide_eq_false fun h=>h0 ⟨h.1,.inl h.2⟩) c0,rfl⟩
theorem rwith_any (w:World)(v:Value)(r:Ru)(s:ByteArray)(h:RuAt w v r)(hs:s.size≤1000000000000)(ha:r.add.size≤1000000000000):
  Calls Tryz.prog 220 #[v,.string s] w fun e w'=>e= .returned (.string (if r.pre then r.add++s else s++r.add))∧Below w.heap.size w w':=by
 obtain⟨A,cap,rfl,-⟩:=h;have HB:=hid ((Below.refl w.heap.size w).alloc (Nat.le_refl _) (.cells #[.bool r.pre,.int .i64 r.flag,.bool r.cross,.string r.strip,.string r.add,.slice A r.cond.length cap] 123));obtain⟨n,hn⟩:∃n,n=r.cond.length:=⟨_,rfl⟩;rw[←hn]at HB⊢;clear hn;obtain⟨pre,flag,cross,strip,add,cond⟩:=r;dsimp only at HB ha⊢;have q1:¬9223372036854775807<add.size+s.size:=by omega
 have q2:¬9223372036854775807<s.size+add.size:=by omega
 cases pre with
 | true=>
   go_enter Tryz.func220,Tryz.ntmps220;go_wp2_with fail;go_ret;exact⟨rfl,HB.out⟩
 | false=>
   go_enter Tryz.func220,Tryz.ntmps220;go_wp2_with fail;go_ret;exact⟨rfl,HB.out⟩
theorem rtogether_any (w:World)(v v':Value)(p s:Ru)(h:RuAt w v p)(h':RuAt w v' s):
  Calls Tryz.prog 221 #[v,v'] w fun e w'=>e= .returned (.bool (p.pre&& !s.pre&&p.cross&&s.cross))∧Below w.heap.size w w':=by
 obtain⟨A,cap,rfl,-⟩:=h;obtain⟨A',cap',rfl,-⟩:=h';have HB:=hid (((Below.refl w.heap.size w).alloc (Nat.le_refl _) (.cells #[.bool p.pre,.int .i64 p.flag,.bool p.cross,.string p.strip,.string p.add,.slice A p.cond.length cap] 123)).alloc (by rw[World.size_alloc];omega) (.cells #[.bool s.pre,.int .i64 s.flag,.bool s.cross,.string s.strip,.string s.add,.slice A' s.cond.length cap'] 123));obtain⟨n,hn⟩:∃n,n=p.cond.length:=⟨_,rfl⟩;obtain⟨n',hn'⟩:∃n,n=s.cond.length:=⟨_,rfl⟩;rw[←hn,←hn']at HB;rw[←hn,←hn'];clear hn hn';obtain⟨ppre,pflag,pcross,pstrip,padd,pcond⟩:=p;obtain⟨spre,sflag,scross,sstrip,sadd,scond⟩:=s;dsimp only at HB⊢;cases ppre<;>cases spre<;>cases pcross<;>cases scross;all_goals
  go_enter Tryz.func221,Tryz.ntmps221;go_wp2_with fail;go_ret;exact⟨rfl,HB.out⟩
theorem splitL_enough:∀(n:Nat) (l:List UInt8),l.length≤n→splitL n l=wordsL l
 | 0,l,h=>by
   obtain rfl:l=[]:=List.eq_nil_of_length_eq_zero (by omega);rfl
 | n+1,l,h=>by
   unfold splitL;by_cases hm:(32:UInt8)∈l
   ·rw[if_pos hm];obtain⟨h1,h2⟩:=blank_cut hm
    conv=>rhs;rw[h1,wordsL_app _ _ h2]
    rw[splitL_enough n _ (by have:=congrArg List.length h1;rw[List.length_append,List.length_cons]at this;omega)]
   ·rw[if_neg hm];exact(wordsL_one l hm).symm
theorem splitL_min (l:List UInt8)(N:Nat)(h:N=min 7 (l.length+1)):splitL (N-1) l=splitL 6 l:=by
 by_cases h7:6≤l.length
 ·rw[show N-1=6 by omega]
 ·rw[splitL_enough (N-1) l (by omega),splitL_enough 6 l (by omega)]
theorem idx_none {l:List UInt8}(h:(32:UInt8) ∉ l):indexByte l 32= -1:=by
 induction l with
 | nil=>rfl
 | cons b l ih=>
   unfold indexByte;rw[if_neg (by simp;exact fun e=>h (by rw[e];exact List.mem_cons_self ..)),ih fun e=>h (List.mem_cons_of_mem _ e)];rfl
theorem idx_some {l:List UInt8}(h:(32:UInt8)∈l):indexByte l 32=((l.takeWhile (· ≠32)).length:Nat):=by
 induction l with
 | nil=>cases h
 | cons b l ih=>
   unfold indexByte;by_cases hb:b=32
   ·subst hb;simp
   ·have hm:(32:UInt8)∈l:=by
     rcases List.mem_cons.1 h with e|e
     ·exact absurd e.symm hb
     ·exact e
    have hd:(decide (b≠32))=true:=by simpa using hb
    rw[if_neg (by simpa using hb),ih hm,List.takeWhile_cons,if_pos hd,List.length_cons,if_neg (by simp)];omega
theorem cut_take {l:List UInt8}(h:(32:UInt8)∈l):l.take (l.takeWhile (· ≠32)).length=l.takeWhile (· ≠32)∧l.drop ((l.takeWhile (· ≠32)).length+1)=(l.dropWhile (· ≠32)).tail∧(l.takeWhile (· ≠32)).length<l.length:=by
 obtain⟨h1,_⟩:=blank_cut h;obtain⟨a,ha⟩:∃a,a=l.takeWhile (· ≠32):=⟨_,rfl⟩;obtain⟨b,hb⟩:∃b,b=(l.dropWhile (· ≠32)).tail:=⟨_,rfl⟩;rw[←ha,←hb]at h1⊢;rw[h1];refine⟨by simp,?_,by simp⟩;simp[List.drop_append]
def SRow (H:Nat)(L:List ByteArray)(w:World):Prop:=w.heap[H]?=some (.cells (L.map Value.string).toArray 9 (0,0))
theorem SRow.cell {H:Nat}{L:List ByteArray}{w:World}(h:SRow H L w){i:Nat}{x:ByteArray}(hx:L[i]?=some x):w.cell? ⟨H,i,none⟩=some (.string x):=by
 rw[cell_of_row _ H i _ _ (0,0) h];simp[hx]
theorem SRow.frozen {H:Nat}{L:List ByteArray}{w:World}(h:SRow H L w)(o:Nat):w.frozen? ⟨H,o,none⟩=false:=by
 unfold SRow at h;simp[World.frozen?,h]
theorem SRow.set {H:Nat}{L:List ByteArray}{w:World}(h:SRow H L w)(i:Nat)(x:ByteArray):SRow H (L.set i x) (w.setCell ⟨H,i,none⟩ (.string x)):=by
 unfold SRow at h⊢;simp[World.setCell,Array.getElem?_modify,h,List.map_set]
theorem Tryz.infosS9:(Tryz.prog.info? 9).map (fun i=>(i.zero,i.size,i.bytes))=some (some (.string ⟨#[]⟩),1,16):=by kernel_rfl
theorem made_s:∀K,K≤7→madeCells #[Value.string ⟨#[]⟩] (K*1)=((List.replicate K (⟨#[]⟩:ByteArray)).map Value.string).toArray
 | 0,_=>by kernel_rfl
 | 1,_=>by kernel_rfl
 | 2,_=>by kernel_rfl
 | 3,_=>by kernel_rfl
 | 4,_=>by kernel_rfl
 | 5,_=>by kernel_rfl
 | 6,_=>by kernel_rfl
 | 7,_=>by kernel_rfl
 | k+8,h=>by omega
def PartsAt (w:World)(v:Value)(ws:List (List UInt8)):Prop:=
 ∃b cap,v= .slice (some ⟨b,0,none⟩) ws.length cap∧b<w.heap.size∧ws.length≤cap∧cap≤7∧∀(j:Nat) x,ws[j]?=some x→w.cell? ⟨b,j,none⟩=some (.string ⟨x.toArray⟩)
def MidG (w wr:World)(H N:Nat)(L:List UInt8)(rest:ByteArray)(i:Nat):Prop:=
 ∃(done:List (List UInt8)) (R:List ByteArray),done.length=i∧R.length=N∧SRow H R wr∧(∀(j:Nat) x,done[j]?=some x→R[j]?=some ⟨x.toArray⟩)∧splitL (N-1) L=done++splitL (N-1-i) rest.data.toList∧Below w.heap.size w wr
theorem MidG.fin {w wr:World}{H N i:Nat}{L:List UInt8}{rest:ByteArray}(h:MidG w wr H N L rest i)(hi:i<N)(hN:N≤7)(hH:w.heap.size≤H)(he:splitL (N-1-i) rest.data.toList=[rest.data.toList]):
  PartsAt (wr.setCell ⟨H,i,none⟩ (.string rest)) (.slice (some ⟨H,0,none⟩) (i+1) N) (splitL (N-1) L)∧Below w.heap.size w (wr.setCell ⟨H,i,none⟩ (.string rest)):=by
 obtain⟨done,R,h1,h2,h3,h4,h5,h6⟩:=h;rw[he]at h5;have hS:=h3.set i rest;refine⟨⟨H,N,?_,?_,?_,hN,fun j x hj=>?_⟩,h6.setCell (p:=⟨H,i,none⟩) hH _⟩
 ·rw[h5,List.length_append,h1];rfl
 ·exact(Array.getElem?_eq_some_iff.1 hS).1
 ·rw[h5,List.length_append,h1];show i+1≤N;omega
 ·rw[h5]at hj;refine hS.cell ?_;rw[List.getElem?_set];by_cases hij:i=j
  ·rw[if_pos hij,if_pos (by omega)];rw[←hij,←h1,List.getElem?_append_right (Nat.le_refl _),Nat.sub_self]at hj;rw[←Option.some.inj hj,r_mk]
  ·rw[if_neg hij];refine h4 j x ?_;rcases Nat.lt_or_ge j done.length with hl|hl
   ·rwa[List.getElem?_append_left hl]at hj
   ·rw[List.getElem?_append_right hl]at hj;have:=(List.getElem?_eq_some_iff.1 hj).1;simp at this;omega
theorem MidG.step {w wr:World}{H N i k:Nat}{L:List UInt8}{rest:ByteArray}(h:MidG w wr H N L rest i)(hi:i<N-1)(hH:w.heap.size≤H)(hm:(32:UInt8)∈rest.data.toList)(hk:k=(rest.data.toList.takeWhile (· ≠32)).length):
  MidG w (wr.setCell ⟨H,i,none⟩ (.string (rest.extract 0 k))) H N L (rest.extract (k+1) rest.size) (i+1):=by
 obtain⟨done,R,h1,h2,h3,h4,h5,h6⟩:=h;obtain⟨c1,c2,c3⟩:=cut_take hm;have hx:(rest.extract 0 k).data.toList=rest.data.toList.takeWhile (· ≠32):=by
  rw[ByteArray.data_extract,Array.toList_extract];show (rest.data.toList.drop 0).take (k-0)=_;rw[List.drop_zero,Nat.sub_zero,hk,c1]
 have hy:(rest.extract (k+1) rest.size).data.toList=(rest.data.toList.dropWhile (· ≠32)).tail:=by
  rw[ByteArray.data_extract,Array.toList_extract];show (rest.data.toList.drop (k+1)).take (rest.size-(k+1))=_;rw[List.take_of_length_le (by rw[List.length_drop,Lib.size_eq];exact Nat.le_refl _),hk,c2]
 refine⟨done++[rest.data.toList.takeWhile (· ≠32)],R.set i (rest.extract 0 k),by rw[List.length_append,h1];rfl,by rw[List.length_set,h2],h3.set i _,fun j x hj=>?_,?_,h6.setCell (p:=⟨H,i,none⟩) hH _⟩
 ·rw[List.getElem?_set];by_cases hij:i=j
  ·rw[if_pos hij,if_pos (by omega)];rw[←hij,←h1,List.getElem?_append_right (Nat.le_refl _),Nat.sub_self]at hj;rw[←Option.some.inj hj,←hx,r_mk]
  ·rw[if_neg hij];refine h4 j x ?_;rcases Nat.lt_or_ge j done.length with hl|hl
   ·rwa[List.getElem?_append_left hl]at hj
   ·rw[List.getElem?_append_right hl]at hj;have:=(List.getElem?_eq_some_iff.1 hj).1;simp at this;omega
 ·rw[h5,hy];obtain⟨n,hn⟩:∃n,N-1-i=n+1:=⟨N-1-i-1,by omega⟩;rw[hn,show N-1-(i+1)=n by omega,List.append_assoc]
  conv=>lhs;unfold splitL
  rw[if_pos hm];rfl
def IndexSays:Prop:=∀(s:ByteArray) (w:World),Calls Tryz.prog 234 #[.string s,.string ⟨#[32]⟩] w fun e w'=>e= .returned (.int .i64 (Lib.indexByte s.data.toList 32))∧w'=w
theorem rgen_any (IX:IndexSays)(w:World)(s:ByteArray)(hs:s.size≤1000000000000):
  Calls Tryz.prog 189 #[.string s,.string ⟨#[32]⟩,.int .i64 0,.int .i64 7] w fun e w'=>∃v,e= .returned v∧PartsAt w' v (splitL 6 s.data.toList)∧Below w.heap.size w w':=by
 obtain⟨i1,hi1,hz1,hz2,hz3⟩:=info_parts Tryz.infosS9;obtain⟨N,hN⟩:∃N,N=min 7 (s.data.toList.length+1):=⟨_,rfl⟩;have hsl:s.data.toList.length=s.size:=(Lib.size_eq s).symm;have hmin:(N:Int)=min (7:Int) ((s.size:Int)+1):=by omega
 have N1:1≤(N:Int):=by omega
 have N2:(N:Int)≤7:=by omega
 rw[←splitL_min _ N hN];have hmk:∀wx:World,(Instr.makeSlice 24 (.int .i64 (N:Int)) (.int .i64 (N:Int))).run Tryz.prog wx= .ok (.slice (some ⟨wx.heap.size,0,none⟩) N N) (wx.alloc (.cells ((List.replicate N (⟨#[]⟩:ByteArray)).map Value.string).toArray 9)):=fun wx=>by
  have hr:=run_make (P:=Tryz.prog) wx 24 9 i1 _ Tryz.underlying24 hi1 hz1 .i64 .i64 N N (by omega) (Int.le_refl _) (by rw[hz3];omega) (by omega);rw[Int.toNat_natCast,hz2]at hr;have h2:madeCells (Value.string ⟨#[]⟩).cells (N*1)=_:=made_s N (by omega);rw[hr,h2]
 obtain⟨CS,hCS⟩:∃CS,CS=((List.replicate N (⟨#[]⟩:ByteArray)).map Value.string).toArray:=⟨_,rfl⟩;rw[←hCS]at hmk;have wr1:IntKind.i64.wrap ((N:Int)-1)=((N-1:Nat):Int):=by rw[IntWalk.i64_in _ (by omega)];omega
 obtain⟨M,hM⟩:∃M,M=N-1:=⟨_,rfl⟩;have hNM:N=M+1:=by omega
 rw[←hM]at wr1;have hsz:(s.size:Int)≤1000000000000:=by omega
 have HIX:=hid IX;have H0:=hid (show MidG w (w.alloc (.cells CS 9)) w.heap.size N s.data.toList s 0 from hCS▸
  ⟨[],_,rfl,List.length_replicate,World.alloc_heap_new _ _,fun j x h=>by simp at h,by simp,(Below.refl _ _).alloc (Nat.le_refl _) _⟩)
 have HH:=hid (And.intro hN (And.intro hM hs));obtain⟨L,hL⟩:∃L,L=s.data.toList:=⟨_,rfl⟩;rw[←hL]at H0⊢;have HNM:=hid hNM;clear hN hsl IX hL hM hNM hCS;go_enter Tryz.func189,Tryz.ntmps189;go_upto_region 7 with fail;go_cut [3] (fun t wx=>t= .int .i64 (N:Int)∧w=wx)
 case first=>
  go_wp2_with fail;all_goals
   go_meet;exact⟨by congr 1;omega,rfl⟩
 case rest=>
 obtain⟨rfl,rfl⟩:=hcut;clear hmin;go_wp2_with fail;obtain⟨W1,hW1⟩:∃W1,W1=w.alloc (.cells CS 9):=⟨_,rfl⟩;rw[←hW1]at H0⊢;clear hW1 hmk;obtain⟨H,hH⟩:∃H,H=w.heap.size:=⟨_,rfl⟩;rw[←hH]at H0;have HHH:=hid (show w.heap.size≤H by omega);rw[←hH];clear hH;go_loopg [0,10,11] M (fun g sv iv mv wr=>∃(rest:ByteArray) (i:Nat),i+g=M∧sv= .string rest∧iv= .int .i64 i∧rest.size≤1000000000000∧Hid (MidG w wr H N L rest i))
 case atStart=>exact⟨s,0,by omega,rfl,rfl,HH.out.2.2,H0⟩
 case round=>
  obtain⟨rest,i,hig,rfl,rfl,hrs,HM⟩:=hrel;have hNM:=HNM.out;have hg0:(0:Int)≤i:=by omega
  obtain⟨done,R,h1,h2,h3,h4,h5,h6⟩:=HM.out;obtain⟨c,hc⟩:∃c,R[i]?=some c:=⟨_,List.getElem?_eq_getElem (by omega)⟩;have hcell:=h3.cell hc;have hfr:=h3.frozen;have hiN:(i:Int)<N:=by omega
  have wi:IntKind.i64.wrap ((i:Int)+1)=((i+1:Nat):Int):=by rw[IntWalk.i64_in _ (by omega)];omega
  have hi7:(i:Int)≤6:=by omega
  clear h1 h2 h3 h4 h5 h6 hc hNM;rcases Nat.eq_zero_or_pos gk with h0|h0
  ·have hiM:¬(i:Int)<M:=by omega
   have HF:=hid (HM.out.fin (by have:=HNM.out;omega) (by omega) HHH.out (by have:=HNM.out;rw[show N-1-i=0 by omega];rfl));clear HM;go_wp2_with fail;go_ret;exact⟨_,rfl,HF.out.1,HF.out.2⟩
  ·have hiM:(i:Int)<M:=by omega
   have CI:=hid (HIX.out rest wr);by_cases hm:(32:UInt8)∈rest.data.toList
   ·obtain⟨k,hk⟩:∃k,k=(rest.data.toList.takeWhile (· ≠32)).length:=⟨_,rfl⟩;have hlt:(k:Int)<rest.size:=by have:=(cut_take hm).2.2;rw[←hk]at this;rw[Lib.size_eq];omega
    rw[idx_some hm,←hk]at CI;have HM2:=hid (HM.out.step (by have:=HNM.out;omega) HHH.out hm hk);have hk0:¬(k:Int)<0:=by omega
    have hk1:(0:Int)≤k:=by omega
    have hk2:(k:Int)≤rest.size:=by omega
    have hk3:(0:Int)≤(k:Int)+1:=by omega
    have hk4:(k:Int)+1≤rest.size:=by omega
    have wk:IntKind.i64.wrap ((k:Int)+0)=(k:Int):=by rw[IntWalk.i64_in _ (by omega)];omega
    have wk0:IntKind.i64.wrap (k:Int)=(k:Int):=by rw[IntWalk.i64_in _ (by omega)]
    have wk1:IntKind.i64.wrap ((k:Int)+1)=((k+1:Nat):Int):=by rw[IntWalk.i64_in _ (by omega)];omega
    have hk5:(0:Int)≤((k+1:Nat):Int):=by omega
    have hk6:((k+1:Nat):Int)≤rest.size:=by omega
    clear hm hk HM;go_wp2_with (go_at_call 234;refine CI.out.mono ?_;rintro e w2 ⟨rfl,rfl⟩);go_roundg (gk-1)
    case measure=>omega
    case rel=>exact⟨_,i+1,by omega,by go_num,by go_num,by rw[ByteArray.size_extract];omega,HM2⟩
   ·rw[idx_none hm]at CI;have HF:=hid (HM.out.fin (by have:=HNM.out;omega) (by omega) HHH.out (by
     have:=HNM.out;obtain⟨n,hn⟩:∃n,N-1-i=n+1:=⟨N-1-i-1,by omega⟩;rw[hn];unfold splitL;rw[if_neg hm]))
    clear HM hm;go_wp2_with (go_at_call 234;refine CI.out.mono ?_;rintro e w2 ⟨rfl,rfl⟩);go_ret;exact⟨_,rfl,HF.out.1,HF.out.2⟩
theorem rsplit_any (IX:IndexSays)(w:World)(s:ByteArray)(hs:s.size≤1000000000000):
  Calls Tryz.prog 137 #[.string s,.string ⟨#[32]⟩,.int .i64 7] w fun e w'=>∃v,e= .returned v∧PartsAt w' v (splitL 6 s.data.toList)∧Below w.heap.size w w':=by
 have C:=hid (rgen_any IX w s hs);clear IX;go_enter Tryz.func137,Tryz.ntmps137;go_wp2_with (go_at_call 189;refine C.out.mono ?_);rintro e w1 ⟨v,rfl,hp,hb⟩;obtain⟨b,cap,rfl,hq⟩:=hp;have HP:=hid (And.intro hq hb);clear hq hb;go_wp2_with fail;go_ret;exact⟨_,rfl,⟨b,cap,rfl,HP.out.1⟩,HP.out.2⟩
end Go.Proofs.YtfehpcbmdancoaaGreatDoor
set_option maxRecDepth 100000
set_option maxHeartbeats 8000000
namespace Go.Proofs.YtfehpcbmdancoaaGreatDoor
open Go Go.RowKit
theorem byte_info:∃i0:TypeInfo,Tryz.prog.info? 5=some i0∧i0.zero=some (.int .u8 0)∧i0.size=1∧i0.bytes=1:=⟨_,rfl,rfl,rfl,rfl⟩
theorem builder_info:∃i0:TypeInfo,Tryz.prog.info? 137=some i0∧i0.size=2:=⟨_,rfl,rfl⟩
theorem string_any (B b:Nat)(l:List UInt8)(w:World)(h:Lib.IsBuilder 137 5 B b (Lib.byteCells l) w)(hBw:B≤w.heap.size):
  Calls Tryz.prog 86 #[.pointer (some ⟨b,0,none⟩)] w fun e w'=>e= .returned (.string ⟨l.toArray⟩)∧Below B w w':=
 Tryz.Builder_String_any B b l w h hBw
theorem cells_app (a b:List UInt8):Lib.byteCells a++Lib.byteCells b=Lib.byteCells (a++b):=by simp[Lib.byteCells]
end Go.Proofs.YtfehpcbmdancoaaGreatDoor
namespace Go.Proofs.YtfehpcbmdancoaaGreatDoor
open Go Go.RowKit Go.Lib
def itB (it:It):List UInt8:=ptL (itemC it)
theorem r_index:IndexSays:=fun s w=>Tryz.strings_Index_one s 32 w
theorem blank_in (l:List UInt8):decide (0≤Lib.indexByte l 32)=decide ((32:UInt8)∈l):=by
 by_cases h:(32:UInt8)∈l
 ·rw[decide_eq_true h,idx_some h];exact decide_eq_true (by omega)
 ·rw[decide_eq_false h,idx_none h];rfl
theorem rcontains_any (s:ByteArray)(w:World):
  Calls Tryz.prog 251 #[.string s,.string ⟨#[32]⟩] w fun e w'=>e= .returned (.bool (decide ((32:UInt8)∈s.data.toList)))∧w'=w:=by
 have:=Tryz.strings_Contains_one s 32 w;rwa[blank_in]at this
theorem rword_any (s:ByteArray)(w:World)(hs:s.size≤1000000000000)(hT:Lib.Utf8Tabs 1 2 w):
  Calls Tryz.prog 235 #[.string s] w fun e w'=>e= .returned (.bool (wordB s))∧Below w.heap.size w w':=by
 have C:=hid (codes_any s w hs hT);have CX:=hid (fun wx=>rcontains_any s wx);clear hT;cases hv:validD s.data.toList with
 | false=>
   have hw:wordB s=false:=by unfold wordB;rw[hv];simp
   rw[hv]at C;rw[hw];clear hv hw;go_enter Tryz.func235,Tryz.ntmps235;go_wp2_with (go_at_call 143;refine C.out.mono ?_);rintro e w1 ⟨v,rfl,-,hb⟩;have HB:=hid hb;clear hb;go_wp2_with fail;go_ret;exact⟨rfl,HB.out⟩
 | true=>
   have hw:wordB s= !decide ((32:UInt8)∈s.data.toList):=by
    unfold wordB;rw[hv];by_cases h:(32:UInt8)∈s.data.toList<;>simp[h]
   rw[hv]at C;rw[hw];obtain⟨b,hb⟩:∃b,b=decide ((32:UInt8)∈s.data.toList):=⟨_,rfl⟩;rw[←hb]at CX⊢;clear hv hw hb;go_enter Tryz.func235,Tryz.ntmps235;go_wp2_with (go_at_call 143;refine C.out.mono ?_);rintro e w1 ⟨v,rfl,-,hb⟩;have HB:=hid hb;clear hb;go_wp2_with (go_at_call 251;refine(CX.out _).mono ?_;rintro e w2 ⟨rfl,rfl⟩);go_ret;exact⟨rfl,HB.out⟩
theorem say_cases (s:ByteArray):sayB s=(!(s.toList==[48])&&decide (s.size≤20)&&wordB s):=by
 unfold sayB;rw[r_toL];by_cases h1:s.data.toList=[48]<;>by_cases h2:s.size≤20<;>cases h3:wordB s<;>simp[h1,h2]
theorem rsay_any (s:ByteArray)(w:World)(hs:s.size≤1000000000000)(hT:Lib.Utf8Tabs 1 2 w):
  Calls Tryz.prog 191 #[.string s] w fun e w'=>e= .returned (.bool (sayB s))∧Below w.heap.size w w':=by
 have C:=hid (rword_any s w hs hT);rw[say_cases];obtain⟨b,hb⟩:∃b,b=wordB s:=⟨_,rfl⟩;rw[←hb]at C⊢;clear hT hb;cases h1:(s.toList==[48])with
 | true=>
   go_enter Tryz.func191,Tryz.ntmps191;go_wp2_with fail;go_ret;exact⟨rfl,Below.refl _ _⟩
 | false=>
   by_cases h2:(s.size:Int)≤20
   ·rw[decide_eq_true (show s.size≤20 by omega)];go_enter Tryz.func191,Tryz.ntmps191;go_wp2_with (go_at_call 235;refine C.out.mono ?_);rintro e w1 ⟨rfl,hb⟩;have HB:=hid hb;clear hb;go_wp2_with fail;go_ret;exact⟨rfl,HB.out⟩
   ·rw[decide_eq_false (show¬s.size≤20 by omega)];go_enter Tryz.func191,Tryz.ntmps191;go_wp2_with fail;go_ret;exact⟨rfl,Below.refl _ _⟩
def TextE (e:Ending)(L:List UInt8):Prop:=∃t,e= .returned (.tuple #[.string t,.bool (partL L).isSome])∧∀u,partL L=some u→t=u
theorem rtextOf_any (s:ByteArray)(w:World)(hs:s.size≤1000000000000)(h32:(32:UInt8) ∉ s.data.toList)(hT:Lib.Utf8Tabs 1 2 w):
  Calls Tryz.prog 140 #[.string s] w fun e w'=>TextE e s.data.toList∧Below w.heap.size w w':=by
 have C:=hid (rsay_any s w hs hT);have H32:=hid h32;clear hT h32;cases h1:(s.toList==[48])with
 | true=>
   have HP:=hid (show partL s.data.toList=some ⟨#[]⟩by
    have:s.data.toList=[48]:=by rw[←r_toL];simpa using h1
    unfold partL;rw[if_pos this])
   go_enter Tryz.func140,Tryz.ntmps140;go_wp2_with fail;go_ret2;exact⟨⟨⟨#[]⟩,by rw[HP.out];rfl,fun u hu=>Option.some.inj (HP.out.symm.trans hu)⟩,Below.refl _ _⟩
 | false=>
   have hn48:¬s.data.toList=[48]:=by rw[←r_toL];simpa using h1
   cases h2:s.toList.isEmpty with
   | true=>
     have HP:=hid (show partL s.data.toList=none by
      have:s.data.toList=[]:=by rw[←r_toL];simpa using h2
      unfold partL;rw[if_neg hn48,if_neg (by rw[this];simp)])
     clear hn48;go_enter Tryz.func140,Tryz.ntmps140;go_wp2_with fail;go_ret2;exact⟨⟨s,by rw[HP.out];rfl,fun u hu=>by rw[HP.out]at hu;cases hu⟩,Below.refl _ _⟩
   | false=>
     have h0:s.data.toList≠[]:=by rw[←r_toL];simpa using h2
     have HP:=hid (show partL s.data.toList=if sayB s=true then some s else none by
      unfold partL sayB wordB;rw[if_neg hn48];have hl:=Lib.size_eq s;by_cases hc:s.data.toList≠[]∧s.data.toList.length≤20∧validD s.data.toList=true
      ·rw[if_pos hc,if_pos (by simp only[decide_eq_true_eq];exact⟨hn48,by omega,hc.2.2,H32.out⟩),r_mk]
      ·rw[if_neg hc,if_neg (by simp only[decide_eq_true_eq];exact fun h=>hc ⟨h0,by omega,h.2.2.1⟩)])
     obtain⟨b,hb⟩:∃b,b=sayB s:=⟨_,rfl⟩;rw[←hb]at C HP;clear hn48 h0 hb;go_enter Tryz.func140,Tryz.ntmps140;go_wp2_with (go_at_call 191;refine C.out.mono ?_);rintro e w1 ⟨rfl,hb⟩;have HB:=hid hb;clear hb;go_wp2_with fail;go_ret2;refine⟨⟨s,?_,fun u hu=>?_⟩,HB.out⟩
     ·rw[HP.out];cases b<;>rfl
     ·rw[HP.out]at hu;cases b with
      | true=>exact Option.some.inj hu
      | false=>cases hu
def SetsOk (l:List It):Prop:=∀it∈l,it.set.length≤1000000000
structure FitR (r:Ru):Prop where
 items:r.cond.length≤100000
 sets:SetsOk r.cond
 strip:r.strip.size≤1000000000
 add:r.add.size≤1000000000
def rput6 (w:World)(H:Nat)(a b c d e f:Value):World:=
 (((((w.setCell ⟨H,0,none⟩ a).setCell ⟨H,1,none⟩ b).setCell ⟨H,2,none⟩ c).setCell ⟨H,3,none⟩ d).setCell ⟨H,4,none⟩ e).setCell ⟨H,5,none⟩ f
theorem rput6_size (w:World)(H:Nat)(a b c d e f:Value):(rput6 w H a b c d e f).heap.size=w.heap.size:=by simp[rput6,World.setCell]
theorem rput6_block (w:World)(H:Nat)(a b c d e f:Value){k:Nat}(hk:k≠H):(rput6 w H a b c d e f).heap[k]?=w.heap[k]?:=by
 unfold rput6;rw[Below.heap_setCell _ _ _ _ hk,Below.heap_setCell _ _ _ _ hk,Below.heap_setCell _ _ _ _ hk,Below.heap_setCell _ _ _ _ hk,Below.heap_setCell _ _ _ _ hk,Below.heap_setCell _ _ _ _ hk]
theorem rput6_below {B:Nat}{w w':World}{H:Nat}(h:Below B w w')(hB:B≤H)(a b c d e f:Value):Below B w (rput6 w' H a b c d e f):=
 (((((h.setCell (p:=⟨H,0,none⟩) hB _).setCell (p:=⟨H,1,none⟩) hB _).setCell (p:=⟨H,2,none⟩) hB _).setCell (p:=⟨H,3,none⟩) hB _).setCell (p:=⟨H,4,none⟩) hB _).setCell (p:=⟨H,5,none⟩) hB _
theorem rput6_items {B:Nat}{w:World}{H:Nat}{v:Value}{l:List It}(h:ItemsNew B w v l)(hB:H<B)(a b c d e f:Value):ItemsNew B (rput6 w H a b c d e f) v l:=
 h.still (by rw[rput6_size];exact Nat.le_refl _) fun k hk _=>rput6_block _ _ _ _ _ _ _ _ (by omega)
theorem rbox6f {w w':World}{a b c d e f:Value}{t:TypeId}(hb:Below (w.alloc (.cells #[a,b,c,d,e,f] t)).heap.size (w.alloc (.cells #[a,b,c,d,e,f] t)) w'):∀o,w'.frozen? ⟨w.heap.size,o,none⟩=false:=by
 have h:w'.heap[w.heap.size]?=some (.cells #[a,b,c,d,e,f] t (0,0)):=(hb.block w.heap.size (by rw[World.size_alloc];omega)).trans (World.alloc_heap_new w _);intro o;simp[World.frozen?,h]
theorem rparse_len {s:ByteArray}(h:(wordsL s.data.toList).length≠6):parseR s=none:=by
 unfold parseR;split
 ·rename_i hw;rw[hw]at h;exact absurd rfl h
 ·rfl
theorem rparse_six {s:ByteArray}{a f c x y z:List UInt8}(h:wordsL s.data.toList=[a,f,c,x,y,z]):parseR s=parse6 a f c x y z:=by
 unfold parseR;rw[h]
theorem parse6_yes {a f c x y z:List UInt8}{u v:ByteArray}{l:List It}(h1:fO a c=true)(h2:decide (flagL f≠0)=true)(hx:partL x=some u)(hy:partL y=some v)(hz:parseS ⟨z.toArray⟩=some l):
  parse6 a f c x y z=some ⟨fP a c,flagL f,fX a c,u,v,l⟩:=by
 unfold fO at h1;simp only[decide_eq_true_eq]at h1 h2;unfold parse6;rw[if_pos ⟨h1.1,h2,h1.2⟩,hx,hy,hz];have e1:fP a c=decide (a=pfx):=by unfold fP;simp[h1.2]
 have e2:fX a c=decide (c=[89]):=by unfold fX;simp[h1.1]
 rw[e1,e2]
theorem parse6_no {a f c x y z:List UInt8}(h:¬(fO a c=true∧decide (flagL f≠0)=true∧(partL x).isSome=true∧(partL y).isSome=true∧(parseS ⟨z.toArray⟩).isSome=true)):parse6 a f c x y z=none:=by
 unfold parse6;split
 ·rename_i hc;split
  ·rename_i u v l hx hy hz;exact absurd ⟨by unfold fO;exact decide_eq_true ⟨hc.1,hc.2.2⟩,decide_eq_true hc.2.1,by rw[hx];rfl,by rw[hy];rfl,by rw[hz];rfl⟩ h
  ·rfl
 ·rfl
def RuNewR (B:Nat)(w:World)(v:Value)(r:Ru):Prop:=∃A cap,v= .agg #[.bool r.pre,.int .i64 r.flag,.bool r.cross,.string r.strip,.string r.add,.slice A r.cond.length cap]∧ItemsNew B w (.slice A r.cond.length cap) r.cond
def RParseN (w w':World)(o:Option Ru)(e:Ending):Prop:=∃v,e= .returned (.tuple #[v,.bool o.isSome])∧RuNewR w.heap.size w' v (o.getD ru0)∧Below w.heap.size w w'
theorem RParseN.no {w w':World}{o:Option Ru}(h:o=none)(hb:Below w.heap.size w w'):RParseN w w' o (.returned (.tuple #[.agg #[.bool false,.int .i64 0,.bool false,.string ⟨#[]⟩,.string ⟨#[]⟩,.slice none 0 0],.bool false])):=by
 subst h;exact⟨_,rfl,⟨none,0,rfl,.inl ⟨rfl,_,_,rfl⟩⟩,hb⟩
theorem rpar_new (w:World)(s:ByteArray)(hs:s.size≤1000000000)(hT:Lib.Utf8Tabs 1 2 w):
  Calls Tryz.prog 90 #[.string s] w fun e w'=>RParseN w w' (parseR s) e:=by
 have hbA:=(Below.refl w.heap.size w).alloc (Nat.le_refl _) (.cells #[.bool false,.int .i64 0,.bool false,.string ⟨#[]⟩,.string ⟨#[]⟩,.slice none 0 0] 123);have W:=hid (rsplit_any r_index (w.alloc (.cells #[.bool false,.int .i64 0,.bool false,.string ⟨#[]⟩,.string ⟨#[]⟩,.slice none 0 0] 123)) s (by omega));have HA:=hid hbA;have hwm:=wordsL_mem s.data.toList;have hsl:s.data.toList.length=s.size:=(Lib.size_eq s).symm;rw[hsl]at hwm;obtain⟨hsix1,hsix2⟩:=splitL_six s.data.toList;clear hsl;by_cases hn:(wordsL s.data.toList).length=6
 ·rw[hsix2 hn]at W;obtain⟨a,f,c,x,y,z,hws⟩:∃a f c x y z,wordsL s.data.toList=[a,f,c,x,y,z]:=by
   match wordsL s.data.toList,hn with
   | [a,f,c,x,y,z],_=>exact⟨a,f,c,x,y,z,rfl⟩
  rw[hws]at W hwm;rw[rparse_six hws];have hla:∀u∈[a,f,c,x,y,z],(32:UInt8) ∉ u∧u.length≤s.size:=fun u hu=>hwm u hu;obtain⟨Z,hZ⟩:∃Z,Z=parse6 a f c x y z:=⟨_,rfl⟩;rw[←hZ];obtain⟨SA,hSA⟩:∃S:ByteArray,S=⟨a.toArray⟩:=⟨_,rfl⟩;obtain⟨SF,hSF⟩:∃S:ByteArray,S=⟨f.toArray⟩:=⟨_,rfl⟩;obtain⟨SC,hSC⟩:∃S:ByteArray,S=⟨c.toArray⟩:=⟨_,rfl⟩;obtain⟨SX,hSX⟩:∃S:ByteArray,S=⟨x.toArray⟩:=⟨_,rfl⟩;obtain⟨SY,hSY⟩:∃S:ByteArray,S=⟨y.toArray⟩:=⟨_,rfl⟩;obtain⟨SZ,hSZ⟩:∃S:ByteArray,S=⟨z.toArray⟩:=⟨_,rfl⟩;have dA:SA.data.toList=a:=by rw[hSA]
  have dF:SF.data.toList=f:=by rw[hSF]
  have dC:SC.data.toList=c:=by rw[hSC]
  have dX:SX.data.toList=x:=by rw[hSX]
  have dY:SY.data.toList=y:=by rw[hSY]
  have dZ:SZ.data.toList=z:=by rw[hSZ]
  have lA:SA.size≤1000000000:=by rw[Lib.size_eq,dA];have:=(hla a (by simp)).2;omega
  have lF:SF.size≤1000000000:=by rw[Lib.size_eq,dF];have:=(hla f (by simp)).2;omega
  have lC:SC.size≤1000000000:=by rw[Lib.size_eq,dC];have:=(hla c (by simp)).2;omega
  have lX:SX.size≤1000000000:=by rw[Lib.size_eq,dX];have:=(hla x (by simp)).2;omega
  have lY:SY.size≤1000000000:=by rw[Lib.size_eq,dY];have:=(hla y (by simp)).2;omega
  have lZ:SZ.size≤1000000000:=by rw[Lib.size_eq,dZ];have:=(hla z (by simp)).2;omega
  have C1:=hid (fun wx=>rform_any SA SC wx (by omega) (by omega));have C2:=hid (fun wx=>rletter_any SF wx (by omega));have C3:=hid (fun wx (hb:Below w.heap.size w wx)=>rtextOf_any SX wx (by omega) (by rw[dX];exact(hla x (by simp)).1) (tabs_below hT hb));have C4:=hid (fun wx (hb:Below w.heap.size w wx)=>rtextOf_any SY wx (by omega) (by rw[dY];exact(hla y (by simp)).1) (tabs_below hT hb));have C5:=hid (fun wx (hb:Below w.heap.size w wx)=>parse_any wx SZ (by omega) (tabs_below hT hb));rw[dA,dC]at C1;rw[dF]at C2;rw[dX]at C3;rw[dY]at C4;have HZN:=hid (fun h=>hZ.trans (parse6_no h));have HZY:=hid (fun (u v:ByteArray) (l:List It) h1 h2 hx hy hz=>hZ.trans (parse6_yes (u:=u) (v:=v) (l:=l) h1 h2 hx hy hz));rw[←hSZ]at HZN HZY;obtain⟨pb,hpb⟩:∃b,b=fP a c:=⟨_,rfl⟩;obtain⟨xb,hxb⟩:∃b,b=fX a c:=⟨_,rfl⟩;obtain⟨ob,hob⟩:∃b,b=fO a c:=⟨_,rfl⟩;obtain⟨fb,hfb⟩:∃b,b=decide (flagL f≠0):=⟨_,rfl⟩;unfold FormE at C1;unfold LetterE at C2;rw[←hpb,←hxb,←hob]at C1;rw[←hfb]at C2;rw[←hob,←hfb]at HZN;rw[←hob,←hfb,←hpb,←hxb]at HZY;have HFB:=hid hfb;unfold PartsAt at W;have hl6: [a,f,c,x,y,z].length=6:=rfl;rw[hl6]at W;have EC:=hid (And.intro hSA (And.intro hSF (And.intro hSC (And.intro hSX (And.intro hSY hSZ)))));clear hla hn hws hZ hSA hSF hSC hSX hSY hSZ dA dF dC dX dY dZ lA lF lC lX lY lZ hpb hxb hob hfb hsix1 hsix2 hwm hbA hT;go_enter Tryz.func90,Tryz.ntmps90;go_wp2_with (go_at_call 137;refine W.out.mono ?_);rintro e w1 ⟨v,rfl,⟨g,cap,rfl,hg,hcap,-,hcell⟩,hb⟩;have q0:=EC.out.1▸hcell 0 a rfl;have q1:=EC.out.2.1▸hcell 1 f rfl;have q2:=EC.out.2.2.1▸hcell 2 c rfl;have q3:=EC.out.2.2.2.1▸hcell 3 x rfl;have q4:=EC.out.2.2.2.2.1▸hcell 4 y rfl;have q5:=EC.out.2.2.2.2.2▸hcell 5 z rfl;have KX:=hid (fun wx (hx:Below w1.heap.size w1 wx)=>And.intro ((hx.cell (p:=⟨g,0,none⟩) hg).trans q0) (And.intro ((hx.cell (p:=⟨g,1,none⟩) hg).trans q1) (And.intro ((hx.cell (p:=⟨g,2,none⟩) hg).trans q2) (And.intro ((hx.cell (p:=⟨g,3,none⟩) hg).trans q3) (And.intro ((hx.cell (p:=⟨g,4,none⟩) hg).trans q4) ((hx.cell (p:=⟨g,5,none⟩) hg).trans q5))))));have HB:=hid hb;have HB1:=hid (HA.out.trans (hb.mono HA.out.size));clear hcell hb;clear W HA;go_upto_region 4 with fail;go_quiet ((go_at_call 138;refine(C1.out _).mono ?_;rintro e w2 ⟨rfl,rfl⟩;exact⟨rfl,_,rfl⟩));have hbd:Below w1.heap.size w1 (w1.drewN nq):=below_drewN (Below.refl _ _) _;generalize w1.drewN nq=w2 at hbd⊢;have HX2:=hid hbd;clear q0 q1 q2 q3 q4 q5 C1;obtain⟨q0,q1,q2,q3,q4,q5⟩:=KX.out w2 hbd;clear hbd;go_wp2_with (go_at_call 139;refine(C2.out _).mono ?_);rintro e w3 ⟨⟨k,rfl,hk⟩,hb⟩;have HK:=hid hk;have HX3:=hid (HX2.out.trans (hb.mono HX2.out.size));clear q0 q1 q2 q3 q4 q5 C2 hk hb;obtain⟨q0,q1,q2,q3,q4,q5⟩:=KX.out w3 HX3.out;have HB3:=hid (HB1.out.trans (HX3.out.mono HB1.out.size));go_wp2_with (go_at_call 140;refine(C3.out _ HB3.out).mono ?_);rintro e w4 ⟨⟨t1,rfl,ht1⟩,hb⟩;have HT1:=hid ht1;have HX4:=hid (HX3.out.trans (hb.mono HX3.out.size));clear q0 q1 q2 q3 q4 q5 C3 ht1 hb;obtain⟨q0,q1,q2,q3,q4,q5⟩:=KX.out w4 HX4.out;have HB4:=hid (HB1.out.trans (HX4.out.mono HB1.out.size));go_wp2_with (go_at_call 140;refine(C4.out _ HB4.out).mono ?_);rintro e w5 ⟨⟨t2,rfl,ht2⟩,hb⟩;have HT2:=hid ht2;have HX5:=hid (HX4.out.trans (hb.mono HX4.out.size));clear q0 q1 q2 q3 q4 q5 C4 ht2 hb;obtain⟨q0,q1,q2,q3,q4,q5⟩:=KX.out w5 HX5.out;have HB5:=hid (HB1.out.trans (HX5.out.mono HB1.out.size));go_wp2_with (go_at_call 141;refine(C5.out _ HB5.out).mono ?_);rintro e w6 ⟨v6,rfl,hi6,hb⟩;have HX6:=hid (HX5.out.trans (hb.mono HX5.out.size));have HB6:=hid (HB1.out.trans (HX6.out.mono HB1.out.size));have HI6:=hid (hi6.less (show w.heap.size+1≤w5.heap.size from by have:=HB.out.size;rw[World.size_alloc]at this;have:=HX5.out.size;omega));clear q0 q1 q2 q3 q4 q5 C5 hb;obtain⟨x0,x1,x2,x3,x4,x5⟩:=box6 (HB.out.trans (HX6.out.mono HB.out.size));have fz:=rbox6f (HB.out.trans (HX6.out.mono HB.out.size));obtain⟨D,dc,rfl,-⟩:=items_openO hi6.at;obtain⟨dn,hdn⟩:∃d,d=((parseS SZ).getD []).length:=⟨_,rfl⟩;rw[←hdn]at HI6⊢;have HDN:=hid hdn;clear hi6 hdn KX HB3 HB4 HB5 HX2 HX3 HX4 HX5;obtain⟨bx,hbx⟩:∃b,b=(partL x).isSome:=⟨_,rfl⟩;obtain⟨bY,hby⟩:∃b,b=(partL y).isSome:=⟨_,rfl⟩;obtain⟨bz,hbz⟩:∃b,b=(parseS SZ).isSome:=⟨_,rfl⟩;rw[←hbx,←hby,←hbz]at HZN;rw[←hbx,←hby,←hbz];by_cases hall:ob=true∧fb=true∧bx=true∧bY=true∧bz=true
  ·obtain⟨rfl,rfl,rfl,rfl,rfl⟩:=hall;obtain⟨u,hu⟩:=Option.isSome_iff_exists.1 hbx.symm;obtain⟨v,hv⟩:=Option.isSome_iff_exists.1 hby.symm;obtain⟨l,hl⟩:=Option.isSome_iff_exists.1 hbz.symm;have hZ:=HZY.out u v l rfl rfl hu hv hl;have hkf:=HK.out (of_decide_eq_true HFB.out.symm);rw[HT1.out u hu,HT2.out v hv];rw[hl]at HI6;simp only[Option.getD_some]at HI6;rw[←hkf]at hZ;have HZ:=hid hZ;have HDL:=hid (show dn=l.length by rw[HDN.out,hl];rfl);clear hu hv hl hbx hby hbz HZN HZY HK HT1 HT2 HFB hZ hkf;go_wp2_with fail;refine bodyPost_ret (v:= .tuple #[.agg #[.bool pb,.int .i64 k,.bool xb,.string u,.string v,.slice D dn dc],.bool true]) (by simp[results,Tryz.results90,go_sem,x0,x1,x2,x3,x4,x5]) rfl ?_;rw[HZ.out];refine⟨_,rfl,⟨D,dc,?_,?_⟩,rput6_below HB6.out (Nat.le_refl _) _ _ _ _ _ _⟩
   ·show Value.agg _=Value.agg _;rw[HDL.out];rfl
   ·have:=(rput6_items (H:=w.heap.size) HI6.out (by omega) (.bool pb) (.int .i64 k) (.bool xb) (.string u) (.string v) (.slice D dn dc)).less (Nat.le_succ w.heap.size);rw[HDL.out]at this⊢;exact this
  ·have HZ0:=hid (HZN.out hall);have hcs:ob=false∨(ob=true∧fb=false)∨(ob=true∧fb=true∧bx=false)∨(ob=true∧fb=true∧bx=true∧bY=false)∨(ob=true∧fb=true∧bx=true∧bY=true∧bz=false):=by
    cases ob<;>cases fb<;>cases bx<;>cases bY<;>cases bz<;>simp_all
   clear hall hbx hby hbz HZN HZY HK HT1 HT2 HFB;rcases hcs with rfl|⟨rfl,rfl⟩|⟨rfl,rfl,rfl⟩|⟨rfl,rfl,rfl,rfl⟩|⟨rfl,rfl,rfl,rfl,rfl⟩;all_goals
    go_wp2_with fail;exact bodyPost_ret (v:= .tuple #[.agg #[.bool false,.int .i64 0,.bool false,.string ⟨#[]⟩,.string ⟨#[]⟩,.slice none 0 0],.bool false]) (by simp[results,Tryz.results90,go_sem,x0,x1,x2,x3,x4,x5]) rfl (RParseN.no HZ0.out (rput6_below HB6.out (Nat.le_refl _) _ _ _ _ _ _))
 ·have hn6:(splitL 6 s.data.toList).length≠6:=fun h=>hn (hsix1.1 h);have HZ0:=hid (rparse_len hn);obtain⟨l,hl⟩:∃l,l=splitL 6 s.data.toList:=⟨_,rfl⟩;rw[←hl]at hn6 W;unfold PartsAt at W;obtain⟨m,hm⟩:∃m,m=l.length:=⟨_,rfl⟩;rw[←hm]at hn6 W;have h6:((m:Int)==6)=false:=by simp;omega
  clear hsix1 hsix2 hwm hn hbA hT hn6 hl hm;go_enter Tryz.func90,Tryz.ntmps90;go_wp2_with (go_at_call 137;refine W.out.mono ?_);rintro e w1 ⟨v,rfl,⟨g,cap,rfl,-,-,-,-⟩,hb⟩;obtain⟨x0,x1,x2,x3,x4,x5⟩:=box6 hb;have fz:=rbox6f hb;have HB1:=hid (HA.out.trans (hb.mono HA.out.size));clear hb;go_wp2_with fail;exact bodyPost_ret (v:= .tuple #[.agg #[.bool false,.int .i64 0,.bool false,.string ⟨#[]⟩,.string ⟨#[]⟩,.slice none 0 0],.bool false]) (by simp[results,Tryz.results90,go_sem,x0,x1,x2,x3,x4,x5]) rfl (RParseN.no HZ0.out (rput6_below HB1.out (Nat.le_refl _) _ _ _ _ _ _))
end Go.Proofs.YtfehpcbmdancoaaGreatDoor
namespace Go.Proofs.YtfehpcbmdancoaaGreatDoor.Fo
open Go Go.RowKit
def BuAt (N b:Nat)(p:Value)(bs:List Value)(w:World):Prop:=
 ∃v,w.heap[b]?=some (.cells #[p,v] 137 (0,0))∧w.ownsRow N 5 1 v bs.length bs∧v.ownBlock≠some b
def IsBu (N b:Nat)(bs:List Value)(w:World):Prop:=BuAt N b (.pointer none) bs w∨BuAt N b (.pointer (some ⟨b,0,none⟩)) bs w
theorem own_base {w:World}{B B' e size n:Nat}{v:Value}{xs:List Value}(h:w.ownsRow B e size v n xs)(hB:B'≤B):w.ownsRow B' e size v n xs:=by
 refine⟨h.1,?_⟩;rcases h.2 with hn|⟨g,cap,cur,rfl,hg,rest⟩
 ·exact .inl hn
 ·exact .inr ⟨g,cap,cur,rfl,Nat.le_trans hB hg,rest⟩
theorem IsBu.builder {N b:Nat}{bs:List Value}{w:World}(h:IsBu N b bs w)(hb:b≤N):Lib.IsBuilder 137 5 b b bs w:=by
 rcases h with ⟨v,h1,h2,h3⟩|⟨v,h1,h2,h3⟩
 ·exact .inl ⟨Nat.le_refl _,v,h1,own_base h2 hb,h3⟩
 ·exact .inr ⟨Nat.le_refl _,v,h1,own_base h2 hb,h3⟩
theorem IsBu.new {N b:Nat}{w:World}(h:w.heap[b]?=some (.cells #[.pointer none,.slice none 0 0] 137 (0,0))):IsBu N b [] w:=
 .inl ⟨_,h,World.ownsRow_nil _ _ _ _,by simp[Value.ownBlock]⟩
theorem IsBu.keep {N b:Nat}{bs:List Value}{w w':World}(h:IsBu N b bs w)(hb:Below w.heap.size w w'):IsBu N b bs w':=by
 have key:∀p,BuAt N b p bs w→BuAt N b p bs w':=by
  rintro p ⟨v,h1,h2,h3⟩;exact⟨v,(hb.block b (Array.getElem?_eq_some_iff.1 h1).1).trans h1,own_keep9 h2 hb,h3⟩
 exact h.imp (key _) (key _)
theorem check_bu (N b:Nat)(bs:List Value)(w:World)(h:IsBu N b bs w):
  Calls Tryz.prog 134 #[.pointer (some ⟨b,0,none⟩)] w fun e w'=>e= .returned (.tuple #[])∧(BuAt N b (.pointer (some ⟨b,0,none⟩)) bs w'∧OnlyAt (fun k=>k=b) w w'):=by
 obtain⟨j,hj,hjs⟩:=builder_info;have u0:=Tryz.underlying135;rcases h with h|h
 ·obtain⟨v,hb,hown,hne⟩:=h;have h0:w.cell? ⟨b,0,none⟩=some (.pointer none):=by rw[Lib.cell_of_heap hb];rfl
  have hsh:w.shape? b=some (137,2):=by simp[World.shape?,hb]
  have hfz:w.frozen? ⟨b,0,none⟩=false:=Lib.frozen_of_heap hb 0;have hend:BuAt N b (.pointer (some ⟨b,0,none⟩)) bs (w.setCell ⟨b,0,none⟩ (.pointer (some ⟨b,0,none⟩))):=by
   refine⟨v,by simp[World.setCell,Array.getElem?_modify,hb],?_,hne⟩;exact hown.kept (row:=some b) ⟨rfl,rfl,rfl,by simp[World.setCell],fun k _ hk=>Below.heap_setCell _ _ _ _ (fun e=>hk (by simp[e]))⟩ (.inr hne)
  have H:=Lib.hid hend;clear hb hown hne hend;go_enter Tryz.func134,Tryz.ntmps134;go_wp2;rw[Lib.run_to_unsafe w ⟨b,0,none⟩ Tryz.underlying135 Tryz.underlying242 hj (by rw[hjs];decide) hsh (Nat.zero_lt_succ 1)];simp only[Result.andThen];rw[Oper.upon_value];go_wp2;rw[run_callFunc_extern Tryz.func188 (by kernel_rfl) (by kernel_rfl) (by kernel_rfl) (e:=Extern.AbiNoEscape.same) (by kernel_rfl)];rw[Lib.run_noEscape];simp only[Result.andThen];rw[Oper.upon_value];go_wp2;rw[Lib.run_from_unsafe w ⟨b,0,none⟩ Tryz.underlying242 Tryz.underlying135 hj hsh (by kernel_rfl)];simp only[Result.andThen];rw[Oper.upon_value];go_wp2
  go_end0
  exact⟨rfl,H.out,OnlyAt.setCell _ _ _ rfl⟩
 ·have h0:w.cell? ⟨b,0,none⟩=some (.pointer (some ⟨b,0,none⟩)):=by obtain⟨v,hb,_⟩:=h;rw[Lib.cell_of_heap hb];rfl
  have H:=Lib.hid h;clear h;go_enter Tryz.func134,Tryz.ntmps134;go_wp2;rw[Lib.run_neq_ptr_same w _ Tryz.underlying135 hj];go_wp2
  go_end0
  exact⟨rfl,H.out,OnlyAt.refl _ _⟩
theorem writes_bu (N b:Nat)(bs:List Value)(s:ByteArray)(w:World)(h:IsBu N b bs w)
  (hlen:bs.length+s.size≤140737488355328) (hN:N≤w.heap.size):
  Calls Tryz.prog 84 #[.pointer (some ⟨b,0,none⟩),.string s] w fun e w'=>(∃v,e= .returned v)∧IsBu N b (bs++Lib.strCells s) w'∧OnlyAt (fun k=>k=b∨N≤k) w w':=by
 obtain⟨i0,hi,hz0,hz1,hz2⟩:=byte_info;have C:=Lib.hid (check_bu N b bs w h);go_enter Tryz.func84,Tryz.ntmps84;go_wp2_with (go_at_call 134;refine(C.out).mono ?_);rintro e w1 ⟨rfl,hat,hb1⟩;obtain⟨v,hbk,hown,hne⟩:=hat;have c1:w1.cell? ⟨b,1,none⟩=some v:=by rw[Lib.cell_of_heap hbk];rfl
 have hs1:=hb1.size;go_wp2_with (at_builtin;refine Lib.wpList_append_own_string _ rfl _ _ 72 9 rfl N 5 i0 Tryz.underlying72 Tryz.underlying9 hi hz0 hz1 hz2 _ _ _ rfl hown s rfl (by unfold maxLen;omega) (by omega) (by omega) ?_);intro v' w2 hown' hgrow _;have hlt:b<w1.heap.size:=(Array.getElem?_eq_some_iff.1 hbk).1;have hb2:w2.heap[b]?=some (.cells #[.pointer (some ⟨b,0,none⟩),v] 137 (0,0)):=by
  rw[hgrow.block b hlt (fun e=>hne e.symm)];exact hbk
 have d1:w2.cell? ⟨b,1,none⟩=some v:=by rw[Lib.cell_of_heap hb2];rfl
 have f1:w2.frozen? ⟨b,1,none⟩=false:=Lib.frozen_of_heap hb2 1;obtain⟨ao,n',cap,rfl⟩:∃ao n' cap,v'= .slice ao n' cap:=by
  rcases hown'.2 with ⟨hv,_⟩|⟨g,cap,cur,hv,_⟩
  ·exact⟨_,_,_,hv⟩
  ·exact⟨_,_,_,hv⟩
 go_wp2;go_ret2;have hne':(Value.slice ao n' cap).ownBlock≠some b:=Lib.ownBlock_ne hown' hb2 (by decide);refine⟨⟨_,rfl⟩,.inr ⟨.slice ao n' cap,?_,?_,hne'⟩,?_⟩
 ·simp[World.setCell,Array.getElem?_modify,hb2]
 ·have:w2.ownsRow N 5 1 (.slice ao n' cap) (bs++Lib.strCells s).length (bs++Lib.strCells s):=by simpa[Lib.strCells_length]using hown'
  exact this.kept (row:=some b) ⟨rfl,rfl,rfl,by simp[World.setCell],fun k _ hk=>Below.heap_setCell _ _ _ _ (fun e=>hk (by simp[e]))⟩ (.inr hne')
 ·exact((hb1.mono fun k hk=> .inl hk).trans (OnlyAt.of_grown hgrow fun k hk=> .inr (hown.lt k hk).1)).trans (OnlyAt.setCell _ _ _ (.inl rfl))
end Go.Proofs.YtfehpcbmdancoaaGreatDoor.Fo
set_option maxRecDepth 100000
set_option maxHeartbeats 2000000
namespace Go.Proofs.YtfehpcbmdancoaaGreatDoor.Fo
open Go Go.RowKit Go.Lib
theorem us_cells:∀(us:List (Nat×Nat×Int)) (k:Nat) (u:Nat×Nat×Int),us[k]?=some u→
  (us.flatMap uCells)[k*3]?=some (.int .i64 u.1)∧(us.flatMap uCells)[k*3+1]?=some (.int .i64 u.2.1)∧(us.flatMap uCells)[k*3+2]?=some (.int .i64 u.2.2)
 | [],k,u,h=>by simp at h
 | x::us,0,u,h=>by
   simp at h;subst h;simp[uCells]
 | x::us,k+1,u,h=>by
   have ih:=us_cells us k u (by simpa using h);have e:(x::us).flatMap uCells=uCells x++us.flatMap uCells:=rfl;have hl:(uCells x).length=3:=rfl;rw[e];refine⟨?_,?_,?_⟩
   ·rw[List.getElem?_append_right (by omega),hl,show (k+1)*3-3=k*3 by omega];exact ih.1
   ·rw[List.getElem?_append_right (by omega),hl,show (k+1)*3+1-3=k*3+1 by omega];exact ih.2.1
   ·rw[List.getElem?_append_right (by omega),hl,show (k+1)*3+2-3=k*3+2 by omega];exact ih.2.2
theorem us_open {w:World}{B:Nat}{v:Value}{us:List (Nat×Nat×Int)}(h:w.ownsRow B 86 3 v us.length (us.flatMap uCells)):
  ∃A cap,v= .slice A us.length cap∧us.length≤cap∧∀(k:Nat) u,us[k]?=some u→∃g,A=some ⟨g,0,none⟩∧B≤g∧g<w.heap.size∧w.cell? ⟨g,k*3,none⟩=some (.int .i64 u.1)∧w.cell? ⟨g,k*3+1,none⟩=some (.int .i64 u.2.1)∧w.cell? ⟨g,k*3+2,none⟩=some (.int .i64 u.2.2):=by
 have hc:= @World.ownsRow.cells _ _ _ _ _ _ _ h;have hlt:= @World.ownsRow.lt _ _ _ _ _ _ _ h;have add0:∀g j:Nat,(⟨g,0,none⟩:Addr).add j=⟨g,j,none⟩:=fun g j=>by unfold Addr.add;split<;>simp_all
 rcases h.2 with ⟨rfl,h0⟩|⟨g,cap,cur,rfl,hg,hgg,hnc,hcm,_⟩
 ·refine⟨none,0,by rw[h0],by omega,fun k u hk=>?_⟩;rw[List.eq_nil_of_length_eq_zero h0]at hk;simp at hk
 ·refine⟨_,cap,rfl,hnc,fun k u hk=>⟨g,rfl,hg,(Array.getElem?_eq_some_iff.1 hgg).1,?_,?_,?_⟩⟩
  ·have:=hc rfl _ _ (us_cells us k u hk).1;rwa[add0]at this
  ·have:=hc rfl _ _ (us_cells us k u hk).2.1;rwa[add0]at this
  ·have:=hc rfl _ _ (us_cells us k u hk).2.2;rwa[add0]at this
theorem unit_bd:∀(l:List UInt8) p,∀u∈units p l,p≤u.1∧1≤u.2.1∧u.1+u.2.1≤p+l.length∧ -256≤u.2.2∧u.2.2≤1114111:=by
 apply unit_ind (C:=fun l=>∀p,∀u∈units p l,p≤u.1∧1≤u.2.1∧u.1+u.2.1≤p+l.length∧ -256≤u.2.2∧u.2.2≤1114111)
 ·intro p u hu;simp[units_nil]at hu
 ·intro l hne ih p u hu;have hle:=decodeL_le l hne;have hw:=decodeL_width l;rw[units_step p l hne]at hu;rcases List.mem_cons.1 hu with rfl|hu
  ·refine⟨Nat.le_refl _,hw,by show p+(decodeL l).2≤_;omega,?_⟩;have:=decodeL_rune l;have hb:=(l.getD 0 0).toNat_lt;show -256≤uCode l∧uCode l≤1114111;unfold uCode;split<;>omega
  ·have:=ih _ u hu;rw[List.length_drop]at this;omega
theorem unit_first:∀(l:List UInt8) p (k:Nat) u,(units p l)[k]?=some u→(u.1=p↔k=0):=by
 intro l p k u hu;by_cases hne:l=[]
 ·subst hne;simp[units_nil]at hu
 ·rw[units_step p l hne]at hu;have hw:=decodeL_width l;cases k with
  | zero=>simp at hu;subst hu;simp
  | succ k=>
    rw[List.getElem?_cons_succ]at hu;have:=(unit_bd _ _ u (List.mem_of_getElem? hu)).1;omega
theorem cuts_at {l:List UInt8}{k:Nat}{u:Nat×Nat×Int}(h:(units 0 l)[k]?=some u):(cuts l)[k]?=some ((l.drop u.1).take u.2.1,u.2.2):=by
 simp[cuts,h]
theorem fext_list (s:ByteArray)(a n:Nat):(s.extract a (a+n)).data.toList=(s.data.toList.drop a).take n:=by
 simp[ByteArray.data_extract,List.take_drop]
def preS (ps:List (Int×Int))(s:List UInt8)(k:Nat):List UInt8:=((cuts s).take k).flatMap (pcS ps)
theorem preS_all (ps:List (Int×Int))(s:List UInt8){k:Nat}(h:(units 0 s).length≤k):preS ps s k=smallT ps s:=by
 unfold preS smallT;rw[List.take_of_length_le (by rw[cuts_len];exact h)]
theorem preS_len (ps:List (Int×Int))(s:List UInt8)(k:Nat):(preS ps s k).length≤5*s.length:=by
 have h:=small_size ps s;have e:smallT ps s=preS ps s k++((cuts s).drop k).flatMap (pcS ps):=by
  unfold preS smallT;rw[←List.flatMap_append,List.take_append_drop]
 rw[e,List.length_append]at h;omega
theorem preS_snoc {ps:List (Int×Int)}{s:List UInt8}{k:Nat}{u:Nat×Nat×Int}(h:(units 0 s)[k]?=some u):preS ps s (k+1)=preS ps s k++pcS ps ((s.drop u.1).take u.2.1,u.2.2):=by
 unfold preS;rw[List.take_add_one,cuts_at h];simp
theorem byC_bytes (c:Int):byC c=(bytesOf c).data.toList:=by
 unfold byC bytesOf;split<;>rfl
theorem small_any (w:World)(v:Value)(ps:List (Int×Int))(s:ByteArray)(h:PairsAt w v ps)(hn:ps.length≤1000000)(hin:∀p∈ps,I64 p.1∧I64 p.2)(hs:s.size≤1000000000):
  Calls Tryz.prog 36 #[v,.string s] w fun e w'=>e= .returned (.string ⟨(smallT ps s.data.toList).toArray⟩)∧Below w.heap.size w w':=by
 have CL:=hid (letters_any w v ps h hn hin);have CA:=hid (fun wx=>all_any s wx (by omega));obtain⟨us,hus⟩:∃us,us=units 0 s.data.toList:=⟨_,rfl⟩;obtain⟨m,hm⟩:∃m,m=us.length:=⟨_,rfl⟩;have hml:m≤s.size:=by rw[hm,hus,Lib.size_eq];exact units_length_le _ 0
 rw[←hus]at CA;have HU:=hid (And.intro hus hm);obtain⟨A,cap,rfl⟩:=pairs_form h;generalize ps.length=n at*;clear h hin hus hm;go_enter Tryz.func36,Tryz.ntmps36;go_wp2_with fail;refine CL.out.mono ?_;rintro e w1 ⟨a,b,rfl,htm,hb1⟩;have HTM:=hid (And.intro htm hb1);clear CL htm hb1;go_wp2_with fail;refine(CA.out _).mono ?_;rintro e w2 ⟨vu,rfl,hown,hb2⟩;obtain⟨wb,hwb⟩:∃wb,wb=(w1.alloc (.cells #[.map (some a),.map (some b)] 133)).alloc (.cells #[.pointer none,.slice none 0 0] 137):=⟨_,rfl⟩;have q0:wb.heap[w1.heap.size]?=some (.cells #[.map (some a),.map (some b)] 133 (0,0)):=by rw[hwb];exact heap_up (heap_top _ _ rfl) _
 have q1:wb.heap[w1.heap.size+1]?=some (.cells #[.pointer none,.slice none 0 0] 137 (0,0)):=by rw[hwb];exact heap_top _ _ (by rw[World.size_alloc])
 have qs:wb.heap.size=w1.heap.size+2:=by rw[hwb];simp
 have qb:Below w1.heap.size w1 wb:=by rw[hwb];exact((Below.refl _ _).alloc (Nat.le_refl _) _).alloc (by simp) _
 rw[←hwb]at hown hb2;clear hwb;obtain⟨A2,cap2,rfl,hmc,hcells⟩:=us_open hown;rw[←HU.out.2]at hmc⊢;obtain⟨N,hN⟩:∃N,N=w2.heap.size:=⟨_,rfl⟩;obtain⟨Q,hQ⟩:∃Q,Q=w1.heap.size:=⟨_,rfl⟩;rw[←hQ]at q0 q1 qs⊢;have hs2:=hb2.size;have hw1:=HTM.out.2.size;have r0:w2.heap[Q]?=some (.cells #[.map (some a),.map (some b)] 133 (0,0)):=(hb2.block Q (by omega)).trans q0;have r1:w2.heap[Q+1]?=some (.cells #[.pointer none,.slice none 0 0] 137 (0,0)):=(hb2.block (Q+1) (by omega)).trans q1;have hbw:Below w.heap.size w w2:=(HTM.out.2.trans (qb.mono hw1)).trans (hb2.mono (by omega));have htm2:TwoM w2 a b n ps:=(HTM.out.1.keep qb).keep hb2;have hab:a<Q∧b<Q:=by rw[hQ];exact⟨HTM.out.1.small.lt,HTM.out.1.great.lt⟩
 have HC:=hid hcells;have HM:=hid (And.intro hN (And.intro hQ (And.intro qs (And.intro hs2 (And.intro hw1 (And.intro r0 (And.intro hbw (And.intro htm2 hab))))))));have HB0:Hid (IsBu N (Q+1) (Lib.byteCells (preS ps s.data.toList 0)) w2∧OnlyAt (fun k=>k=Q+1∨N≤k) w2 w2):=hid ⟨IsBu.new r1,OnlyAt.refl _ _⟩;clear hcells hN hQ q0 q1 qs qb hs2 hw1 r0 r1 hbw htm2 hab hown hb2 HTM CA;go_wp2_with fail;go_loopg [16] m (fun gh i wr=>∃(k:Nat),k+gh=m∧i= .int .i64 k∧Hid (IsBu N (Q+1) (Lib.byteCells (preS ps s.data.toList k)) wr∧OnlyAt (fun k=>k=Q+1∨N≤k) w2 wr))
 case atStart=>exact⟨0,by omega,rfl,HB0⟩
 case round=>
  obtain⟨k,hk,rfl,HB⟩:=hrel;by_cases hlt:k<m
  ·obtain⟨u,hu⟩:∃u,us[k]?=some u:=⟨us[k]'(by have:=HU.out.2;omega),List.getElem?_eq_getElem _⟩;obtain⟨g,rfl,hg1,hg2,c0,c1,c2⟩:=HC.out k u hu;obtain⟨hN,hQ,qs,hs2,hw1,r0,hbw,htm2,hab⟩:=HM.out;have hblk:∀z,z<N→z≠Q+1→wr.heap[z]?=w2.heap[z]?:=fun z hz hz2=>HB.out.2.block z (by omega) (by rintro (h|h)<;>omega);have hgq:=hblk g (by omega) (by omega);have e0:=(cell_blk hgq (k*3)).trans c0;have e1:=(cell_blk hgq (k*3+1)).trans c1;have e2:=(cell_blk hgq (k*3+2)).trans c2;have hrq:=(hblk Q (by omega) (by omega)).trans r0;have t0:wr.cell? ⟨Q,0,none⟩=some (.map (some a)):=by simp[World.cell?,hrq]
   have t1:wr.cell? ⟨Q,1,none⟩=some (.map (some b)):=by simp[World.cell?,hrq]
   have htm:TwoM wr a b n ps:=⟨htm2.small.same (hblk a (by omega) (by omega)),htm2.great.same (hblk b (by omega) (by omega))⟩;obtain⟨ua,un,uc⟩:=u;dsimp only at e0 e1 e2;have hbd:=unit_bd s.data.toList 0 (ua,un,uc) (List.mem_of_getElem? (by rw[←HU.out.1];exact hu));rw[←Lib.size_eq]at hbd;dsimp only at hbd;have hsn:=preS_snoc (ps:=ps) (by rw[←HU.out.1];exact hu);have hpl:=preS_len ps s.data.toList k;rw[←Lib.size_eq]at hpl;have CS:=hid (fun wx (hb:Below wr.heap.size wr wx)=>psmall_any wx a b n ps uc (htm.keep hb) (by omega));have HX:=hid (And.intro hbd (And.intro hsn hpl));have hQw:Q<wr.heap.size:=(Array.getElem?_eq_some_iff.1 hrq).1;clear hN hQ qs hs2 hw1 r0 hbw htm2 hab hblk hgq c0 c1 c2 hrq htm hbd hsn hpl hu hg1 hg2;have tk1:(0:Int)≤k:=by omega
   have tk2:(k:Int)<m:=by omega
   obtain⟨wx,hwx⟩:∃wx,wx=wr.alloc (.cells #[.int .i64 ua,.int .i64 un,.int .i64 uc] 86):=⟨_,rfl⟩;have hbx:Below wr.heap.size wr wx:=by rw[hwx];exact(Below.refl _ _).alloc (Nat.le_refl _) _
   have y0:wx.heap[wr.heap.size]?=some (.cells #[.int .i64 ua,.int .i64 un,.int .i64 uc] 86 (0,0)):=by rw[hwx];exact World.alloc_heap_new _ _
   have HWX:=hid (And.intro hwx (And.intro hbx y0));clear hbx y0 hwx;go_upto_region 6 with fail;rw[←HWX.out.1];obtain⟨G,hG⟩:∃G,G=wr.heap.size:=⟨_,rfl⟩;rw[←hG]at hQw⊢;have y0:=HWX.out.2.2;rw[←hG]at y0;have z0:wx.cell? ⟨G,0,none⟩=some (.int .i64 ua):=by simp[World.cell?,y0]
   have z1:wx.cell? ⟨G,1,none⟩=some (.int .i64 un):=by simp[World.cell?,y0]
   have z2:wx.cell? ⟨G,2,none⟩=some (.int .i64 uc):=by simp[World.cell?,y0]
   have p0:wx.cell? ⟨Q,0,none⟩=some (.map (some a)):=(cell_old (p:=⟨Q,0,none⟩) HWX.out.2.1 (by rw[←hG];exact hQw)).trans t0;have p1:wx.cell? ⟨Q,1,none⟩=some (.map (some b)):=(cell_old (p:=⟨Q,1,none⟩) HWX.out.2.1 (by rw[←hG];exact hQw)).trans t1;have HY:=hid (And.intro hG y0);clear hG y0 t0 t1 e0 e1 e2;go_wp2_with fail;refine(CS.out _ HWX.out.2.1).mono ?_;rintro e w3 ⟨rfl,hb3⟩;clear z0 z1 z2 p0 p1;have hlt3:G<wx.heap.size:=(Array.getElem?_eq_some_iff.1 HY.out.2).1;have y3:=(hb3.block G hlt3).trans HY.out.2;have z0:w3.cell? ⟨G,0,none⟩=some (.int .i64 ua):=by simp[World.cell?,y3]
   have z1:w3.cell? ⟨G,1,none⟩=some (.int .i64 un):=by simp[World.cell?,y3]
   have hw3:Below wr.heap.size wr w3:=HWX.out.2.1.trans (hb3.mono HWX.out.2.1.size);have hs3:=hw3.size;have hsr:=HB.out.2.size;have CW:=hid (fun (t:ByteArray) (ht:t.size≤1000000000)=>writes_bu N (Q+1) _ t w3 (HB.out.1.keep hw3) (by rw[Lib.byteCells_length];have:=HX.out.2.2;omega) (by have:=HM.out.1;omega));have hend:∀(t:ByteArray) (w5:World),t.data.toList=pcS ps ((s.data.toList.drop ua).take un,uc)→IsBu N (Q+1) (Lib.byteCells (preS ps s.data.toList k)++Lib.strCells t) w5→OnlyAt (fun k=>k=Q+1∨N≤k) w3 w5→
     IsBu N (Q+1) (Lib.byteCells (preS ps s.data.toList (k+1))) w5∧OnlyAt (fun k=>k=Q+1∨N≤k) w2 w5:=by
    intro t w5 ht hB5 ho5;refine⟨?_,(HB.out.2.trans (OnlyAt.of_below hw3)).trans ho5⟩;have e1:preS ps s.data.toList (k+1)=preS ps s.data.toList k++t.data.toList:=by rw[HX.out.2.1,ht]
    rw[e1,←cells_app];exact hB5
   have HE:=hid hend;clear hb3 hlt3 y3 hw3 hs3 hsr hend;have hbd:=HX.out.1;cases hq:smC ps uc with
   | some d=>
     have hv:smV ps uc=d:=by unfold smV;rw[hq]
     rw[hv];dsimp only[Option.isSome];have CB:=hid (fun wx=>bytes_any d wx);have hsz:(bytesOf d).size≤1000000000:=by
      rw[Lib.size_eq,←byC_bytes];unfold byC;split
      ·have:=enc_len d;omega
      ·simp
     have hpc:(bytesOf d).data.toList=pcS ps ((s.data.toList.drop ua).take un,uc):=by
      unfold pcS;dsimp only;rw[hq];exact(byC_bytes d).symm
     have HP:=hid (And.intro hsz hpc);clear hv hq hsz hpc hbd;go_wp2_with fail;refine(CB.out _).mono ?_;rintro e w4 ⟨rfl,rfl⟩;go_wp2_with fail;refine(CW.out _ HP.out.1).mono ?_;rintro e w5 ⟨⟨v5,rfl⟩,hB5,ho5⟩;have HF:=hid (HE.out _ w5 HP.out.2 hB5 ho5);clear hB5 ho5;go_wp2_with fail;go_roundg (gk-1)
     case measure=>omega
     case rel=>exact⟨k+1,by omega,by go_num,HF⟩
   | none=>
     dsimp only[Option.isSome];have hpc:(s.extract ua (ua+un)).data.toList=pcS ps ((s.data.toList.drop ua).take un,uc):=by
      unfold pcS;dsimp only;rw[hq];exact fext_list s ua un
     have hsz:(s.extract ua (ua+un)).size≤1000000000:=by rw[ByteArray.size_extract];omega
     have HP:=hid (And.intro hsz hpc);obtain⟨ue,hue⟩:∃ue,ue=ua+un:=⟨_,rfl⟩;have g4:IntKind.i64.wrap ((ua:Int)+un)=(ue:Int):=by rw[hue];rw[IntWalk.i64_in _ (by omega)];omega
     rw[←hue]at HP;have h5:ua≤ue∧ue≤s.size:=by omega
     obtain⟨h5,h6⟩:=h5;clear hq hsz hpc hbd hue;go_wp2_with fail;refine(CW.out _ HP.out.1).mono ?_;rintro e w5 ⟨⟨v5,rfl⟩,hB5,ho5⟩;have HF:=hid (HE.out _ w5 HP.out.2 hB5 ho5);clear hB5 ho5;go_wp2_with fail;go_roundg (gk-1)
     case measure=>omega
     case rel=>exact⟨k+1,by omega,by go_num,HF⟩
  ·obtain rfl:k=m:=by omega
   obtain⟨hN,hQ,qs,hs2,hw1,r0,hbw,htm2,hab⟩:=HM.out;have hall:preS ps s.data.toList k=smallT ps s.data.toList:=preS_all _ _ (by rw[←HU.out.1,←HU.out.2];exact Nat.le_refl _);have hB:=HB.out.1;rw[hall]at hB;have CG:=hid (string_any (Q+1) (Q+1) (smallT ps s.data.toList) wr (hB.builder (by omega)) (by have:=HB.out.2.size;omega));have hbe:Below w.heap.size w wr:=OnlyAt.below hbw HB.out.2 hbw.size (by rintro z (hz|hz)<;>omega);have HBE:=hid hbe;clear hN hQ qs hs2 hw1 r0 hbw htm2 hab hall hB hbe;go_wp2_with fail;refine CG.out.mono ?_;rintro e w5 ⟨rfl,hb5⟩;have HX:=hid (HBE.out.trans (hb5.mono (Nat.le_of_lt (by have:=HM.out;omega))));clear hb5;go_wp2_with fail;go_ret;exact⟨rfl,HX.out⟩
theorem titleT_nil (ps:List (Int×Int)):titleT ps []=[]:=rfl
theorem at_first (s:ByteArray)(w:World)(hs:s.size≤1000000000)(hT:Lib.Utf8Tabs 1 2 w):
  ∃(N:Nat) (C:Int) (th:Bool),(Calls Tryz.prog 130 #[.string s,.int .i64 0] w fun e w'=>e= .returned (.tuple #[.agg #[.int .i64 0,.int .i64 N,.int .i64 C],.bool th])∧Below w.heap.size w w')∧
   ((th=false∧s.data.toList=[]∧C=0)∨(th=true∧s.data.toList≠[]∧N=(decodeL s.data.toList).2∧C=uCode s.data.toList)):=by
 by_cases h0:s.size=0
 ·refine⟨0,0,false,at_none s 0 w (.inr (by omega)) (by omega),.inl ⟨rfl,?_,rfl⟩⟩;have:=Lib.size_eq s;rw[h0]at this;exact List.eq_nil_of_length_eq_zero this.symm
 ·refine⟨(decodeL s.data.toList).2,uCode s.data.toList,true,at_some s 0 w (by omega) (by omega) hT,.inr ⟨rfl,?_,rfl,rfl⟩⟩;intro e;have:=Lib.size_eq s;rw[e]at this;exact h0 this
theorem str_back (s:ByteArray):(⟨s.data.toList.toArray⟩:ByteArray)=s:=by cases s;simp
theorem title_any (w:World)(v:Value)(ps:List (Int×Int))(s:ByteArray)(h:PairsAt w v ps)(hn:ps.length≤1000000)(hin:∀p∈ps,I64 p.1∧I64 p.2)(hs:s.size≤1000000000)(hT:Lib.Utf8Tabs 1 2 w):
  Calls Tryz.prog 80 #[v,.string s] w fun e w'=>e= .returned (.string ⟨(titleT ps s.data.toList).toArray⟩)∧Below w.heap.size w w':=by
 have CL:=hid (fun wx (hb:Below w.heap.size w wx)=>letters_any wx v ps (h.keep hb) hn hin);obtain⟨A,cap,rfl⟩:=pairs_form h;obtain⟨N,C,th,cA,hcase⟩:=at_first s w hs hT;have hCb: -1000000000000≤C∧C≤1000000000000:=by
  rcases hcase with ⟨_,_,rfl⟩|⟨_,h1,_,rfl⟩
  ·omega
  ·have:=unit_bd s.data.toList 0 (0,(decodeL s.data.toList).2,uCode s.data.toList) (by rw[units_step 0 _ h1];exact List.mem_cons_self ..);dsimp only at this;omega
 have CA:=hid cA;have HC:=hid hcase;have CG:=hid (fun wx a b (ht:TwoM wx a b ps.length ps)=>pgreat_any wx a b ps.length ps C ht hCb);generalize ps.length=n at*;obtain⟨R,hR⟩:∃R,R=(⟨(titleT ps s.data.toList).toArray⟩:ByteArray):=⟨_,rfl⟩;rw[←hR];have HR:=hid hR;clear h hin hT cA hcase hCb hR;go_enter Tryz.func80,Tryz.ntmps80;go_wp2_with fail;refine CA.out.mono ?_;rintro e w1 ⟨rfl,hb1⟩;obtain⟨wx,hwx⟩:∃wx,wx=w1.alloc (.cells #[.int .i64 0,.int .i64 N,.int .i64 C] 86):=⟨_,rfl⟩;have hbx:Below w.heap.size w wx:=by rw[hwx];exact hb1.alloc hb1.size _
 have y0:wx.heap[w1.heap.size]?=some (.cells #[.int .i64 0,.int .i64 N,.int .i64 C] 86 (0,0)):=by rw[hwx];exact World.alloc_heap_new _ _
 go_upto_region 2 with fail;rw[←hwx];obtain⟨G,hG⟩:∃G,G=w1.heap.size:=⟨_,rfl⟩;rw[←hG]at y0⊢;have hlt:G<wx.heap.size:=(Array.getElem?_eq_some_iff.1 y0).1;have y0d:wx.drew.heap[G]?=some (.cells #[.int .i64 0,.int .i64 N,.int .i64 C] 86 (0,0)):=y0;have z2:wx.drew.cell? ⟨G,2,none⟩=some (.int .i64 C):=by rw[Lib.cell_of_heap y0d];rfl
 have HW:=hid (And.intro hbx y0);have HK:=hid (show∀w2,Below wx.drew.heap.size wx.drew w2→w2.cell? ⟨G,2,none⟩=some (.int .i64 C)∧Below wx.heap.size wx w2 from fun w2 hb=>by
  have hb':Below wx.heap.size wx w2:=(Below.refl wx.heap.size wx).drew.trans hb;have:=(hb'.block G hlt).trans y0;exact⟨by simp[World.cell?,this],hb'⟩)
 clear hwx hbx y0 y0d hG hb1 CA;go_region_with (first
  | (go_at_call 81;refine(CL.out _ HW.out.1.drew).mono ?_;rintro e w2 ⟨a,b,rfl,htm,hb2⟩;obtain⟨z2',hb2'⟩:=HK.out w2 hb2;have HT2:=hid (And.intro htm hb2');clear htm hb2 hb2')
  | (go_at_call 128;refine(CG.out _ _ _ HT2.out.1).mono ?_;rintro e w3 ⟨rfl,hb3⟩;have HB3:=hid hb3;clear hb3))
 all_goals
  have hb3x:Below wx.heap.size wx w3:=HT2.out.2.trans (HB3.out.mono HT2.out.2.size);have y3:=(hb3x.block G hlt).trans HW.out.2;have z1:w3.cell? ⟨G,1,none⟩=some (.int .i64 N):=by rw[Lib.cell_of_heap y3];rfl
  have HBW:=hid (HW.out.1.trans (hb3x.mono HW.out.1.size));clear hb3x y3 z2 z2' HK;rcases HC.out with ⟨hth,hs0,-⟩|⟨hth,hne,hN,hC⟩
  ·have hans:(⟨(titleT ps s.data.toList).toArray⟩:ByteArray)=s:=by
    rw[hs0,titleT_nil,←hs0,str_back]
   have HA:=hid hans;subst hth;clear hs0 hans;go_wp2_with fail;go_ret;exact⟨by rw[HR.out,HA.out];rfl,HBW.out⟩
  ·subst hth;cases hq:grC ps C with
   | none=>
     have hans:(⟨(titleT ps s.data.toList).toArray⟩:ByteArray)=s:=by
      unfold titleT;rw[if_neg hne,←hC,hq]
     have HA:=hid hans;dsimp only[Option.isSome];clear hN hC hq hans hne;go_wp2_with fail;go_ret;exact⟨by rw[HR.out,HA.out];rfl,HBW.out⟩
   | some d=>
     have hv:grV ps C=d:=by unfold grV;rw[hq]
     have hNs:N≤s.size:=by rw[hN,Lib.size_eq];exact decodeL_le _ hne
     have hans:(⟨(titleT ps s.data.toList).toArray⟩:ByteArray)=bytesOf d++s.extract N s.size:=by
      unfold titleT;rw[if_neg hne,←hC,hq,←hN,←str_back (bytesOf d++s.extract N s.size)];congr 2;rw[ByteArray.data_append,Array.toList_append,Lib.extract_to_end,←byC_bytes]
     have hbl:(bytesOf d).size≤4:=by
      rw[Lib.size_eq,←byC_bytes];unfold byC;split
      ·exact enc_len d
      ·simp
     have HA:=hid hans;rw[hv];dsimp only[Option.isSome];have CB:=hid (fun wx=>(bytes_any d wx).mono fun e w' h=>(⟨h.1,h.2.symm⟩:e= .returned (.string (bytesOf d))∧w'=wx));have hcat:¬9223372036854775807<(bytesOf d).size+(s.extract N s.size).size:=by rw[ByteArray.size_extract];omega
     clear hN hC hq hans hne hv;go_upto_region 5 with fail;go_quiet ((go_at_call 85;exact Calls.quiet_of_same (CB.out _)));go_wp2_with fail;go_ret;exact⟨by rw[HR.out,HA.out];rfl,below_drewN HBW.out nq⟩
theorem codes_take {s:List UInt8}{k:Nat}{u:Nat×Nat×Int}(h:(units 0 s)[k]?=some u):(codesT s).take (k+1)=(codesT s).take k++[u.2.2]:=by
 rw[List.take_add_one,codesT_units,List.getElem?_map,h];rfl
theorem greats_snoc (ps:List (Int×Int))(cs:List Int)(c:Int):greatsC ps (cs++[c])=greatsC ps cs+if (smC ps c).isSome=true then 1 else 0:=by
 unfold greatsC;rw[List.countP_append];simp[List.countP_cons]
theorem smalls_snoc (ps:List (Int×Int))(cs:List Int)(c:Int):smallsC ps (cs++[c])=smallsC ps cs+if (grC ps c).isSome=true then 1 else 0:=by
 unfold smallsC;rw[List.countP_append];simp[List.countP_cons]
theorem first_snoc (ps:List (Int×Int))(cs:List Int)(c:Int):firstC ps (cs++[c])=if cs=[]then(smC ps c).isSome else firstC ps cs:=by
 cases cs with
 | nil=>simp[firstC]
 | cons x t=>simp[firstC]
theorem first_turn (ps:List (Int×Int)){cs:List Int}{k ua:Nat}{c:Int}(hk:k<cs.length)(ht:cs.take (k+1)=cs.take k++[c])(hu:ua=0↔k=0):
  firstC ps (cs.take (k+1))=if (smC ps c).isSome=true then(firstC ps (cs.take k)||decide (ua=0))else firstC ps (cs.take k):=by
 rw[ht,first_snoc];by_cases h0:k=0
 ·subst h0;have hua:ua=0:=hu.2 rfl;have e:cs.take 0=[]:=rfl;rw[e,if_pos rfl,hua];cases (smC ps c).isSome<;>rfl
 ·have hne:cs.take k≠[]:=by
   intro e;have:=congrArg List.length e;rw[List.length_take,List.length_nil]at this;omega
  have hd:decide (ua=0)=false:=decide_eq_false (fun e=>h0 (hu.1 e));rw[if_neg hne,hd,Bool.or_false];split<;>rfl
theorem shape_any (w:World)(v:Value)(ps:List (Int×Int))(s:ByteArray)(h:PairsAt w v ps)(hn:ps.length≤1000000)(hin:∀p∈ps,I64 p.1∧I64 p.2)(hs:s.size≤1000000000):
  Calls Tryz.prog 73 #[v,.string s] w fun e w'=>e= .returned (.int .i64 (shapeT ps s.data.toList))∧Below w.heap.size w w':=by
 have CL:=hid (letters_any w v ps h hn hin);have CA:=hid (fun wx=>all_any s wx (by omega));obtain⟨us,hus⟩:∃us,us=units 0 s.data.toList:=⟨_,rfl⟩;obtain⟨m,hm⟩:∃m,m=us.length:=⟨_,rfl⟩;have hml:m≤s.size:=by rw[hm,hus,Lib.size_eq];exact units_length_le _ 0
 rw[←hus]at CA;have hcl:(codesT s.data.toList).length=m:=by rw[codesT_units,List.length_map,←hus,←hm]
 have HU:=hid (And.intro hus (And.intro hm hcl));obtain⟨R,hR⟩:∃R,R=shapeT ps s.data.toList:=⟨_,rfl⟩;rw[←hR];have HR:=hid hR;obtain⟨A,cap,rfl⟩:=pairs_form h;generalize ps.length=n at*;clear h hin hus hm hR hcl;go_enter Tryz.func73,Tryz.ntmps73;go_wp2_with fail;refine CL.out.mono ?_;rintro e w1 ⟨a,b,rfl,htm,hb1⟩;have HTM:=hid (And.intro htm hb1);clear CL htm hb1;go_wp2_with fail;refine(CA.out _).mono ?_;rintro e w2 ⟨vu,rfl,hown,hb2⟩;obtain⟨wb,hwb⟩:∃wb,wb=w1.alloc (.cells #[.map (some a),.map (some b)] 133):=⟨_,rfl⟩;have q0:wb.heap[w1.heap.size]?=some (.cells #[.map (some a),.map (some b)] 133 (0,0)):=by rw[hwb];exact heap_top _ _ rfl
 have qs:wb.heap.size=w1.heap.size+1:=by rw[hwb];simp
 have qb:Below w1.heap.size w1 wb:=by rw[hwb];exact(Below.refl _ _).alloc (Nat.le_refl _) _
 rw[←hwb]at hown hb2;clear hwb;obtain⟨A2,cap2,rfl,hmc,hcells⟩:=us_open hown;rw[←HU.out.2.1]at hmc⊢;obtain⟨Q,hQ⟩:∃Q,Q=w1.heap.size:=⟨_,rfl⟩;rw[←hQ]at q0 qs⊢;have hs2:=hb2.size;have r0:w2.heap[Q]?=some (.cells #[.map (some a),.map (some b)] 133 (0,0)):=(hb2.block Q (by omega)).trans q0;have hbw:Below w.heap.size w w2:=(HTM.out.2.trans (qb.mono HTM.out.2.size)).trans (hb2.mono (by have:=HTM.out.2.size;omega));have htm2:TwoM w2 a b n ps:=(HTM.out.1.keep qb).keep hb2;have HC:=hid hcells;have HM:=hid (And.intro r0 (And.intro hbw htm2));have HB0:Hid (Below w2.heap.size w2 w2):=hid (Below.refl _ _);clear hcells hQ q0 qs qb hs2 r0 hbw htm2 hown hb2 HTM CA;go_wp2_with fail;go_loopg [6,7,8,20] m (fun gh g1 g2 g3 i wr=>∃(k gn mn:Nat) (fb:Bool),k+gh=m∧i= .int .i64 k∧g1= .int .i64 gn∧g2= .int .i64 mn∧g3= .bool fb∧gn≤k∧mn≤k∧
  Hid (gn=greatsC ps ((codesT s.data.toList).take k)∧mn=smallsC ps ((codesT s.data.toList).take k)∧fb=firstC ps ((codesT s.data.toList).take k)∧Below w2.heap.size w2 wr))
 case atStart=>exact⟨0,0,0,false,by omega,rfl,rfl,rfl,rfl,Nat.le_refl _,Nat.le_refl _,hid ⟨rfl,rfl,rfl,HB0.out⟩⟩
 case round=>
  obtain⟨k,gn,mn,fb,hk,rfl,rfl,rfl,rfl,hgk,hmk,HB⟩:=hrel;by_cases hlt:k<m
  ·obtain⟨u,hu⟩:∃u,us[k]?=some u:=⟨us[k]'(by have:=HU.out.2.1;omega),List.getElem?_eq_getElem _⟩;obtain⟨g,rfl,hg1,hg2,c0,c1,c2⟩:=HC.out k u hu;obtain⟨r0,hbw,htm2⟩:=HM.out;have hb:=HB.out.2.2.2;have e0:=(hb.cell (p:=⟨g,k*3,none⟩) hg2).trans c0;have e1:=(hb.cell (p:=⟨g,k*3+1,none⟩) hg2).trans c1;have e2:=(hb.cell (p:=⟨g,k*3+2,none⟩) hg2).trans c2;have hrq:=(hb.block Q (Array.getElem?_eq_some_iff.1 r0).1).trans r0;have htm:TwoM wr a b n ps:=htm2.keep hb;obtain⟨ua,un,uc⟩:=u;dsimp only at e0 e1 e2;have hbd:=unit_bd s.data.toList 0 (ua,un,uc) (List.mem_of_getElem? (by rw[←HU.out.1];exact hu));dsimp only at hbd;have hfst:=unit_first s.data.toList 0 k (ua,un,uc) (by rw[←HU.out.1];exact hu);dsimp only at hfst;have hsn:=codes_take (by rw[←HU.out.1];exact hu);dsimp only at hsn;have CS:=hid (fun wx (hb:Below wr.heap.size wr wx)=>psmall_any wx a b n ps uc (htm.keep hb) (by omega));have CG:=hid (fun wx (hb:Below wr.heap.size wr wx)=>pgreat_any wx a b n ps uc (htm.keep hb) (by omega));have HX:=hid (And.intro hfst hsn);have tk1:(0:Int)≤k:=by omega
   have tk2:(k:Int)<m:=by omega
   obtain⟨wx,hwx⟩:∃wx,wx=wr.alloc (.cells #[.int .i64 ua,.int .i64 un,.int .i64 uc] 86):=⟨_,rfl⟩;have hbx:Below wr.heap.size wr wx:=by rw[hwx];exact(Below.refl _ _).alloc (Nat.le_refl _) _
   have y0:wx.heap[wr.heap.size]?=some (.cells #[.int .i64 ua,.int .i64 un,.int .i64 uc] 86 (0,0)):=by rw[hwx];exact World.alloc_heap_new _ _
   have HWX:=hid (And.intro hwx (And.intro hbx (And.intro y0 hrq)));clear hbx y0 hwx r0 hbw htm2 hb c0 c1 c2 hrq htm hbd hsn hu hg1 hg2 hfst;go_upto_region 6 with fail;rw[←HWX.out.1];obtain⟨G,hG⟩:∃G,G=wr.heap.size:=⟨_,rfl⟩;rw[←hG];have CELL:=hid (show∀wz,Below wx.heap.size wx wz→Below wr.heap.size wr wz∧wz.cell? ⟨G,0,none⟩=some (.int .i64 ua)∧wz.cell? ⟨G,2,none⟩=some (.int .i64 uc)∧wz.cell? ⟨Q,0,none⟩=some (.map (some a))∧wz.cell? ⟨Q,1,none⟩=some (.map (some b))from fun wz hz=>by
    have y0:=HWX.out.2.2.1;rw[←hG]at y0;have y3:=(hz.block G (Array.getElem?_eq_some_iff.1 y0).1).trans y0;have hbz:=HWX.out.2.1.trans (hz.mono HWX.out.2.1.size);have y4:=(hbz.block Q (Array.getElem?_eq_some_iff.1 HWX.out.2.2.2).1).trans HWX.out.2.2.2;exact⟨hbz,by rw[Lib.cell_of_heap y3];rfl,by rw[Lib.cell_of_heap y3];rfl,by rw[Lib.cell_of_heap y4];rfl,by rw[Lib.cell_of_heap y4];rfl⟩)
   obtain⟨-,-,z2,p0,p1⟩:=CELL.out wx (Below.refl _ _);clear e0 e1 e2 hG;go_wp2_with fail;refine(CS.out _ HWX.out.2.1).mono ?_;rintro e w3 ⟨rfl,hb3⟩;obtain⟨hbz3,z0,z2',p0',p1'⟩:=CELL.out w3 hb3;have HB3:=hid (And.intro hb3 hbz3);clear z2 p0 p1 hb3 hbz3;have hft:=first_turn ps (by rw[HU.out.2.2];exact hlt) HX.out.2 HX.out.1;have hgt:greatsC ps ((codesT s.data.toList).take (k+1))=gn+if (smC ps uc).isSome=true then 1 else 0:=by rw[HX.out.2,greats_snoc,←HB.out.1]
   have hmt:smallsC ps ((codesT s.data.toList).take (k+1))=mn+if (grC ps uc).isSome=true then 1 else 0:=by rw[HX.out.2,smalls_snoc,←HB.out.2.1]
   rw[←HB.out.2.2.1]at hft;generalize (smC ps uc).isSome=X at*;generalize (grC ps uc).isSome=Y at*;generalize smV ps uc=V1 at*;have HFT:=hid (And.intro hft (And.intro hgt hmt));have hgw:IntKind.i64.wrap ((gn:Int)+1)=((gn+1:Nat):Int):=by rw[IntWalk.i64_in _ (by omega)];omega
   have hmw:IntKind.i64.wrap ((mn:Int)+1)=((mn+1:Nat):Int):=by rw[IntWalk.i64_in _ (by omega)];omega
   clear hft hgt hmt;cases X
   ·go_wp2_with fail;refine(CG.out _ HB3.out.2).mono ?_;rintro e w4 ⟨rfl,hb4⟩;have HB4:=hid (HB.out.2.2.2.trans ((HB3.out.2.trans (hb4.mono HB3.out.2.size)).mono HB.out.2.2.2.size));clear z0 z2' p0' p1' hb4;cases Y
    ·go_wp2_with fail;go_roundg (gk-1)
     case measure=>omega
     case rel=>exact⟨k+1,gn,mn,fb,by omega,by go_num,rfl,rfl,rfl,by omega,by omega,hid ⟨HFT.out.2.1.symm,HFT.out.2.2.symm,HFT.out.1.symm,HB4.out⟩⟩
    ·go_wp2_with fail;go_roundg (gk-1)
     case measure=>omega
     case rel=>exact⟨k+1,gn,mn+1,fb,by omega,by go_num,rfl,rfl,rfl,by omega,by omega,hid ⟨HFT.out.2.1.symm,HFT.out.2.2.symm,HFT.out.1.symm,HB4.out⟩⟩
   ·obtain⟨f2,hf2⟩:∃f2,f2=(fb||decide (ua=0)):=⟨_,rfl⟩;have HF2:=hid hf2;go_upto_region 9 with fail;go_cut [8] (fun t wz=>t= .bool f2∧wz=w3)
    case first=>
     cases fb
     ·by_cases h0:ua=0
      ·subst h0;simp at hf2;subst hf2;go_wp2_with fail;go_meet;exact⟨rfl,rfl⟩
      ·have h1:((ua:Int)==0)=false:=by simp;omega
       simp[h0]at hf2;subst hf2;go_wp2_with fail;go_meet;exact⟨rfl,rfl⟩
     ·simp at hf2;subst hf2;go_wp2_with fail;go_meet;exact⟨rfl,rfl⟩
    case rest=>
    obtain⟨rfl,rfl⟩:=hcut;clear hf2;go_wp2_with fail;refine(CG.out _ HB3.out.2).mono ?_;rintro e w4 ⟨rfl,hb4⟩;have HB4:=hid (HB.out.2.2.2.trans ((HB3.out.2.trans (hb4.mono HB3.out.2.size)).mono HB.out.2.2.2.size));clear z0 z2' p0' p1' hb4;have HFF:=hid (HF2.out.trans HFT.out.1.symm);cases Y
    ·go_wp2_with fail;go_roundg (gk-1)
     case measure=>omega
     case rel=>exact⟨k+1,gn+1,mn,f2,by omega,by go_num,rfl,rfl,rfl,by omega,by omega,hid ⟨HFT.out.2.1.symm,HFT.out.2.2.symm,HFF.out,HB4.out⟩⟩
    ·go_wp2_with fail;go_roundg (gk-1)
     case measure=>omega
     case rel=>exact⟨k+1,gn+1,mn+1,f2,by omega,by go_num,rfl,rfl,rfl,by omega,by omega,hid ⟨HFT.out.2.1.symm,HFT.out.2.2.symm,HFF.out,HB4.out⟩⟩
  ·obtain rfl:k=m:=by omega
   have hall:(codesT s.data.toList).take k=codesT s.data.toList:=List.take_of_length_le (by rw[HU.out.2.2];exact Nat.le_refl _);have hans:R=shapeN gn mn fb:=by
    rw[HR.out];unfold shapeT shapeC;rw[HB.out.1,HB.out.2.1,HB.out.2.2.1,hall]
   have hbe:Below w.heap.size w wr:=HM.out.2.1.trans (HB.out.2.2.2.mono HM.out.2.1.size);have HE:=hid (And.intro hans hbe);clear hall hans hbe;by_cases h0:gn=0
   ·subst h0;go_wp2_with fail;go_ret;exact⟨by rw[HE.out.1];rfl,HE.out.2⟩
   ·have g0:((gn:Int)==0)=false:=by simp;omega
    by_cases h1:gn=1
    ·subst h1;cases fb
     ·go_wp2_with fail;go_ret;exact⟨by rw[HE.out.1];simp[shapeN],HE.out.2⟩
     ·go_wp2_with fail;go_ret;exact⟨by rw[HE.out.1];simp[shapeN],HE.out.2⟩
    ·have g1:((gn:Int)==1)=false:=by simp;omega
     have g2:decide ((1:Int)<gn)=true:=by simp;omega
     have HN:=hid (And.intro h0 h1);clear h0 h1;by_cases hm0:mn=0
     ·subst hm0;go_wp2_with fail;go_ret;exact⟨by rw[HE.out.1];have:=HN.out;simp[shapeN,this.1,this.2];omega,HE.out.2⟩
     ·have m0:((mn:Int)==0)=false:=by simp;omega
      have HN2:=hid hm0;clear hm0;go_wp2_with fail;go_ret;exact⟨by rw[HE.out.1];have:=HN.out;simp[shapeN,this.1,this.2,HN2.out],HE.out.2⟩
abbrev TU (w:World):Prop:=Lib.Utf8Tabs 1 2 w
structure Prs (w:World)(v:Value)(ps:List (Int×Int)):Prop where
 at_:PairsAt w v ps
 few:ps.length≤1000000
 fit:∀p∈ps,I64 p.1∧I64 p.2
theorem Prs.keep {w w':World}{v:Value}{ps:List (Int×Int)}(h:Prs w v ps)(hb:Below w.heap.size w w'):Prs w' v ps:=⟨h.at_.keep hb,h.few,h.fit⟩
theorem fsmall {w:World}{v:Value}{ps:List (Int×Int)}(h:Prs w v ps){s t:ByteArray}(hs:s.size≤1000000000)(e:smallT ps s.data.toList=t.data.toList):
  Calls Tryz.prog 36 #[v,.string s] w fun e w'=>e= .returned (.string t)∧Below w.heap.size w w':=by
 have:=small_any w v ps s h.at_ h.few h.fit hs;rwa[e,str_back]at this
theorem ftitle {w:World}{v:Value}{ps:List (Int×Int)}(h:Prs w v ps)(hT:TU w){s t:ByteArray}(hs:s.size≤1000000000)(e:titleT ps s.data.toList=t.data.toList):
  Calls Tryz.prog 80 #[v,.string s] w fun e w'=>e= .returned (.string t)∧Below w.heap.size w w':=by
 have:=title_any w v ps s h.at_ h.few h.fit hs hT;rwa[e,str_back]at this
theorem fshape {w:World}{v:Value}{ps:List (Int×Int)}(h:Prs w v ps){s:ByteArray}{k:Int}(hs:s.size≤1000000000)(e:shapeT ps s.data.toList=k):
  Calls Tryz.prog 73 #[v,.string s] w fun e w'=>e= .returned (.int .i64 k)∧Below w.heap.size w w':=by
 have:=shape_any w v ps s h.at_ h.few h.fit hs;rwa[e]at this
theorem pw_none {α:Type}{f:α→Int}{ps:List α}{c:Int}{n:Nat}(hn:n=ps.length)(h:∀q∈ps.take n,f q≠c):ps.find? (fun q=>decide (f q=c))=none:=by
 rw[List.find?_eq_none];intro q hq;have:=h q (by rw[hn,List.take_length];exact hq);simpa using this
theorem pw_some {α:Type}{f:α→Int}{ps:List α}{c:Int}{k:Nat}{p:α}(h:∀q∈ps.take k,f q≠c)(hk:ps[k]?=some p)(e:f p=c):ps.find? (fun q=>decide (f q=c))=some p:=by
 obtain⟨hl,hp⟩:=List.getElem?_eq_some_iff.1 hk;have h1:ps=ps.take k++p::ps.drop (k+1):=by
  rw[←hp,←List.drop_eq_getElem_cons hl,List.take_append_drop]
 rw[h1,List.find?_append,List.find?_eq_none.2 (fun q hq=>by simpa using h q hq)];simp[e]
theorem pw_step {α:Type}{f:α→Int}{ps:List α}{c:Int}{k:Nat}{p:α}(h:∀q∈ps.take k,f q≠c)(hk:ps[k]?=some p)(e:f p≠c):∀q∈ps.take (k+1),f q≠c:=by
 intro q hq;rw[List.take_add_one,hk]at hq;rcases List.mem_append.1 hq with hq|hq
 ·exact h q hq
 ·simp at hq;rw[hq];exact e
theorem rsmall14 (w:World)(A:Option Addr)(n cap:Nat)(ps:List (Int×Int))(c:Int)(h:PairsAt w (.slice A n cap) ps)(hn:n=ps.length)(hn9:n≤1000000)(hc: -1000000000000≤c∧c≤1000000000000):
  Calls Tryz.prog 48 #[.slice A n cap,.int .i64 c] w fun e w'=>e= .returned (.tuple #[.int .i64 ((smC ps c).getD c),.bool (smC ps c).isSome])∧w'=w:=by
 have HP:=hid (fpairs_open h);obtain⟨V,hV⟩:∃V,V=(smC ps c).getD c:=⟨_,rfl⟩;obtain⟨B,hB⟩:∃B,B=(smC ps c).isSome:=⟨_,rfl⟩;rw[←hV,←hB];have HN:=hid (And.intro hn (And.intro hV hB));obtain⟨c1,c2⟩:=hc;clear h hn hV hB;go_enter Tryz.func48,Tryz.ntmps48;go_wp2_with fail;go_loopg [6] n (fun gh i wr=>∃k:Nat,k+gh=n∧i= .int .i64 k∧w=wr∧Hid (∀q∈ps.take k,q.1≠c))
 case atStart=>exact⟨0,by omega,rfl,rfl,hid (fun q hq=>by simp at hq)⟩
 case round=>
  obtain⟨k,hk,rfl,rfl,HK⟩:=hrel;have k0:(0:Int)≤k:=by omega
  rcases Nat.eq_zero_or_pos gk with h0|h0
  ·have d1:¬(k:Int)<n:=by omega
   have hf:=pw_none (f:=fun q:Int×Int=>q.1) HN.out.1 (by rw[show n=k by omega];exact HK.out);by_cases hr:65≤c∧c≤90
   ·have e1:smC ps c=some (c-65+97):=by unfold smC;rw[hf];dsimp only;rw[if_pos hr]
    have e2:V=c+32:=by rw[HN.out.2.1];rw[e1];show c-65+97=c+32;omega
    have e3:B=true:=by rw[HN.out.2.2,e1];rfl
    have w1:IntKind.i64.wrap (c+32)=c+32:=IntWalk.i64_in _ (by omega);obtain⟨r1,r2⟩:=hr;have q1:decide ((65:Int)≤c)=true:=decide_eq_true r1;have q2:decide (c≤(90:Int))=true:=decide_eq_true r2;clear hf e1;subst e2 e3;go_wp2_with fail;go_ret2;exact⟨rfl,rfl⟩
   ·have e1:smC ps c=none:=by unfold smC;rw[hf];dsimp only;rw[if_neg hr]
    have e2:V=c:=by rw[HN.out.2.1];rw[e1];rfl
    have e3:B=false:=by rw[HN.out.2.2,e1];rfl
    clear hf e1;subst e2 e3;by_cases r1:65≤V
    ·have r2:¬V≤90:=fun h=>hr ⟨r1,h⟩;have q1:decide ((65:Int)≤V)=true:=decide_eq_true r1;have q2:decide (V≤(90:Int))=false:=decide_eq_false r2;go_wp2_with fail;go_ret2;exact⟨rfl,rfl⟩
    ·have q1:decide ((65:Int)≤V)=false:=decide_eq_false r1;go_wp2_with fail;go_ret2;exact⟨rfl,rfl⟩
  ·have d1:(k:Int)<n:=by omega
   obtain⟨p,hp⟩:∃p,ps[k]?=some p:=⟨_,List.getElem?_eq_getElem (by have:=HN.out.1;omega)⟩;obtain⟨b,off,rfl,hb,hcap,x1,x2⟩:=HP.out k p hp;by_cases he:p.1=c
   ·have hf:=pw_some (f:=fun q:Int×Int=>q.1) HK.out hp he;have e1:smC ps c=some p.2:=by unfold smC;rw[hf]
    have e2:V=p.2:=by rw[HN.out.2.1];rw[e1];rfl
    have e3:B=true:=by rw[HN.out.2.2,e1];rfl
    have q1:(p.1==c)=true:=by simpa using he
    clear hf e1 hp he;subst e2 e3;go_wp2_with fail;go_ret2;exact⟨rfl,rfl⟩
   ·have q1:(p.1==c)=false:=by simpa using he
    have HS:=hid (pw_step (f:=fun q:Int×Int=>q.1) HK.out hp he);clear hp;go_wp2_with fail;go_roundg (gk-1)
    case measure=>omega
    case rel=>exact⟨k+1,by omega,by go_num,rfl,HS⟩
theorem rgreat14 (w:World)(A:Option Addr)(n cap:Nat)(ps:List (Int×Int))(c:Int)(h:PairsAt w (.slice A n cap) ps)(hn:n=ps.length)(hn9:n≤1000000)(hc: -1000000000000≤c∧c≤1000000000000):
  Calls Tryz.prog 45 #[.slice A n cap,.int .i64 c] w fun e w'=>e= .returned (.tuple #[.int .i64 ((grC ps c).getD c),.bool (grC ps c).isSome])∧w'=w:=by
 have HP:=hid (fpairs_open h);obtain⟨V,hV⟩:∃V,V=(grC ps c).getD c:=⟨_,rfl⟩;obtain⟨B,hB⟩:∃B,B=(grC ps c).isSome:=⟨_,rfl⟩;rw[←hV,←hB];have HN:=hid (And.intro hn (And.intro hV hB));obtain⟨c1,c2⟩:=hc;clear h hn hV hB;go_enter Tryz.func45,Tryz.ntmps45;go_wp2_with fail;go_loopg [6] n (fun gh i wr=>∃k:Nat,k+gh=n∧i= .int .i64 k∧w=wr∧Hid (∀q∈ps.take k,q.2≠c))
 case atStart=>exact⟨0,by omega,rfl,rfl,hid (fun q hq=>by simp at hq)⟩
 case round=>
  obtain⟨k,hk,rfl,rfl,HK⟩:=hrel;have k0:(0:Int)≤k:=by omega
  rcases Nat.eq_zero_or_pos gk with h0|h0
  ·have d1:¬(k:Int)<n:=by omega
   have hf:=pw_none (f:=fun q:Int×Int=>q.2) HN.out.1 (by rw[show n=k by omega];exact HK.out);by_cases hr:97≤c∧c≤122
   ·have e1:grC ps c=some (c-97+65):=by unfold grC;rw[hf];dsimp only;rw[if_pos hr]
    have e2:V=c-32:=by rw[HN.out.2.1];rw[e1];show c-97+65=c-32;omega
    have e3:B=true:=by rw[HN.out.2.2,e1];rfl
    have w1:IntKind.i64.wrap (c-32)=c-32:=IntWalk.i64_in _ (by omega);obtain⟨r1,r2⟩:=hr;have q1:decide ((97:Int)≤c)=true:=decide_eq_true r1;have q2:decide (c≤(122:Int))=true:=decide_eq_true r2;clear hf e1;subst e2 e3;go_wp2_with fail;go_ret2;exact⟨rfl,rfl⟩
   ·have e1:grC ps c=none:=by unfold grC;rw[hf];dsimp only;rw[if_neg hr]
    have e2:V=c:=by rw[HN.out.2.1];rw[e1];rfl
    have e3:B=false:=by rw[HN.out.2.2,e1];rfl
    clear hf e1;subst e2 e3;by_cases r1:97≤V
    ·have r2:¬V≤122:=fun h=>hr ⟨r1,h⟩;have q1:decide ((97:Int)≤V)=true:=decide_eq_true r1;have q2:decide (V≤(122:Int))=false:=decide_eq_false r2;go_wp2_with fail;go_ret2;exact⟨rfl,rfl⟩
    ·have q1:decide ((97:Int)≤V)=false:=decide_eq_false r1;go_wp2_with fail;go_ret2;exact⟨rfl,rfl⟩
  ·have d1:(k:Int)<n:=by omega
   obtain⟨p,hp⟩:∃p,ps[k]?=some p:=⟨_,List.getElem?_eq_getElem (by have:=HN.out.1;omega)⟩;obtain⟨b,off,rfl,hb,hcap,x1,x2⟩:=HP.out k p hp;by_cases he:p.2=c
   ·have hf:=pw_some (f:=fun q:Int×Int=>q.2) HK.out hp he;have e1:grC ps c=some p.1:=by unfold grC;rw[hf]
    have e2:V=p.1:=by rw[HN.out.2.1];rw[e1];rfl
    have e3:B=true:=by rw[HN.out.2.2,e1];rfl
    have q1:(p.2==c)=true:=by simpa using he
    clear hf e1 hp he;subst e2 e3;go_wp2_with fail;go_ret2;exact⟨rfl,rfl⟩
   ·have q1:(p.2==c)=false:=by simpa using he
    have HS:=hid (pw_step (f:=fun q:Int×Int=>q.2) HK.out hp he);clear hp;go_wp2_with fail;go_roundg (gk-1)
    case measure=>omega
    case rel=>exact⟨k+1,by omega,by go_num,rfl,HS⟩
end Go.Proofs.YtfehpcbmdancoaaGreatDoor.Fo
