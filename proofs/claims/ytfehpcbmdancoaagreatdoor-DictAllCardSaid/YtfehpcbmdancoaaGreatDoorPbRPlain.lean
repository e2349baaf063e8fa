/- Rules, plain: what Check asks, and that a line says just such rules; a text cut at its blanks into so many parts at most. -/
import Derived.OwnWalk
import Derived.Laws.MakeOwn
import Derived.Lib.Bytealg
import Derived.Deep.CutRange
import Derived.Deep.DeepCutAuto
import Derived.Test.YtfehpcbmdancoaaGreatDoorPbPlain
namespace Go.Proofs.YtfehpcbmdancoaaGreatDoor
open Go Go.RowKit Go.Lib
theorem wordsL_count:∀l:List UInt8,(wordsL l).length=l.count 32+1
 | []=>rfl
 | b::r=>by
   have ih:=wordsL_count r
   rw[wordsL_cons]
   by_cases hb:b=32
   ·rw[if_pos hb,hb,List.length_cons,ih,List.count_cons_self]
   ·rw[if_neg hb,List.count_cons_of_ne hb]
    cases h:wordsL r with
    | nil=>exact absurd h (wordsL_ne r)
    | cons x t=>rw[h]at ih;simpa using ih
def letterB (k:Int):Bool:=decide ((97≤k∧k≤122)∨(65≤k∧k≤90))
def wordB (s:ByteArray):Bool:=decide (validD s.data.toList=true∧(32:UInt8) ∉ s.data.toList)
def sayB (s:ByteArray):Bool:=decide (s.data.toList≠[48]∧s.size≤20∧wordB s=true)
theorem r_mk (s:ByteArray):(⟨s.data.toList.toArray⟩:ByteArray)=s:=by cases s;simp
def splitL:Nat→List UInt8→List (List UInt8)
 | 0,l=>[l]
 | n+1,l=>if (32:UInt8)∈l then l.takeWhile (· ≠32)::splitL n ((l.dropWhile (· ≠32)).tail)else [l]
theorem blank_cut {l:List UInt8}(h:(32:UInt8)∈l):l=l.takeWhile (· ≠32)++32::(l.dropWhile (· ≠32)).tail∧(32:UInt8) ∉ l.takeWhile (· ≠32):=by
 induction l with
 | nil=>cases h
 | cons b l ih=>
   by_cases hb:b=32
   ·subst hb
    simp
   ·have hm:(32:UInt8)∈l:=by
     rcases List.mem_cons.1 h with e|e
     ·exact absurd e.symm hb
     ·exact e
    obtain⟨h1,h2⟩:=ih hm
    have hd:(decide (b≠32))=true:=by simpa using hb
    rw[List.takeWhile_cons,List.dropWhile_cons,if_pos hd,if_pos hd]
    refine⟨by rw[List.cons_append,←h1],fun hm2=>?_⟩
    rcases List.mem_cons.1 hm2 with e|e
    ·exact hb e.symm
    ·exact h2 e
theorem splitL_words:∀(n:Nat) (l:List UInt8),(splitL n l).length≤n→splitL n l=wordsL l
 | 0,l,h=>by simp[splitL]at h
 | n+1,l,h=>by
   unfold splitL at h⊢
   by_cases hm:(32:UInt8)∈l
   ·rw[if_pos hm]at h⊢
    obtain⟨h1,h2⟩:=blank_cut hm
    conv=>rhs;rw[h1,wordsL_app _ _ h2]
    rw[splitL_words n _ (by rw[List.length_cons]at h;omega)]
   ·rw[if_neg hm]at h⊢
    exact(wordsL_one l hm).symm
theorem splitL_more:∀(n:Nat) (l:List UInt8),n<(splitL n l).length→n<(wordsL l).length
 | 0,l,_=>List.length_pos_iff.2 (wordsL_ne l)
 | n+1,l,h=>by
   unfold splitL at h
   by_cases hm:(32:UInt8)∈l
   ·rw[if_pos hm]at h
    obtain⟨h1,h2⟩:=blank_cut hm
    rw[h1,wordsL_app _ _ h2,List.length_cons]
    have:=splitL_more n _ (by rw[List.length_cons]at h;exact Nat.lt_of_succ_lt_succ h)
    omega
   ·rw[if_neg hm]at h
    simp at h
theorem splitL_six (l:List UInt8):((splitL 6 l).length=6↔(wordsL l).length=6)∧((wordsL l).length=6→splitL 6 l=wordsL l):=by
 by_cases h:(splitL 6 l).length≤6
 ·have:=splitL_words 6 l h
  rw[this]
  exact⟨Iff.rfl,fun _=>rfl⟩
 ·have:=splitL_more 6 l (by omega)
  exact⟨⟨fun h2=>by omega,fun h2=>by omega⟩,fun h2=>by omega⟩
end Go.Proofs.YtfehpcbmdancoaaGreatDoor
namespace Go.Proofs.YtfehpcbmdancoaaGreatDoor
open Go Go.RowKit Go.Lib
theorem r_toL (s:ByteArray):s.toList=s.data.toList:=by rw[ByteArray.toList_eq]
set_option maxRecDepth 100000 in
set_option maxHeartbeats 1000000 in
theorem rl_any (k:Int)(w:World):
  Calls Tryz.prog 190 #[.int .i64 k] w fun e w'=>e= .returned (.bool (letterB k))∧w'=w:=by
 unfold letterB
 by_cases c1:97≤k
 ·by_cases c2:k≤122
  ·rw[decide_eq_true (.inl ⟨c1,c2⟩)]
   go_enter Tryz.func190,Tryz.ntmps190
   go_wp2_with fail
   go_ret
   exact⟨rfl,rfl⟩
  ·rw[decide_eq_false (by omega)]
   have d3:65≤k:=by omega
   have d4:¬k≤90:=by omega
   go_enter Tryz.func190,Tryz.ntmps190
   go_wp2_with fail
   go_ret
   exact⟨rfl,rfl⟩
 ·by_cases c2:65≤k
  ·by_cases c3:k≤90
   ·rw[decide_eq_true (.inr ⟨c2,c3⟩)]
    go_enter Tryz.func190,Tryz.ntmps190
    go_wp2_with fail
    go_ret
    exact⟨rfl,rfl⟩
   ·rw[decide_eq_false (by omega)]
    go_enter Tryz.func190,Tryz.ntmps190
    go_wp2_with fail
    go_ret
    exact⟨rfl,rfl⟩
  ·rw[decide_eq_false (by omega)]
   go_enter Tryz.func190,Tryz.ntmps190
   go_wp2_with fail
   go_ret
   exact⟨rfl,rfl⟩
theorem letter_flag (b:UInt8):decide (flagL [b]≠0)=letterB b.toNat∧(flagL [b]≠0→(b.toNat:Int)=flagL [b]):=by
 have hd:flagL [b]=if (97≤b.toNat∧b.toNat≤122)∨(65≤b.toNat∧b.toNat≤90)then(b.toNat:Int)else 0:=rfl
 unfold letterB
 rw[hd]
 by_cases h:(97≤b.toNat∧b.toNat≤122)∨(65≤b.toNat∧b.toNat≤90)
 ·rw[if_pos h]
  exact⟨by rw[decide_eq_true (by omega),decide_eq_true (by omega)],fun _=>rfl⟩
 ·rw[if_neg h]
  exact⟨by rw[decide_eq_false (by simp),decide_eq_false (by omega)],fun h2=>absurd rfl h2⟩
theorem flag_none {x:List UInt8}(h:x.length≠1):flagL x=0:=by
 match x,h with
 | [],_=>rfl
 | _::_::_,_=>rfl
def LetterE (e:Ending)(L:List UInt8):Prop:=∃k,e= .returned (.tuple #[.int .i64 k,.bool (decide (flagL L≠0))])∧(flagL L≠0→k=flagL L)
set_option maxRecDepth 100000 in
set_option maxHeartbeats 1000000 in
theorem rletter_any (s:ByteArray)(w:World)(_hs:s.size≤1000000000000):
  Calls Tryz.prog 139 #[.string s] w fun e w'=>LetterE e s.data.toList∧Below w.heap.size w w':=by
 by_cases h1:s.size=1
 ·obtain⟨b,hb⟩:∃b,s.data.toList=[b]:=by
   have:s.data.toList.length=1:=by rw[←Lib.size_eq];exact h1
   exact List.length_eq_one_iff.1 this
  have hk:0<s.size:=by omega
  have hget:s[0]'hk=b:=by
   have h2:s.data.toList[0]?=s.data[0]?:=Array.getElem?_toList
   rw[hb]at h2
   have h3:s.data[0]?=some (s.data[0]'hk):=Array.getElem?_eq_getElem hk
   rw[h3]at h2
   exact(Option.some.inj h2).symm
  rw[hb]
  have hi:((s.size:Int)==1)=true:=by rw[h1];rfl
  have hi2:(0:Int)<s.size:=by omega
  have hgx:(s[0]'hk).toNat=b.toNat:=by rw[hget]
  have hlt:b.toNat<256:=b.toNat_lt
  have wr:IntKind.i64.wrap (b.toNat:Int)=(b.toNat:Int):=IntWalk.i64_in _ (by omega)
  have C:=Lib.hid (fun wx=>rl_any (b.toNat:Int) wx)
  have HL:=Lib.hid (letter_flag b)
  clear hb hget
  go_enter Tryz.func139,Tryz.ntmps139
  go_wp2_with fail
  go_quiet ((go_at_call 190;refine(C.out _).mono ?_;rintro e w2 ⟨rfl,rfl⟩;exact⟨rfl,_,rfl⟩))
  go_wp2_with fail
  go_ret2
  exact⟨⟨(b.toNat:Int),by rw[HL.out.1];rfl,HL.out.2⟩,below_drewN (Below.refl _ _) _⟩
 ·have hz:flagL s.data.toList=0:=flag_none (by rw[←Lib.size_eq];exact h1)
  have hi:((s.size:Int)==1)=false:=by simp;omega
  have HZ:=Lib.hid hz
  clear h1 hz
  go_enter Tryz.func139,Tryz.ntmps139
  go_wp2_with fail
  go_ret2
  exact⟨⟨0,by rw[HZ.out];rfl,fun h=>absurd HZ.out h⟩,Below.refl _ _⟩
theorem form_cut {a c p q:List UInt8}(hp:(32:UInt8) ∉ p)(hq:(32:UInt8) ∉ q):(a++32::c=p++32::q)↔(a=p∧c=q):=by
 refine⟨fun h=>?_,fun ⟨h1,h2⟩=>by rw[h1,h2]⟩
 have hw:wordsL (a++32::c)=[p,q]:=by rw[h,wordsL_app _ _ hp,wordsL_one _ hq]
 have hn:(wordsL (a++32::c)).length=2:=by rw[hw];rfl
 rw[wordsL_count]at hn
 simp only[List.count_append,List.count_cons_self]at hn
 have ha:(32:UInt8) ∉ a:=List.count_eq_zero.1 (by omega)
 have hc:(32:UInt8) ∉ c:=List.count_eq_zero.1 (by omega)
 rw[wordsL_app _ _ ha,wordsL_one _ hc]at hw
 exact⟨(List.cons.inj hw).1,(List.cons.inj (List.cons.inj hw).2).1⟩
def fP (a c:List UInt8):Bool:=decide (a=pfx∧(c=[89]∨c=[78]))
def fX (a c:List UInt8):Bool:=decide ((a=pfx∨a=sfx)∧c=[89])
def fO (a c:List UInt8):Bool:=decide ((a=pfx∨a=sfx)∧(c=[89]∨c=[78]))
def FormE (e:Ending)(a c:List UInt8):Prop:=e= .returned (.tuple #[.bool (fP a c),.bool (fX a c),.bool (fO a c)])
theorem FormE.mk {a c:List UInt8}{p x o:Bool}(h1:fP a c=p)(h2:fX a c=x)(h3:fO a c=o):FormE (.returned (.tuple #[.bool p,.bool x,.bool o])) a c:=by subst h1 h2 h3;rfl
theorem r_app (a b:ByteArray):(a++b).data.toList=a.data.toList++b.data.toList:=by
 rw[ByteArray.data_append,Array.toList_append]
set_option maxRecDepth 100000 in
set_option maxHeartbeats 2000000 in
theorem rform_any (a c:ByteArray)(w:World)(ha:a.size≤1000000000000)(hc:c.size≤1000000000000):
  Calls Tryz.prog 138 #[.string a,.string c] w fun e w'=>FormE e a.data.toList c.data.toList∧w'=w:=by
 have hT:((a++⟨#[32]⟩)++c).toList=a.data.toList++32::c.data.toList:=by
  rw[r_toL,r_app,r_app,List.append_assoc];rfl
 have q1:¬9223372036854775807<a.size+1:=by omega
 have q2:(a++(⟨#[32]⟩:ByteArray)).size=a.size+1:=by rw[ByteArray.size_append];rfl
 have q3:¬9223372036854775807<a.size+1+c.size:=by omega
 have k1:=form_cut (a:=a.data.toList) (c:=c.data.toList) (p:=pfx) (q:=[89]) (by decide) (by decide)
 have k2:=form_cut (a:=a.data.toList) (c:=c.data.toList) (p:=pfx) (q:=[78]) (by decide) (by decide)
 have k3:=form_cut (a:=a.data.toList) (c:=c.data.toList) (p:=sfx) (q:=[89]) (by decide) (by decide)
 have k4:=form_cut (a:=a.data.toList) (c:=c.data.toList) (p:=sfx) (q:=[78]) (by decide) (by decide)
 have K:=Lib.hid (And.intro (And.intro k1 k2) (And.intro k3 k4))
 have e1:(((a++(⟨#[32]⟩:ByteArray))++c).toList==[80,70,88,32,89])=decide (a.data.toList=pfx∧c.data.toList=[89]):=by
  rw[Bool.eq_iff_iff,beq_iff_eq,decide_eq_true_eq,hT];exact k1
 have e2:(((a++(⟨#[32]⟩:ByteArray))++c).toList==[80,70,88,32,78])=decide (a.data.toList=pfx∧c.data.toList=[78]):=by
  rw[Bool.eq_iff_iff,beq_iff_eq,decide_eq_true_eq,hT];exact k2
 have e3:(((a++(⟨#[32]⟩:ByteArray))++c).toList==[83,70,88,32,89])=decide (a.data.toList=sfx∧c.data.toList=[89]):=by
  rw[Bool.eq_iff_iff,beq_iff_eq,decide_eq_true_eq,hT];exact k3
 have e4:(((a++(⟨#[32]⟩:ByteArray))++c).toList==[83,70,88,32,78])=decide (a.data.toList=sfx∧c.data.toList=[78]):=by
  rw[Bool.eq_iff_iff,beq_iff_eq,decide_eq_true_eq,hT];exact k4
 clear k1 k2 k3 k4 hT K
 obtain⟨A,hA⟩:∃A,A=a.data.toList:=⟨_,rfl⟩
 obtain⟨C,hC⟩:∃C,C=c.data.toList:=⟨_,rfl⟩
 rw[←hA,←hC]at e1 e2 e3 e4⊢
 clear hA hC
 by_cases c1:A=pfx∧C=[89]
 ·rw[decide_eq_true c1]at e1
  go_enter Tryz.func138,Tryz.ntmps138
  go_wp2_with fail
  go_ret3
  exact⟨FormE.mk (by obtain⟨rfl,rfl⟩:=c1;decide) (by obtain⟨rfl,rfl⟩:=c1;decide) (by obtain⟨rfl,rfl⟩:=c1;decide),rfl⟩
 rw[decide_eq_false c1]at e1
 by_cases c2:A=pfx∧C=[78]
 ·rw[decide_eq_true c2]at e2
  go_enter Tryz.func138,Tryz.ntmps138
  go_wp2_with fail
  go_ret3
  exact⟨FormE.mk (by obtain⟨rfl,rfl⟩:=c2;decide) (by obtain⟨rfl,rfl⟩:=c2;decide) (by obtain⟨rfl,rfl⟩:=c2;decide),rfl⟩
 rw[decide_eq_false c2]at e2
 by_cases c3:A=sfx∧C=[89]
 ·rw[decide_eq_true c3]at e3
  go_enter Tryz.func138,Tryz.ntmps138
  go_wp2_with fail
  go_ret3
  exact⟨FormE.mk (by obtain⟨rfl,rfl⟩:=c3;decide) (by obtain⟨rfl,rfl⟩:=c3;decide) (by obtain⟨rfl,rfl⟩:=c3;decide),rfl⟩
 rw[decide_eq_false c3]at e3
 by_cases c4:A=sfx∧C=[78]
 ·rw[decide_eq_true c4]at e4
  go_enter Tryz.func138,Tryz.ntmps138
  go_wp2_with fail
  go_ret3
  exact⟨FormE.mk (by obtain⟨rfl,rfl⟩:=c4;decide) (by obtain⟨rfl,rfl⟩:=c4;decide) (by obtain⟨rfl,rfl⟩:=c4;decide),rfl⟩
 rw[decide_eq_false c4]at e4
 go_enter Tryz.func138,Tryz.ntmps138
 go_wp2_with fail
 go_ret3
 have c0:fO A C=false:=by
  unfold fO
  refine decide_eq_false ?_
  rintro⟨h1|h1,h2|h2⟩
  ·exact c1 ⟨h1,h2⟩
  ·exact c2 ⟨h1,h2⟩
  ·exact c3 ⟨h1,h2⟩
  ·exact c4 ⟨h1,h2⟩
 have h0:¬((A=pfx∨A=sfx)∧(C=[89]∨C=[78])):=of_decide_eq_false c0
 exact⟨FormE.mk (decide_eq_false fun h=>h0 ⟨.inl h.1,h.2⟩) (decide_eq_false fun h=>h0 ⟨h.1,.inl h.2⟩) c0,rfl⟩
set_option maxRecDepth 100000 in
set_option maxHeartbeats 1000000 in
theorem rwith_any (w:World)(v:Value)(r:Ru)(s:ByteArray)(h:RuAt w v r)(hs:s.size≤1000000000000)(ha:r.add.size≤1000000000000):
  Calls Tryz.prog 220 #[v,.string s] w fun e w'=>e= .returned (.string (if r.pre then r.add++s else s++r.add))∧Below w.heap.size w w':=by
 obtain⟨A,cap,rfl,-⟩:=h
 have HB:=Lib.hid ((Below.refl w.heap.size w).alloc (Nat.le_refl _) (.cells #[.bool r.pre,.int .i64 r.flag,.bool r.cross,.string r.strip,.string r.add,.slice A r.cond.length cap] 123))
 obtain⟨n,hn⟩:∃n,n=r.cond.length:=⟨_,rfl⟩
 rw[←hn]at HB⊢
 clear hn
 obtain⟨pre,flag,cross,strip,add,cond⟩:=r
 dsimp only at HB ha⊢
 have q1:¬9223372036854775807<add.size+s.size:=by omega
 have q2:¬9223372036854775807<s.size+add.size:=by omega
 cases pre with
 | true=>
   go_enter Tryz.func220,Tryz.ntmps220
   go_wp2_with fail
   go_ret
   exact⟨rfl,HB.out⟩
 | false=>
   go_enter Tryz.func220,Tryz.ntmps220
   go_wp2_with fail
   go_ret
   exact⟨rfl,HB.out⟩
set_option maxRecDepth 100000 in
set_option maxHeartbeats 1000000 in
theorem rtogether_any (w:World)(v v':Value)(p s:Ru)(h:RuAt w v p)(h':RuAt w v' s):
  Calls Tryz.prog 221 #[v,v'] w fun e w'=>e= .returned (.bool (p.pre&& !s.pre&&p.cross&&s.cross))∧Below w.heap.size w w':=by
 obtain⟨A,cap,rfl,-⟩:=h
 obtain⟨A',cap',rfl,-⟩:=h'
 have HB:=Lib.hid (((Below.refl w.heap.size w).alloc (Nat.le_refl _) (.cells #[.bool p.pre,.int .i64 p.flag,.bool p.cross,.string p.strip,.string p.add,.slice A p.cond.length cap] 123)).alloc (by rw[World.size_alloc];omega) (.cells #[.bool s.pre,.int .i64 s.flag,.bool s.cross,.string s.strip,.string s.add,.slice A' s.cond.length cap'] 123))
 obtain⟨n,hn⟩:∃n,n=p.cond.length:=⟨_,rfl⟩
 obtain⟨n',hn'⟩:∃n,n=s.cond.length:=⟨_,rfl⟩
 rw[←hn,←hn']at HB
 rw[←hn,←hn']
 clear hn hn'
 obtain⟨ppre,pflag,pcross,pstrip,padd,pcond⟩:=p
 obtain⟨spre,sflag,scross,sstrip,sadd,scond⟩:=s
 dsimp only at HB⊢
 cases ppre<;>cases spre<;>cases pcross<;>cases scross
 all_goals
  go_enter Tryz.func221,Tryz.ntmps221
  go_wp2_with fail
  go_ret
  exact⟨rfl,HB.out⟩
end Go.Proofs.YtfehpcbmdancoaaGreatDoor
namespace Go.Proofs.YtfehpcbmdancoaaGreatDoor
open Go Go.RowKit Go.Lib
theorem splitL_enough:∀(n:Nat) (l:List UInt8),l.length≤n→splitL n l=wordsL l
 | 0,l,h=>by
   obtain rfl:l=[]:=List.eq_nil_of_length_eq_zero (by omega)
   rfl
 | n+1,l,h=>by
   unfold splitL
   by_cases hm:(32:UInt8)∈l
   ·rw[if_pos hm]
    obtain⟨h1,h2⟩:=blank_cut hm
    conv=>rhs;rw[h1,wordsL_app _ _ h2]
    rw[splitL_enough n _ (by have:=congrArg List.length h1;rw[List.length_append,List.length_cons]at this;omega)]
   ·rw[if_neg hm]
    exact(wordsL_one l hm).symm
theorem splitL_min (l:List UInt8)(N:Nat)(h:N=min 7 (l.length+1)):splitL (N-1) l=splitL 6 l:=by
 by_cases h7:6≤l.length
 ·rw[show N-1=6 by omega]
 ·rw[splitL_enough (N-1) l (by omega),splitL_enough 6 l (by omega)]
theorem idx_none {l:List UInt8}(h:(32:UInt8) ∉ l):indexByte l 32= -1:=by
 induction l with
 | nil=>rfl
 | cons b l ih=>
   unfold indexByte
   rw[if_neg (by simp;exact fun e=>h (by rw[e];exact List.mem_cons_self ..)),ih fun e=>h (List.mem_cons_of_mem _ e)]
   rfl
theorem idx_some {l:List UInt8}(h:(32:UInt8)∈l):indexByte l 32=((l.takeWhile (· ≠32)).length:Nat):=by
 induction l with
 | nil=>cases h
 | cons b l ih=>
   unfold indexByte
   by_cases hb:b=32
   ·subst hb
    simp
   ·have hm:(32:UInt8)∈l:=by
     rcases List.mem_cons.1 h with e|e
     ·exact absurd e.symm hb
     ·exact e
    have hd:(decide (b≠32))=true:=by simpa using hb
    rw[if_neg (by simpa using hb),ih hm,List.takeWhile_cons,if_pos hd,List.length_cons,if_neg (by simp)]
    omega
theorem cut_take {l:List UInt8}(h:(32:UInt8)∈l):l.take (l.takeWhile (· ≠32)).length=l.takeWhile (· ≠32)∧l.drop ((l.takeWhile (· ≠32)).length+1)=(l.dropWhile (· ≠32)).tail∧(l.takeWhile (· ≠32)).length<l.length:=by
 obtain⟨h1,_⟩:=blank_cut h
 obtain⟨a,ha⟩:∃a,a=l.takeWhile (· ≠32):=⟨_,rfl⟩
 obtain⟨b,hb⟩:∃b,b=(l.dropWhile (· ≠32)).tail:=⟨_,rfl⟩
 rw[←ha,←hb]at h1⊢
 rw[h1]
 refine⟨by simp,?_,by simp⟩
 simp[List.drop_append]
def SRow (H:Nat)(L:List ByteArray)(w:World):Prop:=w.heap[H]?=some (.cells (L.map Value.string).toArray 9 (0,0))
theorem SRow.cell {H:Nat}{L:List ByteArray}{w:World}(h:SRow H L w){i:Nat}{x:ByteArray}(hx:L[i]?=some x):w.cell? ⟨H,i,none⟩=some (.string x):=by
 rw[cell_of_row _ H i _ _ (0,0) h]
 simp[hx]
theorem SRow.frozen {H:Nat}{L:List ByteArray}{w:World}(h:SRow H L w)(o:Nat):w.frozen? ⟨H,o,none⟩=false:=by
 unfold SRow at h
 simp[World.frozen?,h]
theorem SRow.set {H:Nat}{L:List ByteArray}{w:World}(h:SRow H L w)(i:Nat)(x:ByteArray):SRow H (L.set i x) (w.setCell ⟨H,i,none⟩ (.string x)):=by
 unfold SRow at h⊢
 simp[World.setCell,Array.getElem?_modify,h,List.map_set]
theorem Tryz.infosS9:(Tryz.prog.info? 9).map (fun i=>(i.zero,i.size,i.bytes))=some (some (.string ⟨#[]⟩),1,16):=by kernel_rfl
set_option maxRecDepth 100000 in
theorem made_s:∀K,K≤7→madeCells #[Value.string ⟨#[]⟩] (K*1)=((List.replicate K (⟨#[]⟩:ByteArray)).map Value.string).toArray
 | 0,_=>by kernel_rfl
 | 1,_=>by kernel_rfl
 | 2,_=>by kernel_rfl
 | 3,_=>by kernel_rfl
 | 4,_=>by kernel_rfl
 | 5,_=>by kernel_rfl
 | 6,_=>by kernel_rfl
 | 7,_=>by kernel_rfl
 | k+8,h=>by omega
def PartsAt (w:World)(v:Value)(ws:List (List UInt8)):Prop:=
 ∃b cap,v= .slice (some ⟨b,0,none⟩) ws.length cap∧b<w.heap.size∧ws.length≤cap∧cap≤7∧∀(j:Nat) x,ws[j]?=some x→w.cell? ⟨b,j,none⟩=some (.string ⟨x.toArray⟩)
def MidG (w wr:World)(H N:Nat)(L:List UInt8)(rest:ByteArray)(i:Nat):Prop:=
 ∃(done:List (List UInt8)) (R:List ByteArray),done.length=i∧R.length=N∧SRow H R wr∧(∀(j:Nat) x,done[j]?=some x→R[j]?=some ⟨x.toArray⟩)∧splitL (N-1) L=done++splitL (N-1-i) rest.data.toList∧Below w.heap.size w wr
theorem MidG.fin {w wr:World}{H N i:Nat}{L:List UInt8}{rest:ByteArray}(h:MidG w wr H N L rest i)(hi:i<N)(hN:N≤7)(hH:w.heap.size≤H)(he:splitL (N-1-i) rest.data.toList=[rest.data.toList]):
  PartsAt (wr.setCell ⟨H,i,none⟩ (.string rest)) (.slice (some ⟨H,0,none⟩) (i+1) N) (splitL (N-1) L)∧Below w.heap.size w (wr.setCell ⟨H,i,none⟩ (.string rest)):=by
 obtain⟨done,R,h1,h2,h3,h4,h5,h6⟩:=h
 rw[he]at h5
 have hS:=h3.set i rest
 refine⟨⟨H,N,?_,?_,?_,hN,fun j x hj=>?_⟩,h6.setCell (p:=⟨H,i,none⟩) hH _⟩
 ·rw[h5,List.length_append,h1];rfl
 ·exact(Array.getElem?_eq_some_iff.1 hS).1
 ·rw[h5,List.length_append,h1];show i+1≤N;omega
 ·rw[h5]at hj
  refine hS.cell ?_
  rw[List.getElem?_set]
  by_cases hij:i=j
  ·rw[if_pos hij,if_pos (by omega)]
   rw[←hij,←h1,List.getElem?_append_right (Nat.le_refl _),Nat.sub_self]at hj
   rw[←Option.some.inj hj,r_mk]
  ·rw[if_neg hij]
   refine h4 j x ?_
   rcases Nat.lt_or_ge j done.length with hl|hl
   ·rwa[List.getElem?_append_left hl]at hj
   ·rw[List.getElem?_append_right hl]at hj
    have:=(List.getElem?_eq_some_iff.1 hj).1
    simp at this
    omega
theorem MidG.step {w wr:World}{H N i k:Nat}{L:List UInt8}{rest:ByteArray}(h:MidG w wr H N L rest i)(hi:i<N-1)(hH:w.heap.size≤H)(hm:(32:UInt8)∈rest.data.toList)(hk:k=(rest.data.toList.takeWhile (· ≠32)).length):
  MidG w (wr.setCell ⟨H,i,none⟩ (.string (rest.extract 0 k))) H N L (rest.extract (k+1) rest.size) (i+1):=by
 obtain⟨done,R,h1,h2,h3,h4,h5,h6⟩:=h
 obtain⟨c1,c2,c3⟩:=cut_take hm
 have hx:(rest.extract 0 k).data.toList=rest.data.toList.takeWhile (· ≠32):=by
  rw[ByteArray.data_extract,Array.toList_extract]
  show (rest.data.toList.drop 0).take (k-0)=_
  rw[List.drop_zero,Nat.sub_zero,hk,c1]
 have hy:(rest.extract (k+1) rest.size).data.toList=(rest.data.toList.dropWhile (· ≠32)).tail:=by
  rw[ByteArray.data_extract,Array.toList_extract]
  show (rest.data.toList.drop (k+1)).take (rest.size-(k+1))=_
  rw[List.take_of_length_le (by rw[List.length_drop,Lib.size_eq];exact Nat.le_refl _),hk,c2]
 refine⟨done++[rest.data.toList.takeWhile (· ≠32)],R.set i (rest.extract 0 k),by rw[List.length_append,h1];rfl,by rw[List.length_set,h2],h3.set i _,fun j x hj=>?_,?_,h6.setCell (p:=⟨H,i,none⟩) hH _⟩
 ·rw[List.getElem?_set]
  by_cases hij:i=j
  ·rw[if_pos hij,if_pos (by omega)]
   rw[←hij,←h1,List.getElem?_append_right (Nat.le_refl _),Nat.sub_self]at hj
   rw[←Option.some.inj hj,←hx,r_mk]
  ·rw[if_neg hij]
   refine h4 j x ?_
   rcases Nat.lt_or_ge j done.length with hl|hl
   ·rwa[List.getElem?_append_left hl]at hj
   ·rw[List.getElem?_append_right hl]at hj
    have:=(List.getElem?_eq_some_iff.1 hj).1
    simp at this
    omega
 ·rw[h5,hy]
  obtain⟨n,hn⟩:∃n,N-1-i=n+1:=⟨N-1-i-1,by omega⟩
  rw[hn,show N-1-(i+1)=n by omega,List.append_assoc]
  conv=>lhs;unfold splitL
  rw[if_pos hm]
  rfl
def IndexSays:Prop:=∀(s:ByteArray) (w:World),Calls Tryz.prog 234 #[.string s,.string ⟨#[32]⟩] w fun e w'=>e= .returned (.int .i64 (Lib.indexByte s.data.toList 32))∧w'=w
set_option maxRecDepth 100000 in
set_option maxHeartbeats 4000000 in
theorem rgen_any (IX:IndexSays)(w:World)(s:ByteArray)(hs:s.size≤1000000000000):
  Calls Tryz.prog 189 #[.string s,.string ⟨#[32]⟩,.int .i64 0,.int .i64 7] w fun e w'=>∃v,e= .returned v∧PartsAt w' v (splitL 6 s.data.toList)∧Below w.heap.size w w':=by
 obtain⟨i1,hi1,hz1,hz2,hz3⟩:=info_parts Tryz.infosS9
 obtain⟨N,hN⟩:∃N,N=min 7 (s.data.toList.length+1):=⟨_,rfl⟩
 have hsl:s.data.toList.length=s.size:=(Lib.size_eq s).symm
 have hmin:(N:Int)=min (7:Int) ((s.size:Int)+1):=by omega
 have N1:1≤(N:Int):=by omega
 have N2:(N:Int)≤7:=by omega
 rw[←splitL_min _ N hN]
 have hmk:∀wx:World,(Instr.makeSlice 24 (.int .i64 (N:Int)) (.int .i64 (N:Int))).run Tryz.prog wx= .ok (.slice (some ⟨wx.heap.size,0,none⟩) N N) (wx.alloc (.cells ((List.replicate N (⟨#[]⟩:ByteArray)).map Value.string).toArray 9)):=fun wx=>by
  have hr:=run_make (P:=Tryz.prog) wx 24 9 i1 _ Tryz.underlying24 hi1 hz1 .i64 .i64 N N (by omega) (Int.le_refl _) (by rw[hz3];omega) (by omega)
  rw[Int.toNat_natCast,hz2]at hr
  have h2:madeCells (Value.string ⟨#[]⟩).cells (N*1)=_:=made_s N (by omega)
  rw[hr,h2]
 obtain⟨CS,hCS⟩:∃CS,CS=((List.replicate N (⟨#[]⟩:ByteArray)).map Value.string).toArray:=⟨_,rfl⟩
 rw[←hCS]at hmk
 have wr1:IntKind.i64.wrap ((N:Int)-1)=((N-1:Nat):Int):=by rw[IntWalk.i64_in _ (by omega)];omega
 obtain⟨M,hM⟩:∃M,M=N-1:=⟨_,rfl⟩
 have hNM:N=M+1:=by omega
 rw[←hM]at wr1
 have hsz:(s.size:Int)≤1000000000000:=by omega
 have HIX:=Lib.hid IX
 have H0:=Lib.hid (show MidG w (w.alloc (.cells CS 9)) w.heap.size N s.data.toList s 0 from hCS▸
  ⟨[],_,rfl,List.length_replicate,World.alloc_heap_new _ _,fun j x h=>by simp at h,by simp,(Below.refl _ _).alloc (Nat.le_refl _) _⟩)
 have HH:=Lib.hid (And.intro hN (And.intro hM hs))
 obtain⟨L,hL⟩:∃L,L=s.data.toList:=⟨_,rfl⟩
 rw[←hL]at H0⊢
 have HNM:=Lib.hid hNM
 clear hN hsl IX hL hM hNM hCS
 go_enter Tryz.func189,Tryz.ntmps189
 go_upto_region 7 with fail
 go_cut [3] (fun t wx=>t= .int .i64 (N:Int)∧w=wx)
 case first=>
  go_wp2_with fail
  all_goals
   go_meet
   exact⟨by congr 1;omega,rfl⟩
 case rest=>
 obtain⟨rfl,rfl⟩:=hcut
 clear hmin
 go_wp2_with fail
 obtain⟨W1,hW1⟩:∃W1,W1=w.alloc (.cells CS 9):=⟨_,rfl⟩
 rw[←hW1]at H0⊢
 clear hW1 hmk
 obtain⟨H,hH⟩:∃H,H=w.heap.size:=⟨_,rfl⟩
 rw[←hH]at H0
 have HHH:=Lib.hid (show w.heap.size≤H by omega)
 rw[←hH]
 clear hH
 go_loopg [0,10,11] M (fun g sv iv mv wr=>∃(rest:ByteArray) (i:Nat),i+g=M∧sv= .string rest∧iv= .int .i64 i∧rest.size≤1000000000000∧Hid (MidG w wr H N L rest i))
 case atStart=>exact⟨s,0,by omega,rfl,rfl,HH.out.2.2,H0⟩
 case round=>
  obtain⟨rest,i,hig,rfl,rfl,hrs,HM⟩:=hrel
  have hNM:=HNM.out
  have hg0:(0:Int)≤i:=by omega
  obtain⟨done,R,h1,h2,h3,h4,h5,h6⟩:=HM.out
  obtain⟨c,hc⟩:∃c,R[i]?=some c:=⟨_,List.getElem?_eq_getElem (by omega)⟩
  have hcell:=h3.cell hc
  have hfr:=h3.frozen
  have hiN:(i:Int)<N:=by omega
  have wi:IntKind.i64.wrap ((i:Int)+1)=((i+1:Nat):Int):=by rw[IntWalk.i64_in _ (by omega)];omega
  have hi7:(i:Int)≤6:=by omega
  clear h1 h2 h3 h4 h5 h6 hc hNM
  rcases Nat.eq_zero_or_pos gk with h0|h0
  ·have hiM:¬(i:Int)<M:=by omega
   have HF:=Lib.hid (HM.out.fin (by have:=HNM.out;omega) (by omega) HHH.out (by have:=HNM.out;rw[show N-1-i=0 by omega];rfl))
   clear HM
   go_wp2_with fail
   go_ret
   exact⟨_,rfl,HF.out.1,HF.out.2⟩
  ·have hiM:(i:Int)<M:=by omega
   have CI:=Lib.hid (HIX.out rest wr)
   by_cases hm:(32:UInt8)∈rest.data.toList
   ·obtain⟨k,hk⟩:∃k,k=(rest.data.toList.takeWhile (· ≠32)).length:=⟨_,rfl⟩
    have hlt:(k:Int)<rest.size:=by have:=(cut_take hm).2.2;rw[←hk]at this;rw[Lib.size_eq];omega
    rw[idx_some hm,←hk]at CI
    have HM2:=Lib.hid (HM.out.step (by have:=HNM.out;omega) HHH.out hm hk)
    have hk0:¬(k:Int)<0:=by omega
    have hk1:(0:Int)≤k:=by omega
    have hk2:(k:Int)≤rest.size:=by omega
    have hk3:(0:Int)≤(k:Int)+1:=by omega
    have hk4:(k:Int)+1≤rest.size:=by omega
    have wk:IntKind.i64.wrap ((k:Int)+0)=(k:Int):=by rw[IntWalk.i64_in _ (by omega)];omega
    have wk0:IntKind.i64.wrap (k:Int)=(k:Int):=by rw[IntWalk.i64_in _ (by omega)]
    have wk1:IntKind.i64.wrap ((k:Int)+1)=((k+1:Nat):Int):=by rw[IntWalk.i64_in _ (by omega)];omega
    have hk5:(0:Int)≤((k+1:Nat):Int):=by omega
    have hk6:((k+1:Nat):Int)≤rest.size:=by omega
    clear hm hk HM
    go_wp2_with (go_at_call 234;refine CI.out.mono ?_;rintro e w2 ⟨rfl,rfl⟩)
    go_roundg (gk-1)
    case measure=>omega
    case rel=>exact⟨_,i+1,by omega,by go_num,by go_num,by rw[ByteArray.size_extract];omega,HM2⟩
   ·rw[idx_none hm]at CI
    have HF:=Lib.hid (HM.out.fin (by have:=HNM.out;omega) (by omega) HHH.out (by
     have:=HNM.out
     obtain⟨n,hn⟩:∃n,N-1-i=n+1:=⟨N-1-i-1,by omega⟩
     rw[hn]
     unfold splitL
     rw[if_neg hm]))
    clear HM hm
    go_wp2_with (go_at_call 234;refine CI.out.mono ?_;rintro e w2 ⟨rfl,rfl⟩)
    go_ret
    exact⟨_,rfl,HF.out.1,HF.out.2⟩
set_option maxRecDepth 100000 in
set_option maxHeartbeats 1000000 in
theorem rsplit_any (IX:IndexSays)(w:World)(s:ByteArray)(hs:s.size≤1000000000000):
  Calls Tryz.prog 137 #[.string s,.string ⟨#[32]⟩,.int .i64 7] w fun e w'=>∃v,e= .returned v∧PartsAt w' v (splitL 6 s.data.toList)∧Below w.heap.size w w':=by
 have C:=Lib.hid (rgen_any IX w s hs)
 clear IX
 go_enter Tryz.func137,Tryz.ntmps137
 go_wp2_with (go_at_call 189;refine C.out.mono ?_)
 rintro e w1 ⟨v,rfl,hp,hb⟩
 obtain⟨b,cap,rfl,hq⟩:=hp
 have HP:=Lib.hid (And.intro hq hb)
 clear hq hb
 go_wp2_with fail
 go_ret
 exact⟨_,rfl,⟨b,cap,rfl,HP.out.1⟩,HP.out.2⟩
end Go.Proofs.YtfehpcbmdancoaaGreatDoor
