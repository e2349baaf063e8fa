/- The order of entries: by words, then by flags. slices.Compare, cmp.Or, and the two functions that unlike hands over, by contract. -/
import Derived.StillTailTactics
import Derived.Test.YtfehpcbmdancoaaGreatDoorPbLayg
import Derived.Test.YtfehpcbmdancoaaGreatDoorPbPlain
import Derived.Test.YtfehpcbmdancoaaGreatDoorPbShelf
namespace Go.Proofs.YtfehpcbmdancoaaGreatDoor
open Go Go.RowKit Go.Lib Go.Shelf Go.Sort
attribute [local go_sem] Oper.semAt_some alloc_set
def lexC:List Int→List Int→Int
 | [],[]=>0
 | [],_::_=> -1
 | _::_,[]=>1
 | a::xs,b::ys=>if a<b then -1 else if b<a then 1 else lexC xs ys
theorem lexC_zero:∀(a b:List Int),lexC a b=0↔a=b
 | [],[]=>by simp[lexC]
 | [],_::_=>by simp[lexC]
 | _::_,[]=>by simp[lexC]
 | a::xs,b::ys=>by
   unfold lexC
   by_cases h1:a<b
   ·simp[h1];omega
   ·by_cases h2:b<a
    ·simp[h1,h2];omega
    ·have:a=b:=by omega
     simp[this,lexC_zero xs ys]
theorem lexC_anti:∀(a b:List Int),lexC b a= -lexC a b
 | [],[]=>rfl
 | [],_::_=>rfl
 | _::_,[]=>rfl
 | a::xs,b::ys=>by
   unfold lexC
   by_cases h1:a<b
   ·have:¬b<a:=by omega
    simp[h1,this]
   ·by_cases h2:b<a
    ·simp[h1,h2]
    ·simp[h1,h2,lexC_anti xs ys]
theorem lexC_trans:∀(a b c:List Int),lexC a b≤0→lexC b c≤0→lexC a c≤0∧(lexC a c=0→lexC a b=0)
 | [],[],[]=>by simp[lexC]
 | [],[],_::_=>by simp[lexC]
 | [],_::_,[]=>by simp[lexC]
 | [],_::_,_::_=>by simp[lexC]
 | _::_,[],[]=>by simp[lexC]
 | _::_,[],_::_=>by simp[lexC]
 | _::_,_::_,[]=>by simp[lexC]
 | a::xs,b::ys,c::zs=>by
   have ih:=lexC_trans xs ys zs
   unfold lexC
   by_cases h1:a<b
   ·by_cases h3:b<c
    ·have:a<c:=by omega
     simp[h1,h3,this]
    ·by_cases h4:c<b
     ·simp[h1,h3,h4]
     ·have:a<c:=by omega
      simp[h1,h3,h4,this]
   ·by_cases h2:b<a
    ·simp[h1,h2]
    ·have e:a=b:=by omega
     subst e
     by_cases h3:a<c
     ·simp[h3]
     ·by_cases h4:c<a
      ·simp[h3,h4]
      ·simpa[h3,h4]using ih
theorem cmpB_zero:∀(a b:List UInt8),Lib.compareBytes a b=0↔a=b
 | [],[]=>by simp[Lib.compareBytes]
 | [],_::_=>by simp[Lib.compareBytes]
 | _::_,[]=>by simp[Lib.compareBytes]
 | a::xs,b::ys=>by
   unfold Lib.compareBytes
   by_cases h1:a<b
   ·simp[h1];intro e;subst e;exact absurd h1 (UInt8.lt_irrefl _)
   ·by_cases h2:b<a
    ·simp[h1,h2];intro e;subst e;exact absurd h2 (UInt8.lt_irrefl _)
    ·have:a=b:=UInt8.le_antisymm (UInt8.not_lt.1 h2) (UInt8.not_lt.1 h1)
     subst this
     simp[cmpB_zero xs ys]
theorem cmpB_anti:∀(a b:List UInt8),Lib.compareBytes b a= -Lib.compareBytes a b
 | [],[]=>rfl
 | [],_::_=>rfl
 | _::_,[]=>rfl
 | a::xs,b::ys=>by
   unfold Lib.compareBytes
   by_cases h1:a<b
   ·have:¬b<a:=UInt8.lt_asymm h1
    simp[h1,this]
   ·by_cases h2:b<a
    ·simp[h1,h2]
    ·simp[h1,h2,cmpB_anti xs ys]
theorem cmpB_trans:∀(a b c:List UInt8),Lib.compareBytes a b≤0→Lib.compareBytes b c≤0→Lib.compareBytes a c≤0∧(Lib.compareBytes a c=0→Lib.compareBytes a b=0)
 | [],[],[]=>by simp[Lib.compareBytes]
 | [],[],_::_=>by simp[Lib.compareBytes]
 | [],_::_,[]=>by simp[Lib.compareBytes]
 | [],_::_,_::_=>by simp[Lib.compareBytes]
 | _::_,[],[]=>by simp[Lib.compareBytes]
 | _::_,[],_::_=>by simp[Lib.compareBytes]
 | _::_,_::_,[]=>by simp[Lib.compareBytes]
 | a::xs,b::ys,c::zs=>by
   have ih:=cmpB_trans xs ys zs
   unfold Lib.compareBytes
   by_cases h1:a<b
   ·by_cases h3:b<c
    ·have:a<c:=UInt8.lt_trans h1 h3
     simp[h1,h3,this]
    ·by_cases h4:c<b
     ·simp[h1,h3,h4]
     ·have e:b=c:=UInt8.le_antisymm (UInt8.not_lt.1 h4) (UInt8.not_lt.1 h3)
      subst e
      simp[h1]
   ·by_cases h2:b<a
    ·simp[h1,h2]
    ·have e:a=b:=UInt8.le_antisymm (UInt8.not_lt.1 h2) (UInt8.not_lt.1 h1)
     subst e
     by_cases h3:a<c
     ·simp[h3]
     ·by_cases h4:c<a
      ·simp[h3,h4]
      ·simpa[h3,h4]using ih
def ordC (x y:En):Int:=if Lib.compareBytes x.word.data.toList y.word.data.toList=0 then lexC x.flags y.flags else Lib.compareBytes x.word.data.toList y.word.data.toList
theorem word_eq {x y:ByteArray}(h:x.data.toList=y.data.toList):x=y:=by
 have:x.data=y.data:=Array.toList_inj.1 h
 cases x;cases y;simp at this;rw[this]
theorem ordC_zero (x y:En):ordC x y=0↔x.word=y.word∧x.flags=y.flags:=by
 unfold ordC
 by_cases h:Lib.compareBytes x.word.data.toList y.word.data.toList=0
 ·rw[if_pos h,lexC_zero]
  have:=word_eq ((cmpB_zero _ _).1 h)
  exact⟨fun e=>⟨this,e⟩,fun e=>e.2⟩
 ·rw[if_neg h]
  exact⟨fun e=>absurd e h,fun e=>absurd ((cmpB_zero _ _).2 (by rw[e.1])) h⟩
theorem ordC_anti (x y:En):ordC y x= -ordC x y:=by
 unfold ordC
 rw[cmpB_anti x.word.data.toList,lexC_anti x.flags]
 by_cases h:Lib.compareBytes x.word.data.toList y.word.data.toList=0
 ·simp[h]
 ·rw[if_neg h,if_neg (by omega)]
theorem ordC_trans (x y z:En)(h1:ordC x y≤0)(h2:ordC y z≤0):ordC x z≤0∧(ordC x z=0→ordC x y=0):=by
 unfold ordC at*
 have hb:=cmpB_trans x.word.data.toList y.word.data.toList z.word.data.toList
 by_cases e1:Lib.compareBytes x.word.data.toList y.word.data.toList=0
 ·rw[if_pos e1]at h1⊢
  have ew:=(cmpB_zero _ _).1 e1
  rw[ew]
  by_cases e2:Lib.compareBytes y.word.data.toList z.word.data.toList=0
  ·rw[if_pos e2]at h2⊢
   exact lexC_trans _ _ _ h1 h2
  ·rw[if_neg e2]at h2⊢
   exact⟨h2,fun e=>absurd e e2⟩
 ·rw[if_neg e1]at h1⊢
  by_cases e2:Lib.compareBytes y.word.data.toList z.word.data.toList=0
  ·rw[←(cmpB_zero _ _).1 e2,if_neg e1]
   exact⟨h1,id⟩
  ·rw[if_neg e2]at h2
   obtain⟨h3,h4⟩:=hb h1 h2
   have e3:¬Lib.compareBytes x.word.data.toList z.word.data.toList=0:=fun e=>e1 (h4 e)
   rw[if_neg e3]
   exact⟨h3,fun e=>absurd e e3⟩
theorem ordC_swo {α:Type}(f:α→En):SWO (ltOf fun x y:α=>ordC (f x) (f y)) where
 irrefl x:=by
  have:=ordC_anti (f x) (f x)
  unfold ltOf
  simp;omega
 trans x y z h1 h2:=by
  unfold ltOf at*
  simp at*
  obtain⟨h3,h4⟩:=ordC_trans (f x) (f y) (f z) (by omega) (by omega)
  rcases Int.lt_or_eq_of_le h3 with h|h
  ·exact h
  ·have:=h4 h;omega
 ntrans x y z h1 h2:=by
  unfold ltOf at*
  simp at*
  have e1:=ordC_anti (f x) (f y)
  have e2:=ordC_anti (f y) (f z)
  have e3:=ordC_anti (f x) (f z)
  have:=(ordC_trans (f z) (f y) (f x) (by omega) (by omega)).1
  omega
theorem drop_head {α:Type}{l:List α}{k:Nat}{x:α}(h:l[k]?=some x):l.drop k=x::l.drop (k+1):=by
 obtain⟨h1,rfl⟩:=List.getElem?_eq_some_iff.1 h
 exact List.drop_eq_getElem_cons h1
set_option maxHeartbeats 2000000 in
theorem scmp_any (W:World)(v v':Value)(la lb:List Int)(ha:IntsAt W v la)(hb:IntsAt W v' lb):
  Calls Tryz.prog 103 #[v,v'] W fun e w'=>e= .returned (.int .i64 (lexC la lb))∧w'=W:=by
 obtain⟨A,ca,rfl,hA⟩:=ints_open ha
 obtain⟨B,cb,rfl,hB⟩:=ints_open hb
 have hca:la.length≤maxLen:=by
  rcases ha with ⟨rfl,_⟩|⟨b,off,cap,e,h1,h2,h3,h4⟩
  ·simp[maxLen]
  ·omega
 have hcb:lb.length≤maxLen:=by
  rcases hb with ⟨rfl,_⟩|⟨b,off,cap,e,h1,h2,h3,h4⟩
  ·simp[maxLen]
  ·omega
 obtain⟨na,hna⟩:∃n,n=la.length:=⟨_,rfl⟩
 obtain⟨nb,hnb⟩:∃n,n=lb.length:=⟨_,rfl⟩
 rw[←hna]at hca hA⊢
 rw[←hnb]at hcb hB⊢
 have HA:=Lib.hid hA
 have HB:=Lib.hid hB
 have HN:=Lib.hid (And.intro hna (And.intro hnb (And.intro hca hcb)))
 have CC:=Lib.hid (fun x y=>Tryz.cmp_Compare_int x y W)
 unfold maxLen at hca hcb
 clear ha hb hA hB hna hnb
 go_enter Tryz.func103,Tryz.ntmps103
 go_wp2
 go_loopg [11] na (fun gh i wr=>∃k:Nat,k+gh=na∧i= .int .i64 k∧wr=W∧k≤nb∧lexC la lb=lexC (la.drop k) (lb.drop k))
 case atStart=>exact⟨0,by omega,rfl,rfl,by omega,rfl⟩
 case round=>
  obtain⟨k,hk,rfl,rfl,hkb,hle⟩:=hrel
  by_cases hlt:k<na
  ·obtain⟨x,hx⟩:∃x,la[k]?=some x:=⟨la[k]'(by have:=HN.out.1;omega),List.getElem?_eq_getElem _⟩
   obtain⟨qa,oa,rfl,hqa,hla,ca'⟩:=HA.out k x hx
   have HX:=Lib.hid hx
   have HL:=Lib.hid hle
   clear hx hle
   by_cases hlb:k<nb
   ·obtain⟨y,hy⟩:∃y,lb[k]?=some y:=⟨lb[k]'(by have:=HN.out.2.1;omega),List.getElem?_eq_getElem _⟩
    obtain⟨qb,ob,rfl,hqb,hlb',cb'⟩:=HB.out k y hy
    have HY:=Lib.hid hy
    clear hy
    have hcut:Hid (lexC la lb=if x<y then -1 else if y<x then 1 else lexC (la.drop (k+1)) (lb.drop (k+1))):=by
     refine Lib.hid ?_
     rw[HL.out,drop_head HX.out,drop_head HY.out]
     simp only[lexC]
    by_cases h1:x<y
    ·have hci:Lib.compareInt x y= -1:=by unfold Lib.compareInt;simp[h1]
     have hr:lexC la lb= -1:=by rw[hcut.out,if_pos h1]
     go_wp2_with (go_at_call 158;refine(CC.out _ _).mono ?_;rintro e w' ⟨rfl,rfl⟩;rw[hci])
     go_ret
     exact⟨by rw[hr];rfl,rfl⟩
    ·by_cases h2:y<x
     ·have hci:Lib.compareInt x y=1:=by unfold Lib.compareInt;simp[h1,h2]
      have hr:lexC la lb=1:=by rw[hcut.out,if_neg h1,if_pos h2]
      go_wp2_with (go_at_call 158;refine(CC.out _ _).mono ?_;rintro e w' ⟨rfl,rfl⟩;rw[hci])
      go_ret
      exact⟨by rw[hr];rfl,rfl⟩
     ·have hci:Lib.compareInt x y=0:=by unfold Lib.compareInt;simp[h1,h2]
      have hr:Hid (lexC la lb=lexC (la.drop (k+1)) (lb.drop (k+1))):=Lib.hid (by rw[hcut.out,if_neg h1,if_neg h2])
      go_wp2_with (go_at_call 158;refine(CC.out _ _).mono ?_;rintro e w' ⟨rfl,rfl⟩;rw[hci])
      go_roundg (gk-1)
      case measure=>omega
      case rel=>exact⟨k+1,by omega,by go_num,rfl,by omega,hr.out⟩
   ·have hr:lexC la lb=1:=by
     rw[HL.out,drop_head HX.out,show lb.drop k=[]from List.drop_of_length_le (by have:=HN.out.2.1;omega)]
     rfl
    go_wp2_with fail
    go_ret
    exact⟨by rw[hr];rfl,rfl⟩
  ·obtain rfl:k=na:=by omega
   have hdr:la.drop k=[]:=List.drop_of_length_le (by have:=HN.out.1;omega)
   rw[hdr]at hle
   by_cases hlb:k<nb
   ·obtain⟨y,hy⟩:∃y,lb[k]?=some y:=⟨lb[k]'(by have:=HN.out.2.1;omega),List.getElem?_eq_getElem _⟩
    rw[drop_head hy]at hle
    have hr:lexC la lb= -1:=hle
    clear hle hy hdr
    go_wp2_with fail
    go_ret
    exact⟨by rw[hr];rfl,rfl⟩
   ·rw[List.drop_of_length_le (by have:=HN.out.2.1;omega)]at hle
    have hr:lexC la lb=0:=hle
    clear hle hdr
    go_wp2_with fail
    go_ret
    exact⟨by rw[hr];rfl,rfl⟩
set_option maxHeartbeats 2000000 in
theorem or_any (W:World)(b o cap:Nat)(x y:Int)(_hc:2≤cap)(h0:W.cell? ⟨b,o,none⟩=some (.int .i64 x))(h1:W.cell? ⟨b,o+1,none⟩=some (.int .i64 y)):
  Calls Tryz.prog 101 #[.slice (some ⟨b,o,none⟩) 2 cap] W fun e w'=>e= .returned (.int .i64 (if x=0 then y else x))∧w'=W:=by
 go_enter Tryz.func101,Tryz.ntmps101
 go_wp2
 go_loopg [8] 2 (fun gh i wr=>∃k:Nat,k+gh=2∧i= .int .i64 k∧wr=W∧(1≤k→x=0)∧(2≤k→y=0))
 case atStart=>exact⟨0,by omega,rfl,rfl,fun h=>by omega,fun h=>by omega⟩
 case round=>
  obtain⟨k,hk,rfl,rfl,hx,hy⟩:=hrel
  obtain rfl|rfl|rfl:k=0∨k=1∨k=2:=by omega
  ·by_cases hz:x=0
   ·subst hz
    go_wp2_with fail
    go_roundg (gk-1)
    case measure=>omega
    case rel=>exact⟨1,by omega,by go_num,rfl,fun _=>by trivial,fun h=>by omega⟩
   ·go_wp2_with fail
    go_ret
    exact⟨by first|rfl|(rw [if_neg hz];rfl)|simp[hz],rfl⟩
  ·obtain rfl:=hx (by omega)
   by_cases hz:y=0
   ·subst hz
    go_wp2_with fail
    go_roundg (gk-1)
    case measure=>omega
    case rel=>exact⟨2,by omega,by go_num,rfl,fun _=>by trivial,fun _=>by trivial⟩
   ·go_wp2_with fail
    go_ret
    exact⟨rfl,rfl⟩
  ·obtain rfl:=hx (by omega)
   obtain rfl:=hy (by omega)
   go_wp2_with fail
   go_ret
   exact⟨rfl,rfl⟩
set_option maxRecDepth 100000 in
set_option maxHeartbeats 2000000 in
theorem ord_any (W:World)(x y:En)(A B:Option Addr)(n m ca cb:Nat)(ha:IntsAt W (.slice A n ca) x.flags)(hb:IntsAt W (.slice B m cb) y.flags):
  Calls Tryz.prog 100 #[.agg #[.string x.word,.slice A n ca],.agg #[.string y.word,.slice B m cb]] W fun e w'=>e= .returned (.int .i64 (ordC x y))∧∃q os',w'=grow (W.drewN q) os':=by
 obtain⟨Wd,hWd⟩:∃Wd,Wd=(W.alloc (.cells #[.string x.word,.slice A n ca] 99)).alloc (.cells #[.string y.word,.slice B m cb] 99):=⟨_,rfl⟩
 have hbd:Below W.heap.size W Wd:=by rw[hWd];exact((Below.refl _ _).alloc (Nat.le_refl _) _).alloc (by simp) _
 have z0:Wd.heap[W.heap.size]?=some (.cells #[.string x.word,.slice A n ca] 99 (0,0)):=by rw[hWd];exact(Below.heap_alloc _ _ _ (by simp)).trans (World.alloc_heap_new _ _)
 have z1:Wd.heap[W.heap.size+1]?=some (.cells #[.string y.word,.slice B m cb] 99 (0,0)):=by rw[hWd,←World.size_alloc W (.cells #[.string x.word,.slice A n ca] 99)];exact World.alloc_heap_new _ _
 have e0:Wd.cell? ⟨W.heap.size,0,none⟩=some (.string x.word):=by simp[World.cell?,z0]
 have e1:Wd.cell? ⟨W.heap.size,1,none⟩=some (.slice A n ca):=by simp[World.cell?,z0]
 have e2:Wd.cell? ⟨W.heap.size+1,0,none⟩=some (.string y.word):=by simp[World.cell?,z1]
 have e3:Wd.cell? ⟨W.heap.size+1,1,none⟩=some (.slice B m cb):=by simp[World.cell?,z1]
 have CS:=Lib.hid (fun wx=>Tryz.strings_Compare x.word y.word wx)
 have CI:=Lib.hid (scmp_any Wd.drew _ _ _ _ (ha.keep ((hbd.drew))) (hb.keep ((hbd.drew))))
 have HWD:=Lib.hid hWd
 have HR:=Lib.hid (show ordC x y=if Lib.compareBytes x.word.data.toList y.word.data.toList=0 then lexC x.flags y.flags else Lib.compareBytes x.word.data.toList y.word.data.toList from rfl)
 generalize Lib.compareBytes x.word.data.toList y.word.data.toList=c1 at CS HR
 generalize lexC x.flags y.flags=c2 at CI HR
 have COr:Hid (∀wx b,wx.cell? ⟨b,0,none⟩=some (.int .i64 c1)→wx.cell? ⟨b,0+1,none⟩=some (.int .i64 c2)→Calls Tryz.prog 101 #[.slice (some ⟨b,0,none⟩) 2 2] wx fun e w'=>e= .returned (.int .i64 (ordC x y))∧w'=wx):=Lib.hid fun wx b h0 h1=>by
  rw[HR.out]
  exact or_any wx b 0 2 c1 c2 (by omega) h0 h1
 clear HR
 generalize ordC x y=r at COr⊢
 clear z0 z1 hbd ha hb
 go_enter Tryz.func100,Tryz.ntmps100
 go_upto_region 1 with fail
 rw[←hWd]
 clear hWd
 go_still_tail 10,(by kernel_rfl)
 still_call (CS.out _)
 repeat still_step
 still_call (CI.out)
 try refine wpStill_nil ?_
 change wpList _ _ _ _ _ Wd.drew
 clear e0 e1 e2 e3 CS CI
 have HG:=Lib.hid (show Wd.drew=grow (W.drewN 1) #[.cells #[.string x.word,.slice A n ca] 99,.cells #[.string y.word,.slice B m cb] 99]from by
  rw[HWD.out,alloc_eq_grow,alloc_eq_grow,grow_grow];rfl)
 generalize Wd.drew=wd at*
 go_wp2_with (go_at_call 101;refine(COr.out _ _ (by rw[cell_of_row _ _ _ _ _ _ (World.alloc_heap_new _ _)];rfl) (by rw[cell_of_row _ _ _ _ _ _ (World.alloc_heap_new _ _)];rfl)).mono ?_;rintro e w1 ⟨rfl,rfl⟩)
 go_ret
 exact⟨rfl,1,_,by rw[HG.out,alloc_eq_grow,grow_grow]⟩
theorem eq_any (W:World)(ob:Nat)(hob:W.cell? ⟨ob,0,none⟩=some (.func (.func 100) #[] #[]))(x y:En)(A B:Option Addr)(n m ca cb:Nat)(ha:IntsAt W (.slice A n ca) x.flags)(hb:IntsAt W (.slice B m cb) y.flags):
  Calls Tryz.prog 106 #[.agg #[.string x.word,.slice A n ca],.agg #[.string y.word,.slice B m cb],.pointer (some ⟨ob,0,none⟩)] W fun e w'=>e= .returned (.bool (decide (ordC x y=0)))∧∃q os',w'=grow (W.drewN q) os':=by
 have hbd:Below W.heap.size W ((W.alloc (.cells #[.string x.word,.slice A n ca] 99)).alloc (.cells #[.string y.word,.slice B m cb] 99)):=((Below.refl _ _).alloc (Nat.le_refl _) _).alloc (by simp) _
 have e9:=(hbd.cell (World.block_lt_of_cell? _ _ hob)).trans hob
 have CO:=Lib.hid (ord_any _ x y A B n m ca cb (ha.keep hbd) (hb.keep hbd))
 generalize ordC x y=r at CO⊢
 clear ha hb hbd hob
 go_enter Tryz.func106,Tryz.ntmps106
 go_wp2_with (go_at_call 100;refine(CO.out).mono ?_;rintro e w1 ⟨rfl,q,os,hw1⟩)
 go_ret
 refine⟨by first|rfl|simp,q,#[.cells #[.string x.word,.slice A n ca] 99]++#[.cells #[.string y.word,.slice B m cb] 99]++os,?_⟩
 rw[alloc_eq_grow,alloc_eq_grow,grow_grow]
 exact grow_grow (W.drewN q) _ os
end Go.Proofs.YtfehpcbmdancoaaGreatDoor
