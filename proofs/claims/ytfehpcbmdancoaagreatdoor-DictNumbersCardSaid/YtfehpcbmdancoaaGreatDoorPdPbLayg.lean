/-
  DERIVED: THE SHELF's CONTRACTS AT THIS DUMP, IN PLAIN WORDS (tools/lay-plain.mjs out of 'TryzLayg.lean', which tools/lay-shelf.mjs wrote): THE SAME DECLARATIONS UNDER THE SAME NAMES: 'import', 'namespace', 'open', 'def', 'theorem' AND NOTHING ELSE: no command of the shelf's: FOR A HAND-IN. Each laying: the table of numbers ('.._ren') and one theorem, a field a fact of the dump's own or the kernel's comparison; each contract: ONE APPLICATION.
-/
import Derived.Shelf.SlIter.Nil
import Derived.Shelf.SlIter.Sorted
import Derived.Shelf.SlSortCmp.WholeK
import Derived.Shelf.SlGeneric
import Derived.Ground.GgzProg
import Derived.Ground.SlsfProg
import Derived.Test.YtfehpcbmdancoaaGreatDoorProg
import Derived.StillTailTactics
import Derived.OwnWalkIn
import Derived.Test.YtfehpcbmdancoaaGreatDoorPdPbNPlain
import Derived.Test.YtfehpcbmdancoaaGreatDoorPdPbShelf
namespace Go.Proofs
open Go.Shelf
def Tryz.keysS_ren:Go.Shelf.Ren:=⟨fun|7=>112|10=>164|n=>n,fun|23=>106|26=>9|3=>111|28=>109|0=>0|27=>108|33=>34|4=>4|n=>n,fun|n=>n⟩
theorem Tryz.keysS:Go.Proofs.SlLaysZ.n7 Tryz.prog Tryz.keysS_ren:={
 mixed:=by kernel_rfl
 f7:=⟨Tryz.f112.name,by decide,Tryz.func112.trans (congrArg some (by kernel_rfl))⟩
 f10:=⟨Tryz.f164.name,by decide,Tryz.func164.trans (congrArg some (by kernel_rfl))⟩
 t0:=Tryz.underlying0
 a0:=Tryz.isAgg0
 z0:=Tryz.sizeOf0
 v0:=Tryz.zeroValue0
 t4:=Tryz.underlying4
 a4:=Tryz.isAgg4
 z4:=Tryz.sizeOf4
 v4:=Tryz.zeroValue4
 t23:=Tryz.underlying106
 a23:=Tryz.isAgg106
 z23:=Tryz.sizeOf106
 v23:=Tryz.zeroValue106
 t26:=Tryz.underlying9
 a26:=Tryz.isAgg9
 z26:=Tryz.sizeOf9
 v26:=Tryz.zeroValue9
 t27:=Tryz.underlying108
 a27:=Tryz.isAgg108
 z27:=Tryz.sizeOf108
 v27:=Tryz.zeroValue108
 t28:=Tryz.underlying109
 a28:=Tryz.isAgg109
 z28:=Tryz.sizeOf109
 v28:=Tryz.zeroValue109
 t33:=Tryz.underlying34
 a33:=Tryz.isAgg34
 z33:=Tryz.sizeOf34
 v33:=Tryz.zeroValue34 }
def Tryz.sortedS_ren:Go.Shelf.Ren:=⟨fun|6=>111|8=>163|9=>62|11=>223|13=>115|12=>114|23=>174|24=>175|14=>165|15=>166|16=>167|17=>168|18=>169|19=>170|20=>171|21=>172|22=>173|25=>224|26=>225|27=>226|28=>227|29=>228|30=>229|31=>249|n=>n,fun|26=>9|28=>109|24=>24|0=>0|3=>3|37=>151|48=>226|50=>228|4=>4|40=>220|39=>219|45=>75|5=>5|9=>9|51=>264|55=>268|57=>285|58=>286|33=>34|n=>n,fun|n=>n⟩
theorem Tryz.sortedS:Go.Proofs.SlLaysZ.n6 Tryz.prog Tryz.sortedS_ren:={
 mixed:=by kernel_rfl
 f6:=⟨Tryz.f111.name,by decide,Tryz.func111.trans (congrArg some (by kernel_rfl))⟩
 f8:=⟨Tryz.f163.name,by decide,Tryz.func163.trans (congrArg some (by kernel_rfl))⟩
 f11:=⟨Tryz.f223.name,by decide,Tryz.func223.trans (congrArg some (by kernel_rfl))⟩
 t0:=Tryz.underlying0
 a0:=Tryz.isAgg0
 z0:=Tryz.sizeOf0
 v0:=Tryz.zeroValue0
 t24:=Tryz.underlying24
 a24:=Tryz.isAgg24
 z24:=Tryz.sizeOf24
 v24:=Tryz.zeroValue24
 t26:=Tryz.underlying9
 a26:=Tryz.isAgg9
 z26:=Tryz.sizeOf9
 v26:=Tryz.zeroValue9
 t28:=Tryz.underlying109
 a28:=Tryz.isAgg109
 z28:=Tryz.sizeOf109
 v28:=Tryz.zeroValue109
 i26:=by kernel_rfl }
def Tryz.sortEn_ren:Go.Shelf.Ren:=⟨fun|6=>104|15=>115|14=>159|28=>174|29=>175|20=>210|21=>211|22=>212|23=>213|24=>214|25=>215|26=>216|27=>217|46=>243|47=>225|48=>226|49=>244|50=>245|57=>262|n=>n,fun|22=>60|24=>99|25=>164|3=>3|39=>151|0=>0|53=>226|55=>228|4=>4|46=>220|45=>219|50=>75|5=>5|9=>9|66=>264|70=>268|76=>285|77=>286|n=>n,fun|n=>n⟩
theorem Tryz.sortEn:Go.Proofs.SlLaysF0.n6 Tryz.prog Tryz.sortEn_ren:={
 mixed:=by kernel_rfl
 f6:=⟨Tryz.f104.name,by decide,Tryz.func104.trans (congrArg some (by kernel_rfl))⟩
 f14:=⟨Tryz.f159.name,by decide,Tryz.func159.trans (congrArg some (by kernel_rfl))⟩
 f15:=Tryz.func115.trans (congrArg some (by kernel_rfl))
 f20:=⟨Tryz.f210.name,by decide,Tryz.func210.trans (congrArg some (by kernel_rfl))⟩
 f21:=⟨Tryz.f211.name,by decide,Tryz.func211.trans (congrArg some (by kernel_rfl))⟩
 f22:=⟨Tryz.f212.name,by decide,Tryz.func212.trans (congrArg some (by kernel_rfl))⟩
 f23:=⟨Tryz.f213.name,by decide,Tryz.func213.trans (congrArg some (by kernel_rfl))⟩
 f24:=⟨Tryz.f214.name,by decide,Tryz.func214.trans (congrArg some (by kernel_rfl))⟩
 f25:=⟨Tryz.f215.name,by decide,Tryz.func215.trans (congrArg some (by kernel_rfl))⟩
 f26:=⟨Tryz.f216.name,by decide,Tryz.func216.trans (congrArg some (by kernel_rfl))⟩
 f27:=⟨Tryz.f217.name,by decide,Tryz.func217.trans (congrArg some (by kernel_rfl))⟩
 f28:=Tryz.func174.trans (congrArg some (by kernel_rfl))
 f29:=Tryz.func175.trans (congrArg some (by kernel_rfl))
 f46:=⟨Tryz.f243.name,by decide,Tryz.func243.trans (congrArg some (by kernel_rfl))⟩
 f47:=Tryz.func225.trans (congrArg some (by kernel_rfl))
 f48:=Tryz.func226.trans (congrArg some (by kernel_rfl))
 f49:=⟨Tryz.f244.name,by decide,Tryz.func244.trans (congrArg some (by kernel_rfl))⟩
 f50:=⟨Tryz.f245.name,by decide,Tryz.func245.trans (congrArg some (by kernel_rfl))⟩
 f57:=⟨Tryz.f262.name,by decide,Tryz.func262.trans (congrArg some (by kernel_rfl))⟩
 t0:=Tryz.underlying0
 a0:=Tryz.isAgg0
 z0:=Tryz.sizeOf0
 v0:=Tryz.zeroValue0
 t3:=Tryz.underlying3
 a3:=Tryz.isAgg3
 z3:=Tryz.sizeOf3
 v3:=Tryz.zeroValue3
 t4:=Tryz.underlying4
 a4:=Tryz.isAgg4
 z4:=Tryz.sizeOf4
 v4:=Tryz.zeroValue4
 t5:=Tryz.underlying5
 a5:=Tryz.isAgg5
 z5:=Tryz.sizeOf5
 v5:=Tryz.zeroValue5
 t9:=Tryz.underlying9
 a9:=Tryz.isAgg9
 z9:=Tryz.sizeOf9
 v9:=Tryz.zeroValue9
 t22:=Tryz.underlying60
 a22:=Tryz.isAgg60
 z22:=Tryz.sizeOf60
 v22:=Tryz.zeroValue60
 t25:=Tryz.underlying164
 a25:=Tryz.isAgg164
 z25:=Tryz.sizeOf164
 v25:=Tryz.zeroValue164
 t39:=Tryz.underlying151
 a39:=Tryz.isAgg151
 z39:=Tryz.sizeOf151
 v39:=Tryz.zeroValue151
 t45:=Tryz.underlying219
 a45:=Tryz.isAgg219
 z45:=Tryz.sizeOf219
 v45:=Tryz.zeroValue219
 t46:=Tryz.underlying220
 a46:=Tryz.isAgg220
 z46:=Tryz.sizeOf220
 v46:=Tryz.zeroValue220
 t50:=Tryz.underlying75
 a50:=Tryz.isAgg75
 z50:=Tryz.sizeOf75
 v50:=Tryz.zeroValue75
 t53:=Tryz.underlying226
 a53:=Tryz.isAgg226
 z53:=Tryz.sizeOf226
 v53:=Tryz.zeroValue226
 t55:=Tryz.underlying228
 a55:=Tryz.isAgg228
 z55:=Tryz.sizeOf228
 v55:=Tryz.zeroValue228
 t66:=Tryz.underlying264
 a66:=Tryz.isAgg264
 z66:=Tryz.sizeOf264
 v66:=Tryz.zeroValue264
 t70:=Tryz.underlying268
 a70:=Tryz.isAgg268
 z70:=Tryz.sizeOf268
 v70:=Tryz.zeroValue268
 t76:=Tryz.underlying285
 a76:=Tryz.isAgg285
 z76:=Tryz.sizeOf285
 v76:=Tryz.zeroValue285
 t77:=Tryz.underlying286
 a77:=Tryz.isAgg286
 z77:=Tryz.sizeOf286
 v77:=Tryz.zeroValue286 }
end Go.Proofs
set_option maxRecDepth 100000
set_option maxHeartbeats 2000000
namespace Go.Proofs.YtfehpcbmdancoaaGreatDoor
open Go Go.RowKit Go.Lib Go.Shelf Go.Sort
attribute [local go_sem] Oper.semAt_some alloc_set
def lexC:List Int→List Int→Int
 | [],[]=>0
 | [],_::_=> -1
 | _::_,[]=>1
 | a::xs,b::ys=>if a<b then -1 else if b<a then 1 else lexC xs ys
theorem lexC_zero:∀(a b:List Int),lexC a b=0↔a=b
 | [],[]=>by simp[lexC]
 | [],_::_=>by simp[lexC]
 | _::_,[]=>by simp[lexC]
 | a::xs,b::ys=>by
   unfold lexC;by_cases h1:a<b
   ·simp[h1];omega
   ·by_cases h2:b<a
    ·simp[h1,h2];omega
    ·have:a=b:=by omega
     simp[this,lexC_zero xs ys]
theorem lexC_anti:∀(a b:List Int),lexC b a= -lexC a b
 | [],[]=>rfl
 | [],_::_=>rfl
 | _::_,[]=>rfl
 | a::xs,b::ys=>by
   unfold lexC;by_cases h1:a<b
   ·have:¬b<a:=by omega
    simp[h1,this]
   ·by_cases h2:b<a
    ·simp[h1,h2]
    ·simp[h1,h2,lexC_anti xs ys]
theorem lexC_trans:∀(a b c:List Int),lexC a b≤0→lexC b c≤0→lexC a c≤0∧(lexC a c=0→lexC a b=0)
 | [],[],[]=>by simp[lexC]
 | [],[],_::_=>by simp[lexC]
 | [],_::_,[]=>by simp[lexC]
 | [],_::_,_::_=>by simp[lexC]
 | _::_,[],[]=>by simp[lexC]
 | _::_,[],_::_=>by simp[lexC]
 | _::_,_::_,[]=>by simp[lexC]
 | a::xs,b::ys,c::zs=>by
   have ih:=lexC_trans xs ys zs;unfold lexC;by_cases h1:a<b
   ·by_cases h3:b<c
    ·have:a<c:=by omega
     simp[h1,h3,this]
    ·by_cases h4:c<b
     ·simp[h1,h3,h4]
     ·have:a<c:=by omega
      simp[h1,h3,h4,this]
   ·by_cases h2:b<a
    ·simp[h1,h2]
    ·have e:a=b:=by omega
     subst e;by_cases h3:a<c
     ·simp[h3]
     ·by_cases h4:c<a
      ·simp[h3,h4]
      ·simpa[h3,h4]using ih
theorem cmpB_zero:∀(a b:List UInt8),Lib.compareBytes a b=0↔a=b
 | [],[]=>by simp[Lib.compareBytes]
 | [],_::_=>by simp[Lib.compareBytes]
 | _::_,[]=>by simp[Lib.compareBytes]
 | a::xs,b::ys=>by
   unfold Lib.compareBytes;by_cases h1:a<b
   ·simp[h1];intro e;subst e;exact absurd h1 (UInt8.lt_irrefl _)
   ·by_cases h2:b<a
    ·simp[h1,h2];intro e;subst e;exact absurd h2 (UInt8.lt_irrefl _)
    ·have:a=b:=UInt8.le_antisymm (UInt8.not_lt.1 h2) (UInt8.not_lt.1 h1);subst this;simp[cmpB_zero xs ys]
theorem cmpB_anti:∀(a b:List UInt8),Lib.compareBytes b a= -Lib.compareBytes a b
 | [],[]=>rfl
 | [],_::_=>rfl
 | _::_,[]=>rfl
 | a::xs,b::ys=>by
   unfold Lib.compareBytes;by_cases h1:a<b
   ·have:¬b<a:=UInt8.lt_asymm h1;simp[h1,this]
   ·by_cases h2:b<a
    ·simp[h1,h2]
    ·simp[h1,h2,cmpB_anti xs ys]
theorem cmpB_trans:∀(a b c:List UInt8),Lib.compareBytes a b≤0→Lib.compareBytes b c≤0→Lib.compareBytes a c≤0∧(Lib.compareBytes a c=0→Lib.compareBytes a b=0)
 | [],[],[]=>by simp[Lib.compareBytes]
 | [],[],_::_=>by simp[Lib.compareBytes]
 | [],_::_,[]=>by simp[Lib.compareBytes]
 | [],_::_,_::_=>by simp[Lib.compareBytes]
 | _::_,[],[]=>by simp[Lib.compareBytes]
 | _::_,[],_::_=>by simp[Lib.compareBytes]
 | _::_,_::_,[]=>by simp[Lib.compareBytes]
 | a::xs,b::ys,c::zs=>by
   have ih:=cmpB_trans xs ys zs;unfold Lib.compareBytes;by_cases h1:a<b
   ·by_cases h3:b<c
    ·have:a<c:=UInt8.lt_trans h1 h3;simp[h1,h3,this]
    ·by_cases h4:c<b
     ·simp[h1,h3,h4]
     ·have e:b=c:=UInt8.le_antisymm (UInt8.not_lt.1 h4) (UInt8.not_lt.1 h3);subst e;simp[h1]
   ·by_cases h2:b<a
    ·simp[h1,h2]
    ·have e:a=b:=UInt8.le_antisymm (UInt8.not_lt.1 h2) (UInt8.not_lt.1 h1);subst e;by_cases h3:a<c
     ·simp[h3]
     ·by_cases h4:c<a
      ·simp[h3,h4]
      ·simpa[h3,h4]using ih
def ordC (x y:En):Int:=if Lib.compareBytes x.word.data.toList y.word.data.toList=0 then lexC x.flags y.flags else Lib.compareBytes x.word.data.toList y.word.data.toList
theorem word_eq {x y:ByteArray}(h:x.data.toList=y.data.toList):x=y:=by
 have:x.data=y.data:=Array.toList_inj.1 h;cases x;cases y;simp at this;rw[this]
theorem ordC_zero (x y:En):ordC x y=0↔x.word=y.word∧x.flags=y.flags:=by
 unfold ordC;by_cases h:Lib.compareBytes x.word.data.toList y.word.data.toList=0
 ·rw[if_pos h,lexC_zero];have:=word_eq ((cmpB_zero _ _).1 h);exact⟨fun e=>⟨this,e⟩,fun e=>e.2⟩
 ·rw[if_neg h];exact⟨fun e=>absurd e h,fun e=>absurd ((cmpB_zero _ _).2 (by rw[e.1])) h⟩
theorem ordC_anti (x y:En):ordC y x= -ordC x y:=by
 unfold ordC;rw[cmpB_anti x.word.data.toList,lexC_anti x.flags];by_cases h:Lib.compareBytes x.word.data.toList y.word.data.toList=0
 ·simp[h]
 ·rw[if_neg h,if_neg (by omega)]
theorem ordC_trans (x y z:En)(h1:ordC x y≤0)(h2:ordC y z≤0):ordC x z≤0∧(ordC x z=0→ordC x y=0):=by
 unfold ordC at*;have hb:=cmpB_trans x.word.data.toList y.word.data.toList z.word.data.toList;by_cases e1:Lib.compareBytes x.word.data.toList y.word.data.toList=0
 ·rw[if_pos e1]at h1⊢;have ew:=(cmpB_zero _ _).1 e1;rw[ew];by_cases e2:Lib.compareBytes y.word.data.toList z.word.data.toList=0
  ·rw[if_pos e2]at h2⊢;exact lexC_trans _ _ _ h1 h2
  ·rw[if_neg e2]at h2⊢;exact⟨h2,fun e=>absurd e e2⟩
 ·rw[if_neg e1]at h1⊢;by_cases e2:Lib.compareBytes y.word.data.toList z.word.data.toList=0
  ·rw[←(cmpB_zero _ _).1 e2,if_neg e1];exact⟨h1,id⟩
  ·rw[if_neg e2]at h2;obtain⟨h3,h4⟩:=hb h1 h2;have e3:¬Lib.compareBytes x.word.data.toList z.word.data.toList=0:=fun e=>e1 (h4 e);rw[if_neg e3];exact⟨h3,fun e=>absurd e e3⟩
theorem ordC_swo {α:Type}(f:α→En):SWO (ltOf fun x y:α=>ordC (f x) (f y)) where
 irrefl x:=by
  have:=ordC_anti (f x) (f x);unfold ltOf;simp;omega
 trans x y z h1 h2:=by
  unfold ltOf at*;simp at*;obtain⟨h3,h4⟩:=ordC_trans (f x) (f y) (f z) (by omega) (by omega);rcases Int.lt_or_eq_of_le h3 with h|h
  ·exact h
  ·have:=h4 h;omega
 ntrans x y z h1 h2:=by
  unfold ltOf at*;simp at*;have e1:=ordC_anti (f x) (f y);have e2:=ordC_anti (f y) (f z);have e3:=ordC_anti (f x) (f z);have:=(ordC_trans (f z) (f y) (f x) (by omega) (by omega)).1;omega
theorem drop_head {α:Type}{l:List α}{k:Nat}{x:α}(h:l[k]?=some x):l.drop k=x::l.drop (k+1):=by
 obtain⟨h1,rfl⟩:=List.getElem?_eq_some_iff.1 h;exact List.drop_eq_getElem_cons h1
theorem scmp_any (W:World)(v v':Value)(la lb:List Int)(ha:IntsAt W v la)(hb:IntsAt W v' lb):
  Calls Tryz.prog 103 #[v,v'] W fun e w'=>e= .returned (.int .i64 (lexC la lb))∧w'=W:=by
 obtain⟨A,ca,rfl,hA⟩:=ints_open ha;obtain⟨B,cb,rfl,hB⟩:=ints_open hb;have hca:la.length≤maxLen:=by
  rcases ha with ⟨rfl,_⟩|⟨b,off,cap,e,h1,h2,h3,h4⟩
  ·simp[maxLen]
  ·omega
 have hcb:lb.length≤maxLen:=by
  rcases hb with ⟨rfl,_⟩|⟨b,off,cap,e,h1,h2,h3,h4⟩
  ·simp[maxLen]
  ·omega
 obtain⟨na,hna⟩:∃n,n=la.length:=⟨_,rfl⟩;obtain⟨nb,hnb⟩:∃n,n=lb.length:=⟨_,rfl⟩;rw[←hna]at hca hA⊢;rw[←hnb]at hcb hB⊢;have HA:=hid hA;have HB:=hid hB;have HN:=hid (And.intro hna (And.intro hnb (And.intro hca hcb)));have CC:=hid (fun x y=>Tryz.cmp_Compare_int x y W);unfold maxLen at hca hcb;clear ha hb hA hB hna hnb;go_enter Tryz.func103,Tryz.ntmps103;go_wp2;go_loopg [11] na (fun gh i wr=>∃k:Nat,k+gh=na∧i= .int .i64 k∧wr=W∧k≤nb∧lexC la lb=lexC (la.drop k) (lb.drop k))
 case atStart=>exact⟨0,by omega,rfl,rfl,by omega,rfl⟩
 case round=>
  obtain⟨k,hk,rfl,rfl,hkb,hle⟩:=hrel;by_cases hlt:k<na
  ·obtain⟨x,hx⟩:∃x,la[k]?=some x:=⟨la[k]'(by have:=HN.out.1;omega),List.getElem?_eq_getElem _⟩;obtain⟨qa,oa,rfl,hqa,hla,ca'⟩:=HA.out k x hx;have HX:=hid hx;have HL:=hid hle;clear hx hle;by_cases hlb:k<nb
   ·obtain⟨y,hy⟩:∃y,lb[k]?=some y:=⟨lb[k]'(by have:=HN.out.2.1;omega),List.getElem?_eq_getElem _⟩;obtain⟨qb,ob,rfl,hqb,hlb',cb'⟩:=HB.out k y hy;have HY:=hid hy;clear hy;have hcut:Hid (lexC la lb=if x<y then -1 else if y<x then 1 else lexC (la.drop (k+1)) (lb.drop (k+1))):=by
     refine hid ?_;rw[HL.out,drop_head HX.out,drop_head HY.out];simp only[lexC]
    by_cases h1:x<y
    ·have hci:Lib.compareInt x y= -1:=by unfold Lib.compareInt;simp[h1]
     have hr:lexC la lb= -1:=by rw[hcut.out,if_pos h1]
     go_wp2_with (go_at_call 158;refine(CC.out _ _).mono ?_;rintro e w' ⟨rfl,rfl⟩;rw[hci]);go_ret;exact⟨by rw[hr];rfl,rfl⟩
    ·by_cases h2:y<x
     ·have hci:Lib.compareInt x y=1:=by unfold Lib.compareInt;simp[h1,h2]
      have hr:lexC la lb=1:=by rw[hcut.out,if_neg h1,if_pos h2]
      go_wp2_with (go_at_call 158;refine(CC.out _ _).mono ?_;rintro e w' ⟨rfl,rfl⟩;rw[hci]);go_ret;exact⟨by rw[hr];rfl,rfl⟩
     ·have hci:Lib.compareInt x y=0:=by unfold Lib.compareInt;simp[h1,h2]
      have hr:Hid (lexC la lb=lexC (la.drop (k+1)) (lb.drop (k+1))):=hid (by rw[hcut.out,if_neg h1,if_neg h2]);go_wp2_with (go_at_call 158;refine(CC.out _ _).mono ?_;rintro e w' ⟨rfl,rfl⟩;rw[hci]);go_roundg (gk-1)
      case measure=>omega
      case rel=>exact⟨k+1,by omega,by go_num,rfl,by omega,hr.out⟩
   ·have hr:lexC la lb=1:=by
     rw[HL.out,drop_head HX.out,show lb.drop k=[]from List.drop_of_length_le (by have:=HN.out.2.1;omega)];rfl
    go_wp2_with fail;go_ret;exact⟨by rw[hr];rfl,rfl⟩
  ·obtain rfl:k=na:=by omega
   have hdr:la.drop k=[]:=List.drop_of_length_le (by have:=HN.out.1;omega);rw[hdr]at hle;by_cases hlb:k<nb
   ·obtain⟨y,hy⟩:∃y,lb[k]?=some y:=⟨lb[k]'(by have:=HN.out.2.1;omega),List.getElem?_eq_getElem _⟩;rw[drop_head hy]at hle;have hr:lexC la lb= -1:=hle;clear hle hy hdr;go_wp2_with fail;go_ret;exact⟨by rw[hr];rfl,rfl⟩
   ·rw[List.drop_of_length_le (by have:=HN.out.2.1;omega)]at hle;have hr:lexC la lb=0:=hle;clear hle hdr;go_wp2_with fail;go_ret;exact⟨by rw[hr];rfl,rfl⟩
theorem or_any (W:World)(b o cap:Nat)(x y:Int)(_hc:2≤cap)(h0:W.cell? ⟨b,o,none⟩=some (.int .i64 x))(h1:W.cell? ⟨b,o+1,none⟩=some (.int .i64 y)):
  Calls Tryz.prog 101 #[.slice (some ⟨b,o,none⟩) 2 cap] W fun e w'=>e= .returned (.int .i64 (if x=0 then y else x))∧w'=W:=by
 go_enter Tryz.func101,Tryz.ntmps101;go_wp2;go_loopg [8] 2 (fun gh i wr=>∃k:Nat,k+gh=2∧i= .int .i64 k∧wr=W∧(1≤k→x=0)∧(2≤k→y=0))
 case atStart=>exact⟨0,by omega,rfl,rfl,fun h=>by omega,fun h=>by omega⟩
 case round=>
  obtain⟨k,hk,rfl,rfl,hx,hy⟩:=hrel;obtain rfl|rfl|rfl:k=0∨k=1∨k=2:=by omega
  ·by_cases hz:x=0
   ·subst hz;go_wp2_with fail;go_roundg (gk-1)
    case measure=>omega
    case rel=>exact⟨1,by omega,by go_num,rfl,fun _=>by trivial,fun h=>by omega⟩
   ·go_wp2_with fail;go_ret;exact⟨by first|rfl|(rw [if_neg hz];rfl)|simp[hz],rfl⟩
  ·obtain rfl:=hx (by omega);by_cases hz:y=0
   ·subst hz;go_wp2_with fail;go_roundg (gk-1)
    case measure=>omega
    case rel=>exact⟨2,by omega,by go_num,rfl,fun _=>by trivial,fun _=>by trivial⟩
   ·go_wp2_with fail;go_ret;exact⟨rfl,rfl⟩
  ·obtain rfl:=hx (by omega);obtain rfl:=hy (by omega);go_wp2_with fail;go_ret;exact⟨rfl,rfl⟩
theorem ord_any (W:World)(x y:En)(A B:Option Addr)(n m ca cb:Nat)(ha:IntsAt W (.slice A n ca) x.flags)(hb:IntsAt W (.slice B m cb) y.flags):
  Calls Tryz.prog 100 #[.agg #[.string x.word,.slice A n ca],.agg #[.string y.word,.slice B m cb]] W fun e w'=>e= .returned (.int .i64 (ordC x y))∧∃q os',w'=grow (W.drewN q) os':=by
 obtain⟨Wd,hWd⟩:∃Wd,Wd=(W.alloc (.cells #[.string x.word,.slice A n ca] 99)).alloc (.cells #[.string y.word,.slice B m cb] 99):=⟨_,rfl⟩;have hbd:Below W.heap.size W Wd:=by rw[hWd];exact((Below.refl _ _).alloc (Nat.le_refl _) _).alloc (by simp) _
 have z0:Wd.heap[W.heap.size]?=some (.cells #[.string x.word,.slice A n ca] 99 (0,0)):=by rw[hWd];exact(Below.heap_alloc _ _ _ (by simp)).trans (World.alloc_heap_new _ _)
 have z1:Wd.heap[W.heap.size+1]?=some (.cells #[.string y.word,.slice B m cb] 99 (0,0)):=by rw[hWd,←World.size_alloc W (.cells #[.string x.word,.slice A n ca] 99)];exact World.alloc_heap_new _ _
 have e0:Wd.cell? ⟨W.heap.size,0,none⟩=some (.string x.word):=by simp[World.cell?,z0]
 have e1:Wd.cell? ⟨W.heap.size,1,none⟩=some (.slice A n ca):=by simp[World.cell?,z0]
 have e2:Wd.cell? ⟨W.heap.size+1,0,none⟩=some (.string y.word):=by simp[World.cell?,z1]
 have e3:Wd.cell? ⟨W.heap.size+1,1,none⟩=some (.slice B m cb):=by simp[World.cell?,z1]
 have CS:=hid (fun wx=>Tryz.strings_Compare x.word y.word wx);have CI:=hid (scmp_any Wd.drew _ _ _ _ (ha.keep ((hbd.drew))) (hb.keep ((hbd.drew))));have HWD:=hid hWd;have HR:=hid (show ordC x y=if Lib.compareBytes x.word.data.toList y.word.data.toList=0 then lexC x.flags y.flags else Lib.compareBytes x.word.data.toList y.word.data.toList from rfl);generalize Lib.compareBytes x.word.data.toList y.word.data.toList=c1 at CS HR;generalize lexC x.flags y.flags=c2 at CI HR;have COr:Hid (∀wx b,wx.cell? ⟨b,0,none⟩=some (.int .i64 c1)→wx.cell? ⟨b,0+1,none⟩=some (.int .i64 c2)→Calls Tryz.prog 101 #[.slice (some ⟨b,0,none⟩) 2 2] wx fun e w'=>e= .returned (.int .i64 (ordC x y))∧w'=wx):=hid fun wx b h0 h1=>by
  rw[HR.out];exact or_any wx b 0 2 c1 c2 (by omega) h0 h1
 clear HR;generalize ordC x y=r at COr⊢;clear z0 z1 hbd ha hb;go_enter Tryz.func100,Tryz.ntmps100;go_upto_region 1 with fail;rw[←hWd];clear hWd
 go_still_tail 10,(by kernel_rfl)
 still_call (CS.out _)
 repeat still_step
 still_call (CI.out)
 try refine wpStill_nil ?_
 change wpList _ _ _ _ _ Wd.drew;clear e0 e1 e2 e3 CS CI;have HG:=hid (show Wd.drew=grow (W.drewN 1) #[.cells #[.string x.word,.slice A n ca] 99,.cells #[.string y.word,.slice B m cb] 99]from by
  rw[HWD.out,alloc_eq_grow,alloc_eq_grow,grow_grow];rfl)
 generalize Wd.drew=wd at*;go_wp2_with (go_at_call 101;refine(COr.out _ _ (by rw[cell_of_row _ _ _ _ _ _ (World.alloc_heap_new _ _)];rfl) (by rw[cell_of_row _ _ _ _ _ _ (World.alloc_heap_new _ _)];rfl)).mono ?_;rintro e w1 ⟨rfl,rfl⟩);go_ret;exact⟨rfl,1,_,by rw[HG.out,alloc_eq_grow,grow_grow]⟩
theorem eq_any (W:World)(ob:Nat)(hob:W.cell? ⟨ob,0,none⟩=some (.func (.func 100) #[] #[]))(x y:En)(A B:Option Addr)(n m ca cb:Nat)(ha:IntsAt W (.slice A n ca) x.flags)(hb:IntsAt W (.slice B m cb) y.flags):
  Calls Tryz.prog 106 #[.agg #[.string x.word,.slice A n ca],.agg #[.string y.word,.slice B m cb],.pointer (some ⟨ob,0,none⟩)] W fun e w'=>e= .returned (.bool (decide (ordC x y=0)))∧∃q os',w'=grow (W.drewN q) os':=by
 have hbd:Below W.heap.size W ((W.alloc (.cells #[.string x.word,.slice A n ca] 99)).alloc (.cells #[.string y.word,.slice B m cb] 99)):=((Below.refl _ _).alloc (Nat.le_refl _) _).alloc (by simp) _;have e9:=(hbd.cell (World.block_lt_of_cell? _ _ hob)).trans hob;have CO:=hid (ord_any _ x y A B n m ca cb (ha.keep hbd) (hb.keep hbd));generalize ordC x y=r at CO⊢;clear ha hb hbd hob;go_enter Tryz.func106,Tryz.ntmps106;go_wp2_with (go_at_call 100;refine(CO.out).mono ?_;rintro e w1 ⟨rfl,q,os,hw1⟩);go_ret;refine⟨by first|rfl|simp,q,#[.cells #[.string x.word,.slice A n ca] 99]++#[.cells #[.string y.word,.slice B m cb] 99]++os,?_⟩;rw[alloc_eq_grow,alloc_eq_grow,grow_grow];exact grow_grow (W.drewN q) _ os
end Go.Proofs.YtfehpcbmdancoaaGreatDoor
namespace Go.Proofs.YtfehpcbmdancoaaGreatDoor
open Go Go.RowKit Go.Lib Go.Shelf Go.Maps Go.Sort
theorem sorts_str (m:Nat):AnyZ.SortsIn Tryz.prog Tryz.sortedS_ren Fence.wide m:=
 ⟨fun blk off cap ss W hH hblk hsz=>callsIn_wide.2 (Tryz.slices_Sort_string blk off cap ss W hH hblk hsz),fun p cap W=>callsIn_wide.2 (Tryz.slices_Sort_string_none p cap W)⟩
set_option maxHeartbeats 1000000 in
theorem rising_raw {H:Type}(b nn:Nat)(D0:DataW H)(R:Value→Option (DataW H×List MemPlace))(w:World)(hown:w.ownsMap Tryz.prog 9 R b nn D0)(hmax:Maps.size D0≤maxLen)(hbytes:Maps.size D0*16≤140737488355328):
  Calls Tryz.prog 58 #[.map (some b)] w fun e w'=>∃(v:Value) (ss:List (List UInt8)),e= .returned v∧ss.Perm (strKeys D0)∧
   w'.ownsRow w.heap.size 9 1 v ss.length ((ss.mergeSort (fun x y=>decide (x≤y))).map encStr)∧Below w.heap.size w w':=by
 refine(callsIn_wide (n:=6)).1 ?_;have hbl:=hown.lt;have hseq:SeqGives Fence.wide 2 Tryz.prog 164 #[.pointer (some ⟨w.heap.size,0,none⟩)] encStr (fun ss=>ss.Perm (strKeys D0)) (Maps.size D0) (w.alloc (.cells #[.map (some b)] 106)):=
  AnyZ.keys_gives (ρ:=Tryz.keysS_ren) { Tryz.keysS with } Fence.wide _ trivial rfl (by omega) w.heap.size b nn D0 _ (by simp) (by simp) (by
   obtain⟨es,clock,hb,Ft,hs,hD⟩:=hown;exact⟨es,clock,(Below.heap_alloc _ _ b hbl).trans hb,Ft,hs,hD⟩)
 have cK:∀mb W,CallsIn Fence.wide 5 Tryz.prog 112 #[.map mb] W fun e w'=>e= .returned (.func (.func 164) #[] #[.pointer (some ⟨W.heap.size,0,none⟩)])∧w'=W.alloc (.cells #[.map mb] 106):=fun mb W=>AnyZ.keys_in Tryz.keysS Fence.wide 5 trivial rfl mb W;have cS:=AnyZ.sorted_in Tryz.sortedS Fence.wide 5 trivial trivial trivial trivial rfl (by omega) (sorts_str _) (enters_of Tryz.func62 (by kernel_rfl) rfl) 164 #[.pointer (some ⟨w.heap.size,0,none⟩)] trivial (enters_of Tryz.func164 (by kernel_rfl) rfl) _ _ hmax hbytes _ hseq;change CallsIn _ _ Tryz.prog 111 _ _ _ at cS;have hfK:Fence.wide.fn 112:=trivial;have hfS:Fence.wide.fn 111:=trivial;refine callsIn_of_wp Tryz.func58 rfl trivial ?_ rfl;simp only[Tryz.ntmps58,List.size_toArray,List.length_cons,List.length_nil,Nat.reduceAdd,Nat.reduceSub,Array.replicate_succ,Array.replicate_zero,List.push_toArray,List.append_toArray,List.nil_append,List.cons_append];gi_wp2_with (first
  | (gi_at_call 112;refine(cK _ _).mono ?_;rintro e w' ⟨rfl,rfl⟩)
  | (gi_at_call 111;refine cS.mono ?_;rintro e w' ⟨v,ss,rfl,hS,hrow,hnil,hb⟩))
 go_ret;exact⟨v,ss,rfl,hS,ownsRow_base_a hrow (by simp),((Below.refl _ w).alloc (Nat.le_refl _) _).trans (hb.mono (by simp))⟩
theorem strKeys_mem {H:Type}{es:List (Lit×DataW H)}(hk:∀p∈es,∃x,p.1= .string x)(x:List UInt8):x∈strKeys (.map es)↔Maps.has (.map es) (.string x)=true:=by
 show x∈es.map (fun p=>strOf p.1)↔es.any (fun p=>p.1.sameKey (.string x))=true;rw[List.mem_map,List.any_eq_true];constructor
 ·rintro⟨p,hp,e⟩;obtain⟨y,hy⟩:=hk p hp;refine⟨p,hp,?_⟩;rw[hy]at e⊢;have:y=x:=e;subst this;exact WideAt.sameKey_self (by unfold WideAt.IsKeyLit;trivial)
 ·rintro⟨p,hp,h⟩;have:=WideAt.sameKey_eq h;exact⟨p,hp,by rw[this];rfl⟩
theorem strKeys_nodup {H:Type}{es:List (Lit×DataW H)}(hk:∀p∈es,∃x,p.1= .string x)(hp:es.Pairwise (fun p q=>p.1≠q.1)):(strKeys (.map es)).Nodup:=by
 show (es.map (fun p=>strOf p.1)).Nodup
 induction es with
 | nil=>simp
 | cons p es ih=>
   obtain⟨h1,h2⟩:=List.pairwise_cons.1 hp;rw[List.map_cons,List.nodup_cons];refine⟨fun hm=>?_,ih (fun q hq=>hk q (List.mem_cons_of_mem _ hq)) h2⟩;obtain⟨q,hq,e⟩:=List.mem_map.1 hm;obtain⟨x,hx⟩:=hk p (List.mem_cons_self ..);obtain⟨y,hy⟩:=hk q (List.mem_cons_of_mem _ hq);apply h1 q hq;rw[hx,hy]at e⊢;have:y=x:=e;rw[this]
theorem rising_list (ss:List (List UInt8))(h:ss.Nodup):∃l:List ByteArray,Rising l∧l.length=ss.length∧(ss.mergeSort (fun x y=>decide (x≤y))).map encStr=l.map Value.string∧∀x,x∈l↔x.data.toList∈ss:=by
 refine⟨(ss.mergeSort (fun x y=>decide (x≤y))).map fun x=>⟨x.toArray⟩,?_,by rw[List.length_map,List.length_mergeSort],by rw[List.map_map];rfl,fun x=>?_⟩
 ·unfold Rising;rw[List.pairwise_map];have h1:=List.pairwise_mergeSort (le:=fun x y:List UInt8=>decide (x≤y)) (fun a b c hab hbc=>by simp only[decide_eq_true_eq]at *;exact List.le_trans hab hbc) (fun a b=>by simp only[Bool.or_eq_true,decide_eq_true_eq];exact List.le_total a b) ss;have h2:(ss.mergeSort (fun x y=>decide (x≤y))).Nodup:=(List.mergeSort_perm ss _).nodup_iff.2 h;have h3:(ss.mergeSort (fun x y=>decide (x≤y))).Pairwise (fun a b=>a≤b∧a≠b):=(h1.imp fun hab=>of_decide_eq_true hab).and h2;refine h3.imp fun {a b} hab=>?_;show (⟨a.toArray⟩:ByteArray).data.toList<(⟨b.toArray⟩:ByteArray).data.toList;simp only;rcases Classical.em (a<b)with hlt|hge
  ·exact hlt
  ·exact absurd (List.le_antisymm hab.1 (List.not_lt.1 hge)) hab.2
 ·rw[List.mem_map];constructor
  ·rintro⟨y,hy,rfl⟩;simpa using (List.mergeSort_perm ss _).mem_iff.1 hy
  ·intro hx;exact⟨x.data.toList,(List.mergeSort_perm ss _).mem_iff.2 hx,by simp⟩
theorem rising_any (b nn:Nat)(D0:DataW Unit)(w:World)(hown:w.ownsMap Tryz.prog 9 unitElem b nn D0)(hmax:Maps.size D0≤5000000000000)(l:List ByteArray)(hl:Rising l)(hm:∀x,x∈l↔Maps.has D0 (.string x.data.toList)=true):
  Calls Tryz.prog 58 #[.map (some b)] w fun e w'=>∃v,e= .returned v∧StrsAt w' v l∧Below w.heap.size w w':=by
 refine(rising_raw b nn D0 unitElem w hown (by unfold maxLen;omega) (by omega)).mono ?_;rintro e w' ⟨v,ss,rfl,hp,hrow,hb⟩;obtain⟨es,rfl,hpw,-⟩:=hown.entries keyed_str;have hk:∀p∈es,∃x,p.1= .string x:=by
  obtain⟨es',e,h2⟩:=hown.keysOf;simp only[DataW.map.injEq]at e;subst e;intro p hp;obtain⟨v,hv⟩:=h2 p hp;obtain⟨x,_,hx,_⟩:=Maps.keyOf_str Tryz.underlying9 hv;exact⟨x,hx⟩
 obtain⟨l',h1,h2,h3,h4⟩:=rising_list ss (hp.nodup_iff.2 (strKeys_nodup hk hpw));have e1:l'=l:=rising_eq h1 hl fun x=>by rw[h4,hp.mem_iff,strKeys_mem hk,hm]
 subst e1;rw[h3]at hrow;exact⟨v,rfl,strs_own hrow h2.symm,hb⟩
end Go.Proofs.YtfehpcbmdancoaaGreatDoor
