/- The document's Apply of chapter 10 by contract, of whatever rules. -/
import Derived.StillTailTactics
import Derived.IntWalk
import Derived.Deep.RegionWith
import Derived.Deep.CutRange
import Derived.Deep.DeepCutAuto
import Derived.Test.YtfehpcbmdancoaaGreatDoorPbNRefStarts
import Derived.Test.YtfehpcbmdancoaaGreatDoorPbPlain
import Derived.Test.YtfehpcbmdancoaaGreatDoorPbRefAll
import Derived.Test.YtfehpcbmdancoaaGreatDoorPbYState
import Derived.Test.YtfehpcbmdancoaaGreatDoorPbZRef
namespace Go.Proofs.YtfehpcbmdancoaaGreatDoor
open Go Go.RowKit Go.Lib
theorem codesB_two (l:List UInt8):(codesB l).isSome=validD l∧(codesB l).getD []=codesL l:=by
 unfold codesB codesL
 cases validD l<;>simp
theorem okB_empty (s:ByteArray):okB s= !s.toList.isEmpty:=by
 unfold okB
 rw[toL_data,Bool.eq_iff_iff,decide_eq_true_eq,Lib.size_eq]
 cases s.data.toList<;>simp
structure MidR (r:Ru):Prop where
 items:r.cond.length≤100000
 sets:∀it∈r.cond,it.set.length≤100000
 strip:r.strip.size≤1000000
 add:r.add.size≤1000000
def ApplyE (e:Ending)(s:ByteArray):Prop:=e= .returned (.tuple #[.string s,.bool (okB s)])
theorem applyR_none {r:Ru}{wd:ByteArray}(h:codesB wd.data.toList=none):applyR r wd=⟨#[]⟩:=by unfold applyR;rw[h]
theorem applyR_pre {r:Ru}{wd:ByteArray}{cs:List Int}(h:codesB wd.data.toList=some cs)(hp:r.pre=true):applyR r wd=if begins wd r.strip=true∧startsP r.cond cs=true then r.add++wd.extract r.strip.size wd.size else ⟨#[]⟩:=by
 unfold applyR begins
 rw[h]
 dsimp only
 rw[if_pos hp]
 simp only[decide_eq_true_eq,and_assoc]
theorem applyR_suf {r:Ru}{wd:ByteArray}{cs:List Int}(h:codesB wd.data.toList=some cs)(hp:r.pre=false):applyR r wd=if endsW wd r.strip=true∧endsP r.cond cs=true then wd.extract 0 (wd.size-r.strip.size)++r.add else ⟨#[]⟩:=by
 unfold applyR endsW
 rw[h]
 dsimp only
 rw[if_neg (by simp[hp])]
 simp only[decide_eq_true_eq,and_assoc]
set_option maxRecDepth 100000 in
set_option maxHeartbeats 4000000 in
theorem rapply_any (w:World)(v:Value)(r:Ru)(wd:ByteArray)(h:RuAt w v r)(hm:MidR r)(hw:wd.size≤100000):
  Calls Tryz.prog 125 #[v,.string wd] w fun e w'=>ApplyE e (applyR r wd)∧Below w.heap.size w w':=by
 obtain⟨A,cap,rfl,hi⟩:=h
 obtain⟨W0,hW0⟩:∃W0,W0=w.alloc (.cells #[.bool r.pre,.int .i64 r.flag,.bool r.cross,.string r.strip,.string r.add,.slice A r.cond.length cap] 123):=⟨_,rfl⟩
 have CC:=Lib.hid (rcodes_any wd W0 (by omega))
 have hbA:=(Below.refl w.heap.size w).alloc (Nat.le_refl _) (.cells #[.bool r.pre,.int .i64 r.flag,.bool r.cross,.string r.strip,.string r.add,.slice A r.cond.length cap] 123)
 rw[hW0]at CC
 clear hW0 W0
 have HA:=Lib.hid hbA
 have HI:=Lib.hid hi
 have CB:=Lib.hid (fun wx=>rbegins_any wd r.strip wx (by omega) (by have:=hm.strip;omega))
 have CE:=Lib.hid (fun wx=>rends10_any wd r.strip wx (by omega) (by have:=hm.strip;omega))
 obtain⟨n,hn⟩:∃n,n=r.cond.length:=⟨_,rfl⟩
 have HN:=Lib.hid hn
 have HM:=Lib.hid hm
 have hst:=hm.strip
 have had:=hm.add
 rw[←hn]at HI HA CC⊢
 obtain⟨e1,e2⟩:=codesB_two wd.data.toList
 obtain⟨R,hR⟩:∃R,R=applyR r wd:=⟨_,rfl⟩
 rw[←hR]
 have HR:=Lib.hid hR
 clear hi hn hm hbA hR
 cases hcb:codesB wd.data.toList with
 | none=>
   rw[hcb]at e1
   rw[←e1]at CC
   have HZ:=Lib.hid (show R=⟨#[]⟩from HR.out.trans (applyR_none hcb))
   clear e1 e2 hcb HR
   go_enter Tryz.func125,Tryz.ntmps125
   go_wp2_with (go_at_call 117;refine CC.out.mono ?_)
   rintro e w1 ⟨v1,rfl,hown,hb⟩
   have HB:=Lib.hid (HA.out.trans (hb.mono HA.out.size))
   clear hb hown
   go_wp2_with fail
   go_ret2
   rw[HZ.out]
   exact⟨rfl,HB.out⟩
 | some cs=>
   rw[hcb]at e1 e2
   rw[←e1,←e2]at CC
   simp only[Option.getD_some,Option.isSome_some]at CC
   have hcl:=(codesB_says hcb).2
   have hsl:wd.data.toList.length=wd.size:=(Lib.size_eq wd).symm
   have HCL:=Lib.hid (show cs.length≤100000 by omega)
   clear e1 e2 hsl hcl
   obtain⟨pre,flag,cross,strip,add,cond⟩:=r
   dsimp only at HN HI HA CC CB CE hst had HM
   cases pre with
   | true=>
     have HP:=Lib.hid (show R=_ from HR.out.trans (applyR_pre hcb rfl))
     clear hcb HR CE
     go_enter Tryz.func125,Tryz.ntmps125
     go_wp2_with (first
      | (go_at_call 117;refine CC.out.mono ?_;rintro e w1 ⟨v1,rfl,hown,hb⟩;have hin:=ints_own hown;obtain⟨B,bc,rfl,-⟩:=ints_open hin;obtain⟨x0,x1,x2,x3,x4,x5⟩:=box6 hb;have hlt:w.heap.size<w1.heap.size:=by { have:=hb.size;rw[World.size_alloc]at this;omega };have HB:=Lib.hid (HA.out.trans (hb.mono HA.out.size));have ST:=Lib.hid (rstarts_any w1 A B n cs.length cap bc cond cs (HI.out.keep HB.out) hin HN.out rfl (by rw[HN.out];exact HM.out.items) HCL.out HM.out.sets);clear hown hb hin)
      | (go_at_call 181;refine(CB.out _).mono ?_;rintro e w2 ⟨rfl,rfl⟩)
      | (go_at_call 182;refine ST.out.mono ?_;rintro e w3 ⟨rfl,hb⟩;have y3:=(hb.cell (p:=⟨w.heap.size,3,none⟩) hlt).trans x3;have y4:=(hb.cell (p:=⟨w.heap.size,4,none⟩) hlt).trans x4;have HB3:=Lib.hid (HB.out.trans (hb.mono HB.out.size));clear hb))
     ·rename_i h1 h2
      go_ret2
      have hz:R=⟨#[]⟩:=by rw[HP.out];exact if_neg (fun h=>by rw[h.2]at h2;cases h2)
      rw[hz]
      exact⟨rfl,HB3.out⟩
     ·rename_i h1 h2
      have hs2:startsP cond cs=true:=by cases hh:startsP cond cs<;>simp_all
      have HZ:=Lib.hid (show R=add++wd.extract strip.size wd.size from HP.out.trans (if_pos ⟨h1,hs2⟩))
      have hle:strip.size≤wd.size:=by unfold begins at h1;exact(of_decide_eq_true h1).1
      have q1:(0:Int)≤strip.size:=by omega
      have q2:(strip.size:Int)≤wd.size:=by omega
      have q3:¬9223372036854775807<add.size+(wd.size-strip.size):=by omega
      have q4:¬9223372036854775807<wd.size-strip.size+add.size:=by omega
      clear h1 h2 hs2 hle x0 x1 x2 x3 x4 x5
      go_quiet (fail)
      go_wp2_with fail
      go_ret2
      rw[HZ.out]
      exact⟨by unfold ApplyE;rw[okB_empty];rfl,below_drewN HB3.out _⟩
     ·rename_i h1
      go_ret2
      have hz:R=⟨#[]⟩:=by rw[HP.out];exact if_neg (fun h=>h1 h.1)
      rw[hz]
      exact⟨rfl,HB.out⟩
   | false=>
     obtain⟨k,hk⟩:∃k,k=wd.size-strip.size:=⟨_,rfl⟩
     have HP:=Lib.hid (show R=if endsW wd strip=true∧endsP cond cs=true then wd.extract 0 k++add else ⟨#[]⟩from HR.out.trans (by rw[hk];exact applyR_suf hcb rfl))
     clear hcb HR CB
     have HK:=Lib.hid hk
     clear hk
     go_enter Tryz.func125,Tryz.ntmps125
     go_wp2_with (first
      | (go_at_call 117;refine CC.out.mono ?_;rintro e w1 ⟨v1,rfl,hown,hb⟩;have hin:=ints_own hown;obtain⟨B,bc,rfl,-⟩:=ints_open hin;obtain⟨x0,x1,x2,x3,x4,x5⟩:=box6 hb;have hlt:w.heap.size<w1.heap.size:=by { have:=hb.size;rw[World.size_alloc]at this;omega };have HB:=Lib.hid (HA.out.trans (hb.mono HA.out.size));have ST:=Lib.hid (rends_any w1 A B n cs.length cap bc cond cs (HI.out.keep HB.out) hin HN.out rfl (by rw[HN.out];exact HM.out.items) HCL.out HM.out.sets);clear hown hb hin)
      | (go_at_call 183;refine(CE.out _).mono ?_;rintro e w2 ⟨rfl,rfl⟩)
      | (go_at_call 184;refine ST.out.mono ?_;rintro e w3 ⟨rfl,hb⟩;have y3:=(hb.cell (p:=⟨w.heap.size,3,none⟩) hlt).trans x3;have y4:=(hb.cell (p:=⟨w.heap.size,4,none⟩) hlt).trans x4;have HB3:=Lib.hid (HB.out.trans (hb.mono HB.out.size));clear hb))
     ·rename_i h1 h2
      go_ret2
      have hz:R=⟨#[]⟩:=by rw[HP.out];exact if_neg (fun h=>by rw[h.2]at h2;cases h2)
      rw[hz]
      exact⟨rfl,HB3.out⟩
     ·rename_i h1 h2
      have hs2:endsP cond cs=true:=by cases hh:endsP cond cs<;>simp_all
      have HZ:=Lib.hid (show R=wd.extract 0 k++add from HP.out.trans (if_pos ⟨h1,hs2⟩))
      have hle:strip.size≤wd.size:=by unfold endsW at h1;exact(of_decide_eq_true h1).1
      have q1:(0:Int)≤strip.size:=by omega
      have q2:(strip.size:Int)≤wd.size:=by omega
      have e1:(wd.size:Int)-strip.size=k:=by have:=HK.out;omega
      have q5:(0:Int)≤k:=by omega
      have q6:(k:Int)≤wd.size:=by omega
      have e2:IntKind.i64.wrap (k:Int)=k:=IntWalk.i64_in _ (by omega)
      have q7:¬9223372036854775807<k+add.size:=by omega
      have q8:¬9223372036854775807<min k wd.size+add.size:=by omega
      have q3:¬9223372036854775807<add.size+(wd.size-strip.size):=by omega
      have q4:¬9223372036854775807<wd.size-strip.size+add.size:=by omega
      clear h1 h2 hs2 hle x0 x1 x2 x3 x4 x5
      go_quiet (fail)
      go_wp2_with fail
      go_ret2
      rw[HZ.out]
      exact⟨by unfold ApplyE;rw[okB_empty];rfl,below_drewN HB3.out _⟩
     ·rename_i h1
      go_ret2
      have hz:R=⟨#[]⟩:=by rw[HP.out];exact if_neg (fun h=>h1 h.1)
      rw[hz]
      exact⟨rfl,HB.out⟩
end Go.Proofs.YtfehpcbmdancoaaGreatDoor
namespace Go.Proofs.YtfehpcbmdancoaaGreatDoor
open Go Go.RowKit Go.Lib
theorem bothR_yes {p s:Ru}{wd:ByteArray}(h:p.pre=true∧s.pre=false∧p.cross=true∧s.cross=true∧okB (applyR p wd)=true∧okB (applyR s wd)=true∧p.strip.size+s.strip.size≤wd.size):bothR p s wd=p.add++wd.extract p.strip.size (wd.size-s.strip.size)++s.add:=by
 unfold bothR
 obtain⟨h1,h2,h3,h4,h5,h6,h7⟩:=h
 exact if_pos ⟨h1,h2,h3,h4,of_decide_eq_true h5,of_decide_eq_true h6,h7⟩
theorem bothR_no {p s:Ru}{wd:ByteArray}(h:¬(p.pre=true∧s.pre=false∧p.cross=true∧s.cross=true∧okB (applyR p wd)=true∧okB (applyR s wd)=true∧p.strip.size+s.strip.size≤wd.size)):bothR p s wd=⟨#[]⟩:=by
 unfold bothR
 exact if_neg fun ⟨h1,h2,h3,h4,h5,h6,h7⟩=>h ⟨h1,h2,h3,h4,decide_eq_true h5,decide_eq_true h6,h7⟩
set_option maxRecDepth 100000 in
set_option maxHeartbeats 4000000 in
theorem rboth_any (w:World)(v v':Value)(p s:Ru)(wd:ByteArray)(h:RuAt w v p)(hp:MidR p)(h':RuAt w v' s)(hs:MidR s)(hw:wd.size≤100000):
  Calls Tryz.prog 126 #[v,v',.string wd] w fun e w'=>ApplyE e (bothR p s wd)∧Below w.heap.size w w':=by
 have h0:=h
 have h0':=h'
 obtain⟨A,cap,rfl,hi⟩:=h
 obtain⟨A',cap',rfl,hi'⟩:=h'
 obtain⟨n,hn⟩:∃n,n=p.cond.length:=⟨_,rfl⟩
 obtain⟨n',hn'⟩:∃n,n=s.cond.length:=⟨_,rfl⟩
 rw[←hn]at h0 hi⊢
 rw[←hn']at h0' hi'⊢
 have hb2:Below w.heap.size w ((w.alloc (.cells #[.bool p.pre,.int .i64 p.flag,.bool p.cross,.string p.strip,.string p.add,.slice A n cap] 123)).alloc (.cells #[.bool s.pre,.int .i64 s.flag,.bool s.cross,.string s.strip,.string s.add,.slice A' n' cap'] 123)):=
  ((Below.refl _ _).alloc (Nat.le_refl _) _).alloc (by rw[World.size_alloc];omega) _
 have CA:=Lib.hid (fun wx (hb:Below w.heap.size w wx)=>rapply_any wx _ p wd (h0.keep hb) hp hw)
 have CS:=Lib.hid (fun wx (hb:Below w.heap.size w wx)=>rapply_any wx _ s wd (h0'.keep hb) hs hw)
 have HB:=Lib.hid hb2
 have g1:=hp.strip
 have g2:=hs.strip
 have g3:=hp.add
 have g4:=hs.add
 obtain⟨R,hR⟩:∃R,R=bothR p s wd:=⟨_,rfl⟩
 rw[←hR]
 have HR:=Lib.hid hR
 have YES:=Lib.hid (fun h=>hR.trans (bothR_yes (p:=p) (s:=s) (wd:=wd) h))
 have NO:=Lib.hid (fun h=>hR.trans (bothR_no (p:=p) (s:=s) (wd:=wd) h))
 obtain⟨RA,hRA⟩:∃R,R=applyR p wd:=⟨_,rfl⟩
 obtain⟨RS,hRS⟩:∃R,R=applyR s wd:=⟨_,rfl⟩
 rw[←hRA]at CA YES NO
 rw[←hRS]at CS YES NO
 clear h0 h0' hi hi' hb2 hR hn hn' hRA hRS hp hs HR
 obtain⟨pre,flag,cross,strip,add,cond⟩:=p
 obtain⟨pre',flag',cross',strip',add',cond'⟩:=s
 dsimp only at CA CS HB g1 g2 g3 g4 YES NO⊢
 have BX:Hid (∀w1,Below ((w.alloc (.cells #[.bool pre,.int .i64 flag,.bool cross,.string strip,.string add,.slice A n cap] 123)).alloc (.cells #[.bool pre',.int .i64 flag',.bool cross',.string strip',.string add',.slice A' n' cap'] 123)).heap.size ((w.alloc (.cells #[.bool pre,.int .i64 flag,.bool cross,.string strip,.string add,.slice A n cap] 123)).alloc (.cells #[.bool pre',.int .i64 flag',.bool cross',.string strip',.string add',.slice A' n' cap'] 123)) w1→
   (w1.cell? ⟨w.heap.size,0,none⟩=some (.bool pre)∧w1.cell? ⟨w.heap.size,2,none⟩=some (.bool cross)∧w1.cell? ⟨w.heap.size,3,none⟩=some (.string strip)∧w1.cell? ⟨w.heap.size,4,none⟩=some (.string add))∧
   (w1.cell? ⟨w.heap.size+1,0,none⟩=some (.bool pre')∧w1.cell? ⟨w.heap.size+1,1,none⟩=some (.int .i64 flag')∧w1.cell? ⟨w.heap.size+1,2,none⟩=some (.bool cross')∧w1.cell? ⟨w.heap.size+1,3,none⟩=some (.string strip')∧w1.cell? ⟨w.heap.size+1,4,none⟩=some (.string add')∧w1.cell? ⟨w.heap.size+1,5,none⟩=some (.slice A' n' cap'))):=Lib.hid fun w1 hb=>by
  have h1:=box6 (w:=w.alloc (.cells #[.bool pre,.int .i64 flag,.bool cross,.string strip,.string add,.slice A n cap] 123)) hb
  rw[World.size_alloc]at h1
  have hb0:Below (w.alloc (.cells #[.bool pre,.int .i64 flag,.bool cross,.string strip,.string add,.slice A n cap] 123)).heap.size (w.alloc (.cells #[.bool pre,.int .i64 flag,.bool cross,.string strip,.string add,.slice A n cap] 123)) w1:=
   ((Below.refl _ _).alloc (Nat.le_refl _) _).trans (hb.mono (by rw[World.size_alloc (w.alloc _)];omega))
  have h2:=box6 hb0
  exact⟨⟨h2.1,h2.2.2.1,h2.2.2.2.1,h2.2.2.2.2.1⟩,h1⟩
 go_enter Tryz.func126,Tryz.ntmps126
 go_wp2_with (go_at_call 125;refine(CA.out _ HB.out).mono ?_)
 rintro e w1 ⟨rfl,hb1⟩
 obtain⟨⟨x0,x2,x3,x4⟩,y0,y1,y2,y3,y4,y5⟩:=BX.out w1 hb1
 have B1:=Lib.hid hb1
 have HB1:=Lib.hid (HB.out.trans (hb1.mono HB.out.size))
 clear hb1
 go_wp2_with (go_at_call 125;refine(CS.out _ HB1.out).mono ?_)
 rintro e w2 ⟨rfl,hb2⟩
 have hbb:=B1.out.trans (hb2.mono B1.out.size)
 clear x0 x2 x3 x4 y0 y1 y2 y3 y4 y5
 obtain⟨⟨x0,x2,x3,x4⟩,y0,y1,y2,y3,y4,y5⟩:=BX.out w2 hbb
 have HB2:=Lib.hid (HB1.out.trans (hb2.mono HB1.out.size))
 clear hb2 hbb
 generalize okB RA=oa at*
 generalize okB RS=os at*
 have e0:IntKind.i64.wrap ((strip.size:Int)+strip'.size)=(strip.size:Int)+strip'.size:=IntWalk.i64_in _ (by omega)
 by_cases hall:pre=true∧pre'=false∧cross=true∧cross'=true∧oa=true∧os=true∧strip.size+strip'.size≤wd.size
 ·have HY:=Lib.hid (YES.out hall)
  obtain⟨rfl,rfl,rfl,rfl,rfl,rfl,hle⟩:=hall
  have d1:¬(wd.size:Int)<(strip.size:Int)+strip'.size:=by omega
  obtain⟨k,hk⟩:∃k,k=wd.size-strip'.size:=⟨_,rfl⟩
  have e1:(wd.size:Int)-strip'.size=k:=by omega
  have e2:IntKind.i64.wrap (k:Int)=k:=IntWalk.i64_in _ (by omega)
  have q1:(0:Int)≤strip.size:=by omega
  have q2:(strip.size:Int)≤k:=by omega
  have q3:(k:Int)≤wd.size:=by omega
  have q4:(0:Int)≤k:=by omega
  have q5:¬9223372036854775807<add.size+(min k wd.size-strip.size):=by omega
  have q6:¬9223372036854775807<add.size+(min k wd.size-strip.size)+add'.size:=by omega
  have q7:¬9223372036854775807<add.size+(k-strip.size):=by omega
  have q8:¬9223372036854775807<add.size+(k-strip.size)+add'.size:=by omega
  rw[←hk]at HY
  clear hk hle YES NO
  go_wp2_with fail
  go_quiet (fail)
  go_wp2_with fail
  go_ret2
  rw[HY.out]
  exact⟨by unfold ApplyE;rw[okB_empty];rfl,below_drewN HB2.out _⟩
 ·have HZ:=Lib.hid (NO.out hall)
  have hcs:pre=false∨(pre=true∧pre'=true)∨(pre=true∧pre'=false∧cross=false)∨(pre=true∧pre'=false∧cross=true∧cross'=false)∨(pre=true∧pre'=false∧cross=true∧cross'=true∧oa=false)∨
    (pre=true∧pre'=false∧cross=true∧cross'=true∧oa=true∧os=false)∨(pre=true∧pre'=false∧cross=true∧cross'=true∧oa=true∧os=true∧(wd.size:Int)<(strip.size:Int)+strip'.size):=by
   cases pre
   ·exact .inl rfl
   cases pre'
   case true=>exact .inr (.inl ⟨rfl,rfl⟩)
   cases cross
   ·exact .inr (.inr (.inl ⟨rfl,rfl,rfl⟩))
   cases cross'
   ·exact .inr (.inr (.inr (.inl ⟨rfl,rfl,rfl,rfl⟩)))
   cases oa
   ·exact .inr (.inr (.inr (.inr (.inl ⟨rfl,rfl,rfl,rfl,rfl⟩))))
   cases os
   ·exact .inr (.inr (.inr (.inr (.inr (.inl ⟨rfl,rfl,rfl,rfl,rfl,rfl⟩)))))
   ·refine .inr (.inr (.inr (.inr (.inr (.inr ⟨rfl,rfl,rfl,rfl,rfl,rfl,?_⟩)))))
    rcases Nat.lt_or_ge wd.size (strip.size+strip'.size)with h|h
    ·omega
    ·exact absurd ⟨rfl,rfl,rfl,rfl,rfl,rfl,h⟩ hall
  clear hall YES NO
  rcases hcs with rfl|⟨rfl,rfl⟩|⟨rfl,rfl,rfl⟩|⟨rfl,rfl,rfl,rfl⟩|⟨rfl,rfl,rfl,rfl,rfl⟩|⟨rfl,rfl,rfl,rfl,rfl,rfl⟩|⟨rfl,rfl,rfl,rfl,rfl,rfl,hlt⟩
  all_goals
   go_wp2_with fail
   go_ret2
   rw[HZ.out]
   exact⟨rfl,HB2.out⟩
end Go.Proofs.YtfehpcbmdancoaaGreatDoor
namespace Go.Proofs.YtfehpcbmdancoaaGreatDoor
open Go Go.RowKit Go.Lib
theorem putOk_len (l:List ByteArray)(x:ByteArray):(putOk l x).length≤l.length+1:=by
 unfold putOk
 split
 ·exact putL_length x l
 ·omega
theorem StrsP.keep {w w':World}{v:Value}{l:List ByteArray}(h:StrsP w v l)(hb:Below w.heap.size w w'):StrsP w' v l:=by
 rcases h with h|⟨b,off,cap,rfl,h1,h2,h3,h4⟩
 ·exact .inl h
 ·exact .inr ⟨b,off,cap,rfl,Nat.lt_of_lt_of_le h1 hb.size,h2,h3,fun i c hc=>(cell_old (p:=⟨b,off+i,none⟩) hb h1).trans (h4 i c hc)⟩
theorem take_fold {α β:Type}(f:β→α→β)(x:β){l:List α}{k:Nat}{a:α}(h:l[k]?=some a):(l.take (k+1)).foldl f x=f ((l.take k).foldl f x) a:=by
 rw[List.take_add_one,h,List.foldl_append];rfl
set_option maxRecDepth 100000 in
set_option maxHeartbeats 8000000 in
theorem forms13_any (w:World)(v:Value)(rs:List Ru)(A:Option Addr)(n cap:Nat)(wd:ByteArray)(fl:List Int)(hr:RulesAt w v rs)(hI:IntsAt w (.slice A n cap) fl)(hm:∀r∈rs,MidR r)(hw:wd.size≤100000)(hn:rs.length≤1000):
  Calls Tryz.prog 69 #[v,.agg #[.string wd,.slice A n cap]] w fun e w'=>∃v',e= .returned v'∧StrsP w' v' (formsL rs ⟨wd,fl⟩)∧Below w.heap.size w w':=by
 obtain⟨SA,sc,rfl⟩:=rules_form hr
 obtain⟨sn,hsn⟩:∃sn,sn=rs.length:=⟨_,rfl⟩
 rw[←hsn]at hr hn⊢
 have HN:=Lib.hid (And.intro hsn (And.intro hm hw))
 have HO:=Lib.hid (rules_open hr)
 have HIW:=Lib.hid hI
 obtain⟨W0,hW0⟩:∃W0,W0=w.alloc (.cells #[.string wd,.slice A n cap] 99):=⟨_,rfl⟩
 have z:=World.alloc_heap_new w (.cells #[.string wd,.slice A n cap] 99)
 rw[←hW0]at z
 have hb0:Below w.heap.size w W0:=by rw[hW0];exact(Below.refl _ _).alloc (Nat.le_refl _) _
 obtain⟨B0,hB0⟩:∃B0,B0=w.heap.size:=⟨_,rfl⟩
 rw[←hB0]at z
 have hBl:B0<W0.heap.size:=(Array.getElem?_eq_some_iff.1 z).1
 have x0:W0.cell? ⟨B0,0,none⟩=some (.string wd):=by simp[World.cell?,z]
 have x1:W0.cell? ⟨B0,1,none⟩=some (.slice A n cap):=by simp[World.cell?,z]
 have HBX:=Lib.hid (show∀W,Below W0.heap.size W0 W→W.cell? ⟨B0,0,none⟩=some (.string wd)∧W.cell? ⟨B0,1,none⟩=some (.slice A n cap)from fun W h=>⟨(cell_old (p:=⟨B0,0,none⟩) h hBl).trans x0,(cell_old (p:=⟨B0,1,none⟩) h hBl).trans x1⟩)
 have HBW:=Lib.hid (show∀W,Below W0.heap.size W0 W→Below w.heap.size w W from fun W h=>hb0.trans (h.mono hb0.size))
 have HRU:=Lib.hid (show∀(i:Nat) r,rs[i]?=some r→∃b off B bc,SA=some ⟨b,off,none⟩∧sn≤sc∧(∀W,Below W0.heap.size W0 W→(W.cell? ⟨b,off+i*6,none⟩=some (.bool r.pre)∧W.cell? ⟨b,off+i*6+1,none⟩=some (.int .i64 r.flag)∧W.cell? ⟨b,off+i*6+2,none⟩=some (.bool r.cross)∧W.cell? ⟨b,off+i*6+3,none⟩=some (.string r.strip)∧W.cell? ⟨b,off+i*6+4,none⟩=some (.string r.add)∧W.cell? ⟨b,off+i*6+5,none⟩=some (.slice B r.cond.length bc))∧
   RuAt W (.agg #[.bool r.pre,.int .i64 r.flag,.bool r.cross,.string r.strip,.string r.add,.slice B r.cond.length bc]) r)from fun i r hi=>by
  obtain⟨b,off,k1,k2,k3,c0,c1,c2,c3,c4,B,bc,c5,hits⟩:=HO.out i r hi
  refine⟨b,off,B,bc,k1,k3,fun W h=>?_⟩
  have hb:=HBW.out W h
  have hc:∀o,W.cell? ⟨b,o,none⟩=w.cell? ⟨b,o,none⟩:=fun o=>cell_old (p:=⟨b,o,none⟩) hb k2
  exact⟨⟨(hc _).trans c0,(hc _).trans c1,(hc _).trans c2,(hc _).trans c3,(hc _).trans c4,(hc _).trans c5⟩,B,bc,rfl,hits.keep hb⟩)
 have HS1:=Lib.hid (show Below W0.heap.size W0 (W0.alloc (.cells #[.string wd] 9))∧StrsP (W0.alloc (.cells #[.string wd] 9)) (.slice (some ⟨W0.heap.size,0,none⟩) 1 1) [wd]from ⟨(Below.refl _ _).alloc (Nat.le_refl _) _,.inr ⟨W0.heap.size,0,1,rfl,by simp,by simp,by unfold maxLen;omega,fun i s hi=>by
  cases i with
  | zero=>
    simp at hi;subst hi
    exact cell_of_row _ _ 0 _ _ _ (World.alloc_heap_new _ _)
  | succ i=>simp at hi⟩⟩)
 have HEN:=Lib.hid (fun W (h:Below W0.heap.size W0 W) f=>has_any W wd A n cap fl f (HIW.out.keep (HBW.out W h)))
 clear hr hI hm hw hsn z hb0 hBl
 go_enter Tryz.func69,Tryz.ntmps69
 go_upto_region 1 with fail
 rw[←hB0,←hW0]
 clear hW0 hB0
 go_wp2_with fail
 go_loopg [5,6] sn (fun gh s5 s6 wr=>∃k:Nat,k+gh=sn∧s6= .int .i64 k∧Hid (StrsP wr s5 ((rs.take k).foldl (oneL rs ⟨wd,fl⟩) [wd])∧Below W0.heap.size W0 wr∧((rs.take k).foldl (oneL rs ⟨wd,fl⟩) [wd]).length≤1+k*(sn+1)))
 case atStart=>exact⟨0,by omega,rfl,Lib.hid ⟨HS1.out.2,HS1.out.1,by simp⟩⟩
 case round=>
  obtain⟨k,hk,rfl,HQ⟩:=hrel
  by_cases hlt:k<sn
  ·obtain⟨r,hr⟩:∃r,rs[k]?=some r:=⟨rs[k]'(by have:=HN.out.1;omega),List.getElem?_eq_getElem _⟩
   obtain⟨b,off,B,bc,rfl,hsc,hru⟩:=HRU.out k r hr
   have HR:=Lib.hid (And.intro hr hru)
   obtain⟨⟨c0,c1,c2,c3,c4,c5⟩,-⟩:=hru wr HQ.out.2.1
   obtain⟨y0,y1⟩:=HBX.out wr HQ.out.2.1
   have CH:=Lib.hid (HEN.out wr.drew HQ.out.2.1.drew r.flag)
   clear x0 x1 hr hru
   go_upto_region 5 with fail
   go_still_tail 6,(by kernel_rfl)
   change wpList _ _ _ _ _ wr.drew
   clear c0 c1 c2 c3 c4 c5 y0 y1
   have HQD:=Lib.hid (And.intro (HQ.out.1.keep ((Below.refl wr.heap.size wr).drew)) HQ.out.2.1.drew)
   generalize wr.drew=wd0 at*
   by_cases hf:r.flag∈fl
   ·rw[decide_eq_true hf]at CH
    go_wp2_with (go_at_call 124;refine(CH.out).mono ?_;rintro e w1 ⟨rfl,hb1⟩;have HB1:=Lib.hid (HQD.out.2.trans (hb1.mono HQD.out.2.size));have HBD:=Lib.hid hb1.drew;clear hb1 CH)
    obtain⟨⟨c0,c1,c2,c3,c4,c5⟩,hra⟩:=HR.out.2 w1 HB1.out
    obtain⟨y0,y1⟩:=HBX.out w1 HB1.out
    have CA:=Lib.hid (rapply_any w1.drew _ r wd ((HR.out.2 w1.drew HB1.out.drew).2) (HN.out.2.1 r (List.mem_of_getElem? HR.out.1)) HN.out.2.2)
    have HS2:=Lib.hid (show StrsP w1.drew u5 ((rs.take k).foldl (oneL rs ⟨wd,fl⟩) [wd])from HQD.out.1.keep HBD.out)
    have HF:=Lib.hid hf
    clear hf hra
    go_cut [7,8] (fun s7 s8 wx=>s7= .string (applyR r wd)∧s8= .bool (okB (applyR r wd))∧Hid (StrsP wx u5 ((rs.take k).foldl (oneL rs ⟨wd,fl⟩) [wd])∧Below W0.heap.size W0 wx))
    case first=>
     go_region_with (go_at_call 125;refine(CA.out).mono ?_;rintro e w2 ⟨rfl,hb2⟩;have HB2:=Lib.hid hb2;clear hb2)
     all_goals
      clear c0 c1 c2 c3 c4 c5 y0 y1
      go_wp2_with fail
      go_meet
      exact⟨rfl,rfl,Lib.hid ⟨HS2.out.keep HB2.out,HB1.out.drew.trans (HB2.out.mono HB1.out.size)⟩⟩
    case rest=>
     obtain⟨rfl,rfl,HQ2⟩:=hcut
     have HLEN:=Lib.hid (show ((rs.take k).foldl (oneL rs ⟨wd,fl⟩) [wd]).length≤1000000000 by
      have:=HQ.out.2.2
      have:k*(sn+1)≤1000*1001:=Nat.mul_le_mul (by omega) (by omega)
      omega)
     clear c0 c1 c2 c3 c4 c5 y0 y1 CA HS2
     obtain⟨ob,hob⟩:∃ob,ob=okB (applyR r wd):=⟨_,rfl⟩
     rw[←hob]
     have HOB:=Lib.hid hob
     clear hob
     go_upto_if 39 with(fail)
     go_cut [5] (fun s5 wx=>Hid (StrsP wx s5 (putOk ((rs.take k).foldl (oneL rs ⟨wd,fl⟩) [wd]) (applyR r wd))∧Below W0.heap.size W0 wx))
     case first=>
      cases ob with
      | true=>
        have HPUT:=Lib.hid (show putOk ((rs.take k).foldl (oneL rs ⟨wd,fl⟩) [wd]) (applyR r wd)=putL ((rs.take k).foldl (oneL rs ⟨wd,fl⟩) [wd]) (applyR r wd)from if_pos (of_decide_eq_true HOB.out.symm))
        have CP:=Lib.hid (put13_any wc u5 _ (applyR r wd) HQ2.out.1 HLEN.out)
        go_wp2_with (go_at_call 70;refine(CP.out).mono ?_;rintro e w3 ⟨v3,rfl,hs3,hb3⟩)
        go_meet
        exact Lib.hid ⟨by rw[HPUT.out];exact hs3,HQ2.out.2.trans (hb3.mono HQ2.out.2.size)⟩
      | false=>
        have HPUT:=Lib.hid (show putOk ((rs.take k).foldl (oneL rs ⟨wd,fl⟩) [wd]) (applyR r wd)=(rs.take k).foldl (oneL rs ⟨wd,fl⟩) [wd]from if_neg (of_decide_eq_false HOB.out.symm))
        go_wp2_with fail
        go_meet
        exact Lib.hid ⟨by rw[HPUT.out];exact HQ2.out.1,HQ2.out.2⟩
     case rest=>
      have HQ3:=hcut
      have hL1:Hid (oneL rs ⟨wd,fl⟩ ((rs.take k).foldl (oneL rs ⟨wd,fl⟩) [wd]) r=rs.foldl (twoL ⟨wd,fl⟩ r) (putOk ((rs.take k).foldl (oneL rs ⟨wd,fl⟩) [wd]) (applyR r wd))):=Lib.hid (if_pos HF.out)
      have hL2:(putOk ((rs.take k).foldl (oneL rs ⟨wd,fl⟩) [wd]) (applyR r wd)).length≤2+k*(sn+1):=by
       have:=putOk_len ((rs.take k).foldl (oneL rs ⟨wd,fl⟩) [wd]) (applyR r wd)
       have:=HQ.out.2.2
       omega
      have hL3:2+k*(sn+1)≤1002002:=by
       have:k*(sn+1)≤1000*1001:=Nat.mul_le_mul (by omega) (by omega)
       omega
      have HL2:=Lib.hid (And.intro hL2 hL3)
      clear hcut hL2 hL3 HLEN HQ2
      generalize putOk ((rs.take k).foldl (oneL rs ⟨wd,fl⟩) [wd]) (applyR r wd)=L1 at HQ3 hL1 HL2
      obtain⟨g1,hg1⟩:∃g1,g1=gk:=⟨_,rfl⟩
      go_wp2_with fail
      go_loopg [5,9] sn (fun gh s5 s9 wq=>∃j:Nat,j+gh=sn∧s9= .int .i64 j∧Hid (StrsP wq s5 ((rs.take j).foldl (twoL ⟨wd,fl⟩ r) L1)∧Below W0.heap.size W0 wq∧((rs.take j).foldl (twoL ⟨wd,fl⟩ r) L1).length≤L1.length+j))
      case atStart=>exact⟨0,by omega,rfl,Lib.hid ⟨HQ3.out.1,HQ3.out.2,by simp⟩⟩
      case round=>
       obtain⟨j,hj,rfl,HJ⟩:=hrel
       by_cases hltj:j<sn
       ·obtain⟨t,ht⟩:∃t,rs[j]?=some t:=⟨rs[j]'(by have:=HN.out.1;omega),List.getElem?_eq_getElem _⟩
        obtain⟨b2,off2,B2,bc2,e2,-,hru2⟩:=HRU.out j t ht
        cases e2
        have HT:=Lib.hid (And.intro ht hru2)
        obtain⟨⟨c0,c1,c2,c3,c4,c5⟩,-⟩:=hru2 wr HJ.out.2.1
        obtain⟨y0,y1⟩:=HBX.out wr HJ.out.2.1
        have CH:=Lib.hid (HEN.out wr.drew HJ.out.2.1.drew t.flag)
        clear ht hru2
        go_upto_region 12 with fail
        go_still_tail 6,(by kernel_rfl)
        change wpList _ _ _ _ _ wr.drew
        clear c0 c1 c2 c3 c4 c5 y0 y1
        have HQD:=Lib.hid (And.intro (HJ.out.1.keep ((Below.refl wr.heap.size wr).drew)) HJ.out.2.1.drew)
        generalize wr.drew=wd0 at*
        by_cases hf2:t.flag∈fl
        ·rw[decide_eq_true hf2]at CH
         go_wp2_with (go_at_call 124;refine(CH.out).mono ?_;rintro e w1 ⟨rfl,hb1⟩;have HB1:=Lib.hid (HQD.out.2.trans (hb1.mono HQD.out.2.size));have HBD:=Lib.hid hb1.drew;clear hb1 CH)
         obtain⟨⟨c0,c1,c2,c3,c4,c5⟩,-⟩:=HR.out.2 w1 HB1.out
         obtain⟨⟨d0,d1,d2,d3,d4,d5⟩,-⟩:=HT.out.2 w1 HB1.out
         obtain⟨y0,y1⟩:=HBX.out w1 HB1.out
         have CA:=Lib.hid (rboth_any w1.drew _ _ r t wd ((HR.out.2 w1.drew HB1.out.drew).2) (HN.out.2.1 r (List.mem_of_getElem? HR.out.1)) ((HT.out.2 w1.drew HB1.out.drew).2) (HN.out.2.1 t (List.mem_of_getElem? HT.out.1)) HN.out.2.2)
         have HS2:=Lib.hid (show StrsP w1.drew u5 ((rs.take j).foldl (twoL ⟨wd,fl⟩ r) L1)from HQD.out.1.keep HBD.out)
         have HF2:=Lib.hid hf2
         clear hf2
         go_cut [10,11] (fun s7 s8 wx=>s7= .string (bothR r t wd)∧s8= .bool (okB (bothR r t wd))∧Hid (StrsP wx u5 ((rs.take j).foldl (twoL ⟨wd,fl⟩ r) L1)∧Below W0.heap.size W0 wx))
         case first=>
          go_region_with (go_at_call 126;refine(CA.out).mono ?_;rintro e w2 ⟨rfl,hb2⟩;have HB2:=Lib.hid hb2;clear hb2)
          all_goals
           clear c0 c1 c2 c3 c4 c5 d0 d1 d2 d3 d4 d5 y0 y1
           go_wp2_with fail
           go_meet
           exact⟨rfl,rfl,Lib.hid ⟨HS2.out.keep HB2.out,HB1.out.drew.trans (HB2.out.mono HB1.out.size)⟩⟩
         case rest=>
          obtain⟨rfl,rfl,HQ2⟩:=hcut
          have HLEN:=Lib.hid (show ((rs.take j).foldl (twoL ⟨wd,fl⟩ r) L1).length≤1000000000 by
           have:=HJ.out.2.2
           have:=HL2.out
           omega)
          clear c0 c1 c2 c3 c4 c5 d0 d1 d2 d3 d4 d5 y0 y1 CA HS2
          obtain⟨ob2,hob⟩:∃ob,ob=okB (bothR r t wd):=⟨_,rfl⟩
          rw[←hob]
          have HOB2:=Lib.hid hob
          clear hob
          have HX:=Lib.hid (show twoL ⟨wd,fl⟩ r ((rs.take j).foldl (twoL ⟨wd,fl⟩ r) L1) t=putOk ((rs.take j).foldl (twoL ⟨wd,fl⟩ r) L1) (bothR r t wd)from if_pos HF2.out)
          cases ob2 with
          | true=>
            have HPUT:=Lib.hid (show putOk ((rs.take j).foldl (twoL ⟨wd,fl⟩ r) L1) (bothR r t wd)=putL ((rs.take j).foldl (twoL ⟨wd,fl⟩ r) L1) (bothR r t wd)from if_pos (of_decide_eq_true HOB2.out.symm))
            have CP:=Lib.hid (put13_any wc u5 _ (bothR r t wd) HQ2.out.1 HLEN.out)
            go_wp2_with (go_at_call 70;refine(CP.out).mono ?_;rintro e w3 ⟨v3,rfl,hs3,hb3⟩;have HS3:=Lib.hid hs3;have HB3:=Lib.hid (HQ2.out.2.trans (hb3.mono HQ2.out.2.size));clear hs3 hb3)
            go_roundg (gk-1)
            case measure=>omega
            case rel=>exact⟨j+1,by omega,by go_num,Lib.hid (by rw[take_fold _ _ HT.out.1,HX.out];exact⟨by rw[HPUT.out];exact HS3.out,HB3.out,by have:=HJ.out.2.2;have:=putOk_len ((rs.take j).foldl (twoL ⟨wd,fl⟩ r) L1) (bothR r t wd);omega⟩)⟩
          | false=>
            have HPUT:=Lib.hid (show putOk ((rs.take j).foldl (twoL ⟨wd,fl⟩ r) L1) (bothR r t wd)=(rs.take j).foldl (twoL ⟨wd,fl⟩ r) L1 from if_neg (of_decide_eq_false HOB2.out.symm))
            go_wp2_with fail
            go_roundg (gk-1)
            case measure=>omega
            case rel=>exact⟨j+1,by omega,by go_num,Lib.hid (by rw[take_fold _ _ HT.out.1,HX.out];exact⟨by rw[HPUT.out];exact HQ2.out.1,HQ2.out.2,by have:=HJ.out.2.2;have:=putOk_len ((rs.take j).foldl (twoL ⟨wd,fl⟩ r) L1) (bothR r t wd);omega⟩)⟩
        ·rw[decide_eq_false hf2]at CH
         have HX:=Lib.hid (show twoL ⟨wd,fl⟩ r ((rs.take j).foldl (twoL ⟨wd,fl⟩ r) L1) t=(rs.take j).foldl (twoL ⟨wd,fl⟩ r) L1 from if_neg hf2)
         go_wp2_with (go_at_call 124;refine(CH.out).mono ?_;rintro e w1 ⟨rfl,hb1⟩;have HB1:=Lib.hid (HQD.out.2.trans (hb1.mono HQD.out.2.size));have HS1:=Lib.hid (HQD.out.1.keep hb1);clear hb1 CH)
         go_roundg (gk-1)
         case measure=>omega
         case rel=>exact⟨j+1,by omega,by go_num,Lib.hid (by rw[take_fold _ _ HT.out.1,HX.out];exact⟨HS1.out,HB1.out,by have:=HJ.out.2.2;omega⟩)⟩
       ·obtain rfl:j=sn:=by omega
        go_wp2_with fail
        go_roundg (g1-1)
        case measure=>omega
        case rel=>
         refine⟨k+1,by omega,by go_num,Lib.hid ?_⟩
         rw[take_fold _ _ HR.out.1,hL1.out]
         have h1:=HJ.out
         rw[List.take_of_length_le (by have:=HN.out.1;omega)]at h1
         exact⟨h1.1,h1.2.1,by have:=h1.2.2;have:=HL2.out.1;rw[Nat.add_mul];omega⟩
   ·rw[decide_eq_false hf]at CH
    have HX:=Lib.hid (show oneL rs ⟨wd,fl⟩ ((rs.take k).foldl (oneL rs ⟨wd,fl⟩) [wd]) r=(rs.take k).foldl (oneL rs ⟨wd,fl⟩) [wd]from if_neg hf)
    go_wp2_with (go_at_call 124;refine(CH.out).mono ?_;rintro e w1 ⟨rfl,hb1⟩;have HB1:=Lib.hid (HQD.out.2.trans (hb1.mono HQD.out.2.size));have HS1:=Lib.hid (HQD.out.1.keep hb1);clear hb1 CH)
    go_roundg (gk-1)
    case measure=>omega
    case rel=>exact⟨k+1,by omega,by go_num,Lib.hid (by rw[take_fold _ _ HR.out.1,HX.out];exact⟨HS1.out,HB1.out,by have:=HQ.out.2.2;rw[Nat.add_mul];omega⟩)⟩
  ·obtain rfl:k=sn:=by omega
   go_wp2_with fail
   go_ret
   have h1:=HQ.out
   rw[List.take_of_length_le (by have:=HN.out.1;omega)]at h1
   exact⟨_,rfl,h1.1,HBW.out _ h1.2.1⟩
end Go.Proofs.YtfehpcbmdancoaaGreatDoor
namespace Go.Proofs.YtfehpcbmdancoaaGreatDoor
open Go Go.RowKit Go.Lib
theorem two_len (e:En)(p:Ru):∀(rs:List Ru) (l:List ByteArray),(rs.foldl (twoL e p) l).length≤l.length+rs.length
 | [],_=>Nat.le_refl _
 | s::rs,l=>by
   have h:=two_len e p rs (twoL e p l s)
   have h1:(twoL e p l s).length≤l.length+1:=by
    unfold twoL
    split
    ·exact putOk_len _ _
    ·omega
   rw[List.foldl_cons,List.length_cons]
   omega
theorem one_len (rs:List Ru)(e:En):∀(ts:List Ru) (l:List ByteArray),(ts.foldl (oneL rs e) l).length≤l.length+ts.length*(rs.length+1)
 | [],l=>by simp
 | t::ts,l=>by
   have h:=one_len rs e ts (oneL rs e l t)
   have h1:(oneL rs e l t).length≤l.length+(rs.length+1):=by
    unfold oneL
    split
    ·have h2:=two_len e t rs (putOk l (applyR t e.word))
     have h3:=putOk_len l (applyR t e.word)
     omega
    ·omega
   rw[List.foldl_cons,List.length_cons,Nat.add_mul]
   omega
theorem forms_len (rs:List Ru)(e:En):(formsL rs e).length≤1+rs.length*(rs.length+1):=one_len rs e rs [e.word]
set_option maxRecDepth 100000 in
set_option maxHeartbeats 8000000 in
theorem all13_any (w:World)(v vE:Value)(rs:List Ru)(es:List En)(hr:RulesAt w v rs)(hE:EntsAt w vE es)(hm:∀r∈rs,MidR r)(hn:rs.length≤200)(hes:es.length≤2000)(hw:∀e∈es,e.word.size≤100000):
  Calls Tryz.prog 34 #[v,vE] w fun e w'=>∃v' c,e= .returned (.tuple #[v',.int .i64 c])∧StrsAt w' v' (allL rs es).1∧c=(allL rs es).2∧Below w.heap.size w w':=by
 obtain⟨VA,vc,rfl⟩:=ents_form hE
 obtain⟨SA,sc,rfl⟩:=rules_form hr
 obtain⟨sn,hsn⟩:∃sn,sn=rs.length:=⟨_,rfl⟩
 obtain⟨n,hnn⟩:∃n,n=es.length:=⟨_,rfl⟩
 rw[←hsn]at hr⊢
 rw[←hnn]at hE hes⊢
 have hlen:∀e,(formsL rs e).length≤40201:=fun e=>by
  have h:=forms_len rs e
  have:rs.length*(rs.length+1)≤200*201:=Nat.mul_le_mul hn (by omega)
  omega
 have HN:=Lib.hid (And.intro hnn (And.intro hm (And.intro hw (And.intro hr hn))))
 have HO:=Lib.hid (ents_open hE)
 have HLN:=Lib.hid hlen
 clear hr hE hm hn hw hsn hnn hlen
 go_enter Tryz.func34,Tryz.ntmps34
 go_wp2_with fail
 go_loopg [6,7] n (fun gh s6 s7 wr=>∃k:Nat,k+gh=n∧s7= .int .i64 k∧Hid (StrsP wr s6 ((es.take k).foldl (fun m e=>(formsL rs e).foldl putL m) [])∧Below w.heap.size w wr∧((es.take k).foldl (fun m e=>(formsL rs e).foldl putL m) []).length≤k*40201))
 case atStart=>exact⟨0,by omega,rfl,Lib.hid ⟨.inl ⟨rfl,rfl⟩,Below.refl _ _,by simp⟩⟩
 case round=>
  obtain⟨k,hk,rfl,HQ⟩:=hrel
  by_cases hlt:k<n
  ·obtain⟨e,he⟩:∃e,es[k]?=some e:=⟨es[k]'(by have:=HN.out.1;omega),List.getElem?_eq_getElem _⟩
   obtain⟨b,off,rfl,hb,hnc,c0,A,cap,c1,hints⟩:=HO.out k e he
   have HE:=Lib.hid he
   obtain⟨wd,fl⟩:=e
   dsimp only at c0 c1 hints
   obtain⟨fn,hfn⟩:∃fn,fn=fl.length:=⟨_,rfl⟩
   rw[←hfn]at c1 hints
   have x0:=(HQ.out.2.1.cell (p:=⟨b,off+k*2,none⟩) hb).trans c0
   have x1:=(HQ.out.2.1.cell (p:=⟨b,off+k*2+1,none⟩) hb).trans c1
   have CF:=Lib.hid (forms13_any wr _ rs A fn cap wd fl (HN.out.2.2.2.1.keep HQ.out.2.1) (hints.keep HQ.out.2.1) HN.out.2.1 (HN.out.2.2.1 _ (List.mem_of_getElem? he)) (by have:=HN.out.2.2.2.2;omega))
   obtain⟨g1,hg1⟩:∃g1,g1=gk:=⟨_,rfl⟩
   clear c0 c1 hints hfn he
   go_wp2_with (go_at_call 69;refine(CF.out).mono ?_;rintro e w1 ⟨vf,rfl,hsf,hb1⟩;obtain⟨A8,c8,rfl⟩:=strs_form hsf.at_)
   obtain⟨m,hm⟩:∃m,m=(formsL rs ⟨wd,fl⟩).length:=⟨_,rfl⟩
   have hm9:m≤40201:=by rw[hm];exact HLN.out _
   rw[←hm]at hsf⊢
   have HSF:=Lib.hid (And.intro hsf (And.intro hm hb1))
   have HP1:=Lib.hid (show StrsP w1 u6 ((es.take k).foldl (fun m e=>(formsL rs e).foldl putL m) [])∧Below w.heap.size w w1 from ⟨HQ.out.1.keep hb1,HQ.out.2.1.trans (hb1.mono HQ.out.2.1.size)⟩)
   clear hsf hm hb1 CF x0 x1
   have hk9:k*40201≤2000*40201:=Nat.mul_le_mul_right _ (by omega)
   have HM0:=Lib.hid (And.intro HQ.out.2.2 hk9)
   clear hk9
   obtain⟨M,hM⟩:∃M,M=(es.take k).foldl (fun m e=>(formsL rs e).foldl putL m) []:=⟨_,rfl⟩
   rw[←hM]at HP1 HM0
   have HMQ:=Lib.hid hM
   clear hM
   go_loopg [6,9] m (fun gh s6 s9 wq=>∃j:Nat,j+gh=m∧s9= .int .i64 j∧Hid (StrsP wq s6 (((formsL rs ⟨wd,fl⟩).take j).foldl putL M)∧Below w1.heap.size w1 wq∧(((formsL rs ⟨wd,fl⟩).take j).foldl putL M).length≤M.length+j))
   case atStart=>exact⟨0,by omega,rfl,Lib.hid ⟨HP1.out.1,Below.refl _ _,by simp⟩⟩
   case round=>
    obtain⟨j,hj,rfl,HJ⟩:=hrel
    by_cases hltj:j<m
    ·obtain⟨x,hx⟩:∃x,(formsL rs ⟨wd,fl⟩)[j]?=some x:=⟨_,List.getElem?_eq_getElem (by have:=HSF.out.2.1;omega)⟩
     obtain⟨b8,o8,rfl,hb8,hn8,c8x⟩:=strs_open HSF.out.1.at_ j x hx
     have y0:=(HJ.out.2.1.cell (p:=⟨b8,o8+j,none⟩) hb8).trans c8x
     have CP:=Lib.hid (put13_any wr u6 _ x HJ.out.1 (by have:=HJ.out.2.2;have:=HM0.out;omega))
     have HXX:=Lib.hid hx
     clear hx c8x
     go_wp2_with (go_at_call 70;refine(CP.out).mono ?_;rintro e w3 ⟨v3,rfl,hs3,hb3⟩;have HS3:=Lib.hid (And.intro hs3 (HJ.out.2.1.trans (hb3.mono HJ.out.2.1.size)));clear hs3 hb3)
     go_roundg (gk-1)
     case measure=>omega
     case rel=>exact⟨j+1,by omega,by go_num,Lib.hid (by rw[take_fold _ _ HXX.out];exact⟨HS3.out.1,HS3.out.2,by have:=HJ.out.2.2;have:=putL_length x (((formsL rs ⟨wd,fl⟩).take j).foldl putL M);omega⟩)⟩
    ·obtain rfl:j=m:=by omega
     go_wp2_with fail
     go_roundg (g1-1)
     case measure=>omega
     case rel=>
      refine⟨k+1,by omega,by go_num,Lib.hid ?_⟩
      rw[take_fold _ _ HE.out]
      have h1:=HJ.out
      rw[List.take_of_length_le (by have:=HSF.out.2.1;omega)]at h1
      refine⟨?_,HP1.out.2.trans (h1.2.1.mono HP1.out.2.size),?_⟩
      ·show StrsP _ _ ((formsL rs ⟨wd,fl⟩).foldl putL ((es.take k).foldl (fun m e=>(formsL rs e).foldl putL m) []))
       rw[←HMQ.out]
       exact h1.1
      ·show ((formsL rs ⟨wd,fl⟩).foldl putL ((es.take k).foldl (fun m e=>(formsL rs e).foldl putL m) [])).length≤_
       rw[←HMQ.out,Nat.add_mul]
       have:=h1.2.2
       have:=HM0.out.1
       omega
  ·obtain rfl:k=n:=by omega
   have hq:=HQ.out
   rw[List.take_of_length_le (by have:=HN.out.1;omega)]at hq
   have hq1:StrsP wr u6 (allF rs es):=hq.1
   obtain⟨A6,c6,rfl⟩:=strs_form hq1.at_
   obtain⟨m,hm⟩:∃m,m=(allF rs es).length:=⟨_,rfl⟩
   rw[←hm]at hq1⊢
   have HX:=Lib.hid (And.intro hq1 (And.intro hq.2.1 hm))
   by_cases hbig:(20000:Int)<m
   ·have HA:=Lib.hid (show allL rs es=([],3)by unfold allL;rw[if_neg (by omega)])
    clear hq hq1 hm
    go_wp2_with fail
    go_ret2
    rw[HA.out]
    exact⟨_,_,rfl,.inl ⟨rfl,_,_,rfl⟩,rfl,HX.out.2.1⟩
   ·have HA:=Lib.hid (show allL rs es=(allF rs es,0)by unfold allL;rw[if_pos (by omega)])
    clear hq hq1 hm
    go_wp2_with fail
    go_ret2
    rw[HA.out]
    exact⟨_,_,rfl,HX.out.1.at_,rfl,HX.out.2.1⟩
end Go.Proofs.YtfehpcbmdancoaaGreatDoor
