/- fold.Small by contract. -/
import Derived.Deep.LoopGhost
import Derived.Deep.RegionHeld3
import Derived.BigQuiet
import Derived.Test.YtfehpcbmdancoaaGreatDoorPbFBack
import Derived.Test.YtfehpcbmdancoaaGreatDoorPbOBuild
import Derived.Test.YtfehpcbmdancoaaGreatDoorPbUnit
namespace Go.Proofs.YtfehpcbmdancoaaGreatDoor.Fo
open Go Go.RowKit Go.Lib
theorem us_cells:∀(us:List (Nat×Nat×Int)) (k:Nat) (u:Nat×Nat×Int),us[k]?=some u→
  (us.flatMap uCells)[k*3]?=some (.int .i64 u.1)∧(us.flatMap uCells)[k*3+1]?=some (.int .i64 u.2.1)∧(us.flatMap uCells)[k*3+2]?=some (.int .i64 u.2.2)
 | [],k,u,h=>by simp at h
 | x::us,0,u,h=>by
   simp at h;subst h
   simp[uCells]
 | x::us,k+1,u,h=>by
   have ih:=us_cells us k u (by simpa using h)
   have e:(x::us).flatMap uCells=uCells x++us.flatMap uCells:=rfl
   have hl:(uCells x).length=3:=rfl
   rw[e]
   refine⟨?_,?_,?_⟩
   ·rw[List.getElem?_append_right (by omega),hl,show (k+1)*3-3=k*3 by omega];exact ih.1
   ·rw[List.getElem?_append_right (by omega),hl,show (k+1)*3+1-3=k*3+1 by omega];exact ih.2.1
   ·rw[List.getElem?_append_right (by omega),hl,show (k+1)*3+2-3=k*3+2 by omega];exact ih.2.2
theorem us_open {w:World}{B:Nat}{v:Value}{us:List (Nat×Nat×Int)}(h:w.ownsRow B 86 3 v us.length (us.flatMap uCells)):
  ∃A cap,v= .slice A us.length cap∧us.length≤cap∧∀(k:Nat) u,us[k]?=some u→∃g,A=some ⟨g,0,none⟩∧B≤g∧g<w.heap.size∧w.cell? ⟨g,k*3,none⟩=some (.int .i64 u.1)∧w.cell? ⟨g,k*3+1,none⟩=some (.int .i64 u.2.1)∧w.cell? ⟨g,k*3+2,none⟩=some (.int .i64 u.2.2):=by
 have hc:= @World.ownsRow.cells _ _ _ _ _ _ _ h
 have hlt:= @World.ownsRow.lt _ _ _ _ _ _ _ h
 have add0:∀g j:Nat,(⟨g,0,none⟩:Addr).add j=⟨g,j,none⟩:=fun g j=>by unfold Addr.add;split<;>simp_all
 rcases h.2 with ⟨rfl,h0⟩|⟨g,cap,cur,rfl,hg,hgg,hnc,hcm,_⟩
 ·refine⟨none,0,by rw[h0],by omega,fun k u hk=>?_⟩
  rw[List.eq_nil_of_length_eq_zero h0]at hk
  simp at hk
 ·refine⟨_,cap,rfl,hnc,fun k u hk=>⟨g,rfl,hg,(Array.getElem?_eq_some_iff.1 hgg).1,?_,?_,?_⟩⟩
  ·have:=hc rfl _ _ (us_cells us k u hk).1;rwa[add0]at this
  ·have:=hc rfl _ _ (us_cells us k u hk).2.1;rwa[add0]at this
  ·have:=hc rfl _ _ (us_cells us k u hk).2.2;rwa[add0]at this
theorem unit_bd:∀(l:List UInt8) p,∀u∈units p l,p≤u.1∧1≤u.2.1∧u.1+u.2.1≤p+l.length∧ -256≤u.2.2∧u.2.2≤1114111:=by
 apply unit_ind (C:=fun l=>∀p,∀u∈units p l,p≤u.1∧1≤u.2.1∧u.1+u.2.1≤p+l.length∧ -256≤u.2.2∧u.2.2≤1114111)
 ·intro p u hu;simp[units_nil]at hu
 ·intro l hne ih p u hu
  have hle:=decodeL_le l hne
  have hw:=decodeL_width l
  rw[units_step p l hne]at hu
  rcases List.mem_cons.1 hu with rfl|hu
  ·refine⟨Nat.le_refl _,hw,by show p+(decodeL l).2≤_;omega,?_⟩
   have:=decodeL_rune l
   have hb:=(l.getD 0 0).toNat_lt
   show -256≤uCode l∧uCode l≤1114111
   unfold uCode
   split<;>omega
  ·have:=ih _ u hu
   rw[List.length_drop]at this
   omega
theorem unit_first:∀(l:List UInt8) p (k:Nat) u,(units p l)[k]?=some u→(u.1=p↔k=0):=by
 intro l p k u hu
 by_cases hne:l=[]
 ·subst hne;simp[units_nil]at hu
 ·rw[units_step p l hne]at hu
  have hw:=decodeL_width l
  cases k with
  | zero=>simp at hu;subst hu;simp
  | succ k=>
    rw[List.getElem?_cons_succ]at hu
    have:=(unit_bd _ _ u (List.mem_of_getElem? hu)).1
    omega
theorem cuts_at {l:List UInt8}{k:Nat}{u:Nat×Nat×Int}(h:(units 0 l)[k]?=some u):(cuts l)[k]?=some ((l.drop u.1).take u.2.1,u.2.2):=by
 simp[cuts,h]
theorem fext_list (s:ByteArray)(a n:Nat):(s.extract a (a+n)).data.toList=(s.data.toList.drop a).take n:=by
 simp[ByteArray.data_extract,List.take_drop]
def preS (ps:List (Int×Int))(s:List UInt8)(k:Nat):List UInt8:=((cuts s).take k).flatMap (pcS ps)
theorem preS_all (ps:List (Int×Int))(s:List UInt8){k:Nat}(h:(units 0 s).length≤k):preS ps s k=smallT ps s:=by
 unfold preS smallT
 rw[List.take_of_length_le (by rw[cuts_len];exact h)]
theorem preS_len (ps:List (Int×Int))(s:List UInt8)(k:Nat):(preS ps s k).length≤5*s.length:=by
 have h:=small_size ps s
 have e:smallT ps s=preS ps s k++((cuts s).drop k).flatMap (pcS ps):=by
  unfold preS smallT
  rw[←List.flatMap_append,List.take_append_drop]
 rw[e,List.length_append]at h
 omega
theorem preS_snoc {ps:List (Int×Int)}{s:List UInt8}{k:Nat}{u:Nat×Nat×Int}(h:(units 0 s)[k]?=some u):preS ps s (k+1)=preS ps s k++pcS ps ((s.drop u.1).take u.2.1,u.2.2):=by
 unfold preS
 rw[List.take_add_one,cuts_at h]
 simp
theorem byC_bytes (c:Int):byC c=(bytesOf c).data.toList:=by
 unfold byC bytesOf
 split<;>rfl
set_option maxRecDepth 100000 in
set_option maxHeartbeats 2000000 in
theorem small_any (w:World)(v:Value)(ps:List (Int×Int))(s:ByteArray)(h:PairsAt w v ps)(hn:ps.length≤1000000)(hin:∀p∈ps,I64 p.1∧I64 p.2)(hs:s.size≤1000000000):
  Calls Tryz.prog 36 #[v,.string s] w fun e w'=>e= .returned (.string ⟨(smallT ps s.data.toList).toArray⟩)∧Below w.heap.size w w':=by
 have CL:=Lib.hid (letters_any w v ps h hn hin)
 have CA:=Lib.hid (fun wx=>all_any s wx (by omega))
 obtain⟨us,hus⟩:∃us,us=units 0 s.data.toList:=⟨_,rfl⟩
 obtain⟨m,hm⟩:∃m,m=us.length:=⟨_,rfl⟩
 have hml:m≤s.size:=by rw[hm,hus,Lib.size_eq];exact units_length_le _ 0
 rw[←hus]at CA
 have HU:=Lib.hid (And.intro hus hm)
 obtain⟨A,cap,rfl⟩:=pairs_form h
 generalize ps.length=n at*
 clear h hin hus hm
 go_enter Tryz.func36,Tryz.ntmps36
 go_wp2_with fail
 refine CL.out.mono ?_
 rintro e w1 ⟨a,b,rfl,htm,hb1⟩
 have HTM:=Lib.hid (And.intro htm hb1)
 clear CL htm hb1
 go_wp2_with fail
 refine(CA.out _).mono ?_
 rintro e w2 ⟨vu,rfl,hown,hb2⟩
 obtain⟨wb,hwb⟩:∃wb,wb=(w1.alloc (.cells #[.map (some a),.map (some b)] 133)).alloc (.cells #[.pointer none,.slice none 0 0] 137):=⟨_,rfl⟩
 have q0:wb.heap[w1.heap.size]?=some (.cells #[.map (some a),.map (some b)] 133 (0,0)):=by rw[hwb];exact heap_up (heap_top _ _ rfl) _
 have q1:wb.heap[w1.heap.size+1]?=some (.cells #[.pointer none,.slice none 0 0] 137 (0,0)):=by rw[hwb];exact heap_top _ _ (by rw[World.size_alloc])
 have qs:wb.heap.size=w1.heap.size+2:=by rw[hwb];simp
 have qb:Below w1.heap.size w1 wb:=by rw[hwb];exact((Below.refl _ _).alloc (Nat.le_refl _) _).alloc (by simp) _
 rw[←hwb]at hown hb2
 clear hwb
 obtain⟨A2,cap2,rfl,hmc,hcells⟩:=us_open hown
 rw[←HU.out.2]at hmc⊢
 obtain⟨N,hN⟩:∃N,N=w2.heap.size:=⟨_,rfl⟩
 obtain⟨Q,hQ⟩:∃Q,Q=w1.heap.size:=⟨_,rfl⟩
 rw[←hQ]at q0 q1 qs⊢
 have hs2:=hb2.size
 have hw1:=HTM.out.2.size
 have r0:w2.heap[Q]?=some (.cells #[.map (some a),.map (some b)] 133 (0,0)):=(hb2.block Q (by omega)).trans q0
 have r1:w2.heap[Q+1]?=some (.cells #[.pointer none,.slice none 0 0] 137 (0,0)):=(hb2.block (Q+1) (by omega)).trans q1
 have hbw:Below w.heap.size w w2:=(HTM.out.2.trans (qb.mono hw1)).trans (hb2.mono (by omega))
 have htm2:TwoM w2 a b n ps:=(HTM.out.1.keep qb).keep hb2
 have hab:a<Q∧b<Q:=by rw[hQ];exact⟨HTM.out.1.small.lt,HTM.out.1.great.lt⟩
 have HC:=Lib.hid hcells
 have HM:=Lib.hid (And.intro hN (And.intro hQ (And.intro qs (And.intro hs2 (And.intro hw1 (And.intro r0 (And.intro hbw (And.intro htm2 hab))))))))
 have HB0:Hid (IsBu N (Q+1) (Lib.byteCells (preS ps s.data.toList 0)) w2∧OnlyAt (fun k=>k=Q+1∨N≤k) w2 w2):=Lib.hid ⟨IsBu.new r1,OnlyAt.refl _ _⟩
 clear hcells hN hQ q0 q1 qs qb hs2 hw1 r0 r1 hbw htm2 hab hown hb2 HTM CA
 go_wp2_with fail
 go_loopg [16] m (fun gh i wr=>∃(k:Nat),k+gh=m∧i= .int .i64 k∧Hid (IsBu N (Q+1) (Lib.byteCells (preS ps s.data.toList k)) wr∧OnlyAt (fun k=>k=Q+1∨N≤k) w2 wr))
 case atStart=>exact⟨0,by omega,rfl,HB0⟩
 case round=>
  obtain⟨k,hk,rfl,HB⟩:=hrel
  by_cases hlt:k<m
  ·obtain⟨u,hu⟩:∃u,us[k]?=some u:=⟨us[k]'(by have:=HU.out.2;omega),List.getElem?_eq_getElem _⟩
   obtain⟨g,rfl,hg1,hg2,c0,c1,c2⟩:=HC.out k u hu
   obtain⟨hN,hQ,qs,hs2,hw1,r0,hbw,htm2,hab⟩:=HM.out
   have hblk:∀z,z<N→z≠Q+1→wr.heap[z]?=w2.heap[z]?:=fun z hz hz2=>HB.out.2.block z (by omega) (by rintro (h|h)<;>omega)
   have hgq:=hblk g (by omega) (by omega)
   have e0:=(cell_blk hgq (k*3)).trans c0
   have e1:=(cell_blk hgq (k*3+1)).trans c1
   have e2:=(cell_blk hgq (k*3+2)).trans c2
   have hrq:=(hblk Q (by omega) (by omega)).trans r0
   have t0:wr.cell? ⟨Q,0,none⟩=some (.map (some a)):=by simp[World.cell?,hrq]
   have t1:wr.cell? ⟨Q,1,none⟩=some (.map (some b)):=by simp[World.cell?,hrq]
   have htm:TwoM wr a b n ps:=⟨htm2.small.same (hblk a (by omega) (by omega)),htm2.great.same (hblk b (by omega) (by omega))⟩
   obtain⟨ua,un,uc⟩:=u
   dsimp only at e0 e1 e2
   have hbd:=unit_bd s.data.toList 0 (ua,un,uc) (List.mem_of_getElem? (by rw[←HU.out.1];exact hu))
   rw[←Lib.size_eq]at hbd
   dsimp only at hbd
   have hsn:=preS_snoc (ps:=ps) (by rw[←HU.out.1];exact hu)
   have hpl:=preS_len ps s.data.toList k
   rw[←Lib.size_eq]at hpl
   have CS:=Lib.hid (fun wx (hb:Below wr.heap.size wr wx)=>psmall_any wx a b n ps uc (htm.keep hb) (by omega))
   have HX:=Lib.hid (And.intro hbd (And.intro hsn hpl))
   have hQw:Q<wr.heap.size:=(Array.getElem?_eq_some_iff.1 hrq).1
   clear hN hQ qs hs2 hw1 r0 hbw htm2 hab hblk hgq c0 c1 c2 hrq htm hbd hsn hpl hu hg1 hg2
   have tk1:(0:Int)≤k:=by omega
   have tk2:(k:Int)<m:=by omega
   obtain⟨wx,hwx⟩:∃wx,wx=wr.alloc (.cells #[.int .i64 ua,.int .i64 un,.int .i64 uc] 86):=⟨_,rfl⟩
   have hbx:Below wr.heap.size wr wx:=by rw[hwx];exact(Below.refl _ _).alloc (Nat.le_refl _) _
   have y0:wx.heap[wr.heap.size]?=some (.cells #[.int .i64 ua,.int .i64 un,.int .i64 uc] 86 (0,0)):=by rw[hwx];exact World.alloc_heap_new _ _
   have HWX:=Lib.hid (And.intro hwx (And.intro hbx y0))
   clear hbx y0 hwx
   go_upto_region 6 with fail
   rw[←HWX.out.1]
   obtain⟨G,hG⟩:∃G,G=wr.heap.size:=⟨_,rfl⟩
   rw[←hG]at hQw⊢
   have y0:=HWX.out.2.2
   rw[←hG]at y0
   have z0:wx.cell? ⟨G,0,none⟩=some (.int .i64 ua):=by simp[World.cell?,y0]
   have z1:wx.cell? ⟨G,1,none⟩=some (.int .i64 un):=by simp[World.cell?,y0]
   have z2:wx.cell? ⟨G,2,none⟩=some (.int .i64 uc):=by simp[World.cell?,y0]
   have p0:wx.cell? ⟨Q,0,none⟩=some (.map (some a)):=(cell_old (p:=⟨Q,0,none⟩) HWX.out.2.1 (by rw[←hG];exact hQw)).trans t0
   have p1:wx.cell? ⟨Q,1,none⟩=some (.map (some b)):=(cell_old (p:=⟨Q,1,none⟩) HWX.out.2.1 (by rw[←hG];exact hQw)).trans t1
   have HY:=Lib.hid (And.intro hG y0)
   clear hG y0 t0 t1 e0 e1 e2
   go_wp2_with fail
   refine(CS.out _ HWX.out.2.1).mono ?_
   rintro e w3 ⟨rfl,hb3⟩
   clear z0 z1 z2 p0 p1
   have hlt3:G<wx.heap.size:=(Array.getElem?_eq_some_iff.1 HY.out.2).1
   have y3:=(hb3.block G hlt3).trans HY.out.2
   have z0:w3.cell? ⟨G,0,none⟩=some (.int .i64 ua):=by simp[World.cell?,y3]
   have z1:w3.cell? ⟨G,1,none⟩=some (.int .i64 un):=by simp[World.cell?,y3]
   have hw3:Below wr.heap.size wr w3:=HWX.out.2.1.trans (hb3.mono HWX.out.2.1.size)
   have hs3:=hw3.size
   have hsr:=HB.out.2.size
   have CW:=Lib.hid (fun (t:ByteArray) (ht:t.size≤1000000000)=>writes_bu N (Q+1) _ t w3 (HB.out.1.keep hw3) (by rw[Lib.byteCells_length];have:=HX.out.2.2;omega) (by have:=HM.out.1;omega))
   have hend:∀(t:ByteArray) (w5:World),t.data.toList=pcS ps ((s.data.toList.drop ua).take un,uc)→IsBu N (Q+1) (Lib.byteCells (preS ps s.data.toList k)++Lib.strCells t) w5→OnlyAt (fun k=>k=Q+1∨N≤k) w3 w5→
     IsBu N (Q+1) (Lib.byteCells (preS ps s.data.toList (k+1))) w5∧OnlyAt (fun k=>k=Q+1∨N≤k) w2 w5:=by
    intro t w5 ht hB5 ho5
    refine⟨?_,(HB.out.2.trans (OnlyAt.of_below hw3)).trans ho5⟩
    have e1:preS ps s.data.toList (k+1)=preS ps s.data.toList k++t.data.toList:=by rw[HX.out.2.1,ht]
    rw[e1,←cells_app]
    exact hB5
   have HE:=Lib.hid hend
   clear hb3 hlt3 y3 hw3 hs3 hsr hend
   have hbd:=HX.out.1
   cases hq:smC ps uc with
   | some d=>
     have hv:smV ps uc=d:=by unfold smV;rw[hq]
     rw[hv]
     dsimp only[Option.isSome]
     have CB:=Lib.hid (fun wx=>bytes_any d wx)
     have hsz:(bytesOf d).size≤1000000000:=by
      rw[Lib.size_eq,←byC_bytes]
      unfold byC
      split
      ·have:=enc_len d;omega
      ·simp
     have hpc:(bytesOf d).data.toList=pcS ps ((s.data.toList.drop ua).take un,uc):=by
      unfold pcS;dsimp only;rw[hq];exact(byC_bytes d).symm
     have HP:=Lib.hid (And.intro hsz hpc)
     clear hv hq hsz hpc hbd
     go_wp2_with fail
     refine(CB.out _).mono ?_
     rintro e w4 ⟨rfl,rfl⟩
     go_wp2_with fail
     refine(CW.out _ HP.out.1).mono ?_
     rintro e w5 ⟨⟨v5,rfl⟩,hB5,ho5⟩
     have HF:=Lib.hid (HE.out _ w5 HP.out.2 hB5 ho5)
     clear hB5 ho5
     go_wp2_with fail
     go_roundg (gk-1)
     case measure=>omega
     case rel=>exact⟨k+1,by omega,by go_num,HF⟩
   | none=>
     dsimp only[Option.isSome]
     have hpc:(s.extract ua (ua+un)).data.toList=pcS ps ((s.data.toList.drop ua).take un,uc):=by
      unfold pcS;dsimp only;rw[hq];exact fext_list s ua un
     have hsz:(s.extract ua (ua+un)).size≤1000000000:=by rw[ByteArray.size_extract];omega
     have HP:=Lib.hid (And.intro hsz hpc)
     obtain⟨ue,hue⟩:∃ue,ue=ua+un:=⟨_,rfl⟩
     have g4:IntKind.i64.wrap ((ua:Int)+un)=(ue:Int):=by rw[hue];rw[IntWalk.i64_in _ (by omega)];omega
     rw[←hue]at HP
     have h5:ua≤ue∧ue≤s.size:=by omega
     obtain⟨h5,h6⟩:=h5
     clear hq hsz hpc hbd hue
     go_wp2_with fail
     refine(CW.out _ HP.out.1).mono ?_
     rintro e w5 ⟨⟨v5,rfl⟩,hB5,ho5⟩
     have HF:=Lib.hid (HE.out _ w5 HP.out.2 hB5 ho5)
     clear hB5 ho5
     go_wp2_with fail
     go_roundg (gk-1)
     case measure=>omega
     case rel=>exact⟨k+1,by omega,by go_num,HF⟩
  ·obtain rfl:k=m:=by omega
   obtain⟨hN,hQ,qs,hs2,hw1,r0,hbw,htm2,hab⟩:=HM.out
   have hall:preS ps s.data.toList k=smallT ps s.data.toList:=preS_all _ _ (by rw[←HU.out.1,←HU.out.2];exact Nat.le_refl _)
   have hB:=HB.out.1
   rw[hall]at hB
   have CG:=Lib.hid (string_any (Q+1) (Q+1) (smallT ps s.data.toList) wr (hB.builder (by omega)) (by have:=HB.out.2.size;omega))
   have hbe:Below w.heap.size w wr:=OnlyAt.below hbw HB.out.2 hbw.size (by rintro z (hz|hz)<;>omega)
   have HBE:=Lib.hid hbe
   clear hN hQ qs hs2 hw1 r0 hbw htm2 hab hall hB hbe
   go_wp2_with fail
   refine CG.out.mono ?_
   rintro e w5 ⟨rfl,hb5⟩
   have HX:=Lib.hid (HBE.out.trans (hb5.mono (Nat.le_of_lt (by have:=HM.out;omega))))
   clear hb5
   go_wp2_with fail
   go_ret
   exact⟨rfl,HX.out⟩
end Go.Proofs.YtfehpcbmdancoaaGreatDoor.Fo
namespace Go.Proofs.YtfehpcbmdancoaaGreatDoor.Fo
open Go Go.RowKit Go.Lib
theorem titleT_nil (ps:List (Int×Int)):titleT ps []=[]:=rfl
theorem at_first (s:ByteArray)(w:World)(hs:s.size≤1000000000)(hT:Lib.Utf8Tabs 1 2 w):
  ∃(N:Nat) (C:Int) (th:Bool),(Calls Tryz.prog 130 #[.string s,.int .i64 0] w fun e w'=>e= .returned (.tuple #[.agg #[.int .i64 0,.int .i64 N,.int .i64 C],.bool th])∧Below w.heap.size w w')∧
   ((th=false∧s.data.toList=[]∧C=0)∨(th=true∧s.data.toList≠[]∧N=(decodeL s.data.toList).2∧C=uCode s.data.toList)):=by
 by_cases h0:s.size=0
 ·refine⟨0,0,false,at_none s 0 w (.inr (by omega)) (by omega),.inl ⟨rfl,?_,rfl⟩⟩
  have:=Lib.size_eq s
  rw[h0]at this
  exact List.eq_nil_of_length_eq_zero this.symm
 ·refine⟨(decodeL s.data.toList).2,uCode s.data.toList,true,at_some s 0 w (by omega) (by omega) hT,.inr ⟨rfl,?_,rfl,rfl⟩⟩
  intro e
  have:=Lib.size_eq s
  rw[e]at this
  exact h0 this
theorem str_back (s:ByteArray):(⟨s.data.toList.toArray⟩:ByteArray)=s:=by cases s;simp
set_option maxRecDepth 100000 in
set_option maxHeartbeats 2000000 in
theorem title_any (w:World)(v:Value)(ps:List (Int×Int))(s:ByteArray)(h:PairsAt w v ps)(hn:ps.length≤1000000)(hin:∀p∈ps,I64 p.1∧I64 p.2)(hs:s.size≤1000000000)(hT:Lib.Utf8Tabs 1 2 w):
  Calls Tryz.prog 80 #[v,.string s] w fun e w'=>e= .returned (.string ⟨(titleT ps s.data.toList).toArray⟩)∧Below w.heap.size w w':=by
 have CL:=Lib.hid (fun wx (hb:Below w.heap.size w wx)=>letters_any wx v ps (h.keep hb) hn hin)
 obtain⟨A,cap,rfl⟩:=pairs_form h
 obtain⟨N,C,th,cA,hcase⟩:=at_first s w hs hT
 have hCb: -1000000000000≤C∧C≤1000000000000:=by
  rcases hcase with ⟨_,_,rfl⟩|⟨_,h1,_,rfl⟩
  ·omega
  ·have:=unit_bd s.data.toList 0 (0,(decodeL s.data.toList).2,uCode s.data.toList) (by rw[units_step 0 _ h1];exact List.mem_cons_self ..)
   dsimp only at this
   omega
 have CA:=Lib.hid cA
 have HC:=Lib.hid hcase
 have CG:=Lib.hid (fun wx a b (ht:TwoM wx a b ps.length ps)=>pgreat_any wx a b ps.length ps C ht hCb)
 generalize ps.length=n at*
 obtain⟨R,hR⟩:∃R,R=(⟨(titleT ps s.data.toList).toArray⟩:ByteArray):=⟨_,rfl⟩
 rw[←hR]
 have HR:=Lib.hid hR
 clear h hin hT cA hcase hCb hR
 go_enter Tryz.func80,Tryz.ntmps80
 go_wp2_with fail
 refine CA.out.mono ?_
 rintro e w1 ⟨rfl,hb1⟩
 obtain⟨wx,hwx⟩:∃wx,wx=w1.alloc (.cells #[.int .i64 0,.int .i64 N,.int .i64 C] 86):=⟨_,rfl⟩
 have hbx:Below w.heap.size w wx:=by rw[hwx];exact hb1.alloc hb1.size _
 have y0:wx.heap[w1.heap.size]?=some (.cells #[.int .i64 0,.int .i64 N,.int .i64 C] 86 (0,0)):=by rw[hwx];exact World.alloc_heap_new _ _
 go_upto_region 2 with fail
 rw[←hwx]
 obtain⟨G,hG⟩:∃G,G=w1.heap.size:=⟨_,rfl⟩
 rw[←hG]at y0⊢
 have hlt:G<wx.heap.size:=(Array.getElem?_eq_some_iff.1 y0).1
 have y0d:wx.drew.heap[G]?=some (.cells #[.int .i64 0,.int .i64 N,.int .i64 C] 86 (0,0)):=y0
 have z2:wx.drew.cell? ⟨G,2,none⟩=some (.int .i64 C):=by rw[Lib.cell_of_heap y0d];rfl
 have HW:=Lib.hid (And.intro hbx y0)
 have HK:=Lib.hid (show∀w2,Below wx.drew.heap.size wx.drew w2→w2.cell? ⟨G,2,none⟩=some (.int .i64 C)∧Below wx.heap.size wx w2 from fun w2 hb=>by
  have hb':Below wx.heap.size wx w2:=(Below.refl wx.heap.size wx).drew.trans hb
  have:=(hb'.block G hlt).trans y0
  exact⟨by simp[World.cell?,this],hb'⟩)
 clear hwx hbx y0 y0d hG hb1 CA
 go_region_with (first
  | (go_at_call 81;refine(CL.out _ HW.out.1.drew).mono ?_;rintro e w2 ⟨a,b,rfl,htm,hb2⟩;obtain⟨z2',hb2'⟩:=HK.out w2 hb2;have HT2:=Lib.hid (And.intro htm hb2');clear htm hb2 hb2')
  | (go_at_call 128;refine(CG.out _ _ _ HT2.out.1).mono ?_;rintro e w3 ⟨rfl,hb3⟩;have HB3:=Lib.hid hb3;clear hb3))
 all_goals
  have hb3x:Below wx.heap.size wx w3:=HT2.out.2.trans (HB3.out.mono HT2.out.2.size)
  have y3:=(hb3x.block G hlt).trans HW.out.2
  have z1:w3.cell? ⟨G,1,none⟩=some (.int .i64 N):=by rw[Lib.cell_of_heap y3];rfl
  have HBW:=Lib.hid (HW.out.1.trans (hb3x.mono HW.out.1.size))
  clear hb3x y3 z2 z2' HK
  rcases HC.out with ⟨hth,hs0,-⟩|⟨hth,hne,hN,hC⟩
  ·have hans:(⟨(titleT ps s.data.toList).toArray⟩:ByteArray)=s:=by
    rw[hs0,titleT_nil,←hs0,str_back]
   have HA:=Lib.hid hans
   subst hth
   clear hs0 hans
   go_wp2_with fail
   go_ret
   exact⟨by rw[HR.out,HA.out];rfl,HBW.out⟩
  ·subst hth
   cases hq:grC ps C with
   | none=>
     have hans:(⟨(titleT ps s.data.toList).toArray⟩:ByteArray)=s:=by
      unfold titleT
      rw[if_neg hne,←hC,hq]
     have HA:=Lib.hid hans
     dsimp only[Option.isSome]
     clear hN hC hq hans hne
     go_wp2_with fail
     go_ret
     exact⟨by rw[HR.out,HA.out];rfl,HBW.out⟩
   | some d=>
     have hv:grV ps C=d:=by unfold grV;rw[hq]
     have hNs:N≤s.size:=by rw[hN,Lib.size_eq];exact decodeL_le _ hne
     have hans:(⟨(titleT ps s.data.toList).toArray⟩:ByteArray)=bytesOf d++s.extract N s.size:=by
      unfold titleT
      rw[if_neg hne,←hC,hq,←hN,←str_back (bytesOf d++s.extract N s.size)]
      congr 2
      rw[ByteArray.data_append,Array.toList_append,Lib.extract_to_end,←byC_bytes]
     have hbl:(bytesOf d).size≤4:=by
      rw[Lib.size_eq,←byC_bytes]
      unfold byC
      split
      ·exact enc_len d
      ·simp
     have HA:=Lib.hid hans
     rw[hv]
     dsimp only[Option.isSome]
     have CB:=Lib.hid (fun wx=>(bytes_any d wx).mono fun e w' h=>(⟨h.1,h.2.symm⟩:e= .returned (.string (bytesOf d))∧w'=wx))
     have hcat:¬9223372036854775807<(bytesOf d).size+(s.extract N s.size).size:=by rw[ByteArray.size_extract];omega
     clear hN hC hq hans hne hv
     go_upto_region 5 with fail
     go_quiet ((go_at_call 85;exact Calls.quiet_of_same (CB.out _)))
     go_wp2_with fail
     go_ret
     exact⟨by rw[HR.out,HA.out];rfl,below_drewN HBW.out nq⟩
end Go.Proofs.YtfehpcbmdancoaaGreatDoor.Fo
namespace Go.Proofs.YtfehpcbmdancoaaGreatDoor.Fo
open Go Go.RowKit Go.Lib
theorem codes_take {s:List UInt8}{k:Nat}{u:Nat×Nat×Int}(h:(units 0 s)[k]?=some u):(codesT s).take (k+1)=(codesT s).take k++[u.2.2]:=by
 rw[List.take_add_one,codesT_units,List.getElem?_map,h]
 rfl
theorem greats_snoc (ps:List (Int×Int))(cs:List Int)(c:Int):greatsC ps (cs++[c])=greatsC ps cs+if (smC ps c).isSome=true then 1 else 0:=by
 unfold greatsC
 rw[List.countP_append]
 simp[List.countP_cons]
theorem smalls_snoc (ps:List (Int×Int))(cs:List Int)(c:Int):smallsC ps (cs++[c])=smallsC ps cs+if (grC ps c).isSome=true then 1 else 0:=by
 unfold smallsC
 rw[List.countP_append]
 simp[List.countP_cons]
theorem first_snoc (ps:List (Int×Int))(cs:List Int)(c:Int):firstC ps (cs++[c])=if cs=[]then(smC ps c).isSome else firstC ps cs:=by
 cases cs with
 | nil=>simp[firstC]
 | cons x t=>simp[firstC]
theorem first_turn (ps:List (Int×Int)){cs:List Int}{k ua:Nat}{c:Int}(hk:k<cs.length)(ht:cs.take (k+1)=cs.take k++[c])(hu:ua=0↔k=0):
  firstC ps (cs.take (k+1))=if (smC ps c).isSome=true then(firstC ps (cs.take k)||decide (ua=0))else firstC ps (cs.take k):=by
 rw[ht,first_snoc]
 by_cases h0:k=0
 ·subst h0
  have hua:ua=0:=hu.2 rfl
  have e:cs.take 0=[]:=rfl
  rw[e,if_pos rfl,hua]
  cases (smC ps c).isSome<;>rfl
 ·have hne:cs.take k≠[]:=by
   intro e
   have:=congrArg List.length e
   rw[List.length_take,List.length_nil]at this
   omega
  have hd:decide (ua=0)=false:=decide_eq_false (fun e=>h0 (hu.1 e))
  rw[if_neg hne,hd,Bool.or_false]
  split<;>rfl
set_option maxRecDepth 100000 in
set_option maxHeartbeats 2000000 in
theorem shape_any (w:World)(v:Value)(ps:List (Int×Int))(s:ByteArray)(h:PairsAt w v ps)(hn:ps.length≤1000000)(hin:∀p∈ps,I64 p.1∧I64 p.2)(hs:s.size≤1000000000):
  Calls Tryz.prog 73 #[v,.string s] w fun e w'=>e= .returned (.int .i64 (shapeT ps s.data.toList))∧Below w.heap.size w w':=by
 have CL:=Lib.hid (letters_any w v ps h hn hin)
 have CA:=Lib.hid (fun wx=>all_any s wx (by omega))
 obtain⟨us,hus⟩:∃us,us=units 0 s.data.toList:=⟨_,rfl⟩
 obtain⟨m,hm⟩:∃m,m=us.length:=⟨_,rfl⟩
 have hml:m≤s.size:=by rw[hm,hus,Lib.size_eq];exact units_length_le _ 0
 rw[←hus]at CA
 have hcl:(codesT s.data.toList).length=m:=by rw[codesT_units,List.length_map,←hus,←hm]
 have HU:=Lib.hid (And.intro hus (And.intro hm hcl))
 obtain⟨R,hR⟩:∃R,R=shapeT ps s.data.toList:=⟨_,rfl⟩
 rw[←hR]
 have HR:=Lib.hid hR
 obtain⟨A,cap,rfl⟩:=pairs_form h
 generalize ps.length=n at*
 clear h hin hus hm hR hcl
 go_enter Tryz.func73,Tryz.ntmps73
 go_wp2_with fail
 refine CL.out.mono ?_
 rintro e w1 ⟨a,b,rfl,htm,hb1⟩
 have HTM:=Lib.hid (And.intro htm hb1)
 clear CL htm hb1
 go_wp2_with fail
 refine(CA.out _).mono ?_
 rintro e w2 ⟨vu,rfl,hown,hb2⟩
 obtain⟨wb,hwb⟩:∃wb,wb=w1.alloc (.cells #[.map (some a),.map (some b)] 133):=⟨_,rfl⟩
 have q0:wb.heap[w1.heap.size]?=some (.cells #[.map (some a),.map (some b)] 133 (0,0)):=by rw[hwb];exact heap_top _ _ rfl
 have qs:wb.heap.size=w1.heap.size+1:=by rw[hwb];simp
 have qb:Below w1.heap.size w1 wb:=by rw[hwb];exact(Below.refl _ _).alloc (Nat.le_refl _) _
 rw[←hwb]at hown hb2
 clear hwb
 obtain⟨A2,cap2,rfl,hmc,hcells⟩:=us_open hown
 rw[←HU.out.2.1]at hmc⊢
 obtain⟨Q,hQ⟩:∃Q,Q=w1.heap.size:=⟨_,rfl⟩
 rw[←hQ]at q0 qs⊢
 have hs2:=hb2.size
 have r0:w2.heap[Q]?=some (.cells #[.map (some a),.map (some b)] 133 (0,0)):=(hb2.block Q (by omega)).trans q0
 have hbw:Below w.heap.size w w2:=(HTM.out.2.trans (qb.mono HTM.out.2.size)).trans (hb2.mono (by have:=HTM.out.2.size;omega))
 have htm2:TwoM w2 a b n ps:=(HTM.out.1.keep qb).keep hb2
 have HC:=Lib.hid hcells
 have HM:=Lib.hid (And.intro r0 (And.intro hbw htm2))
 have HB0:Hid (Below w2.heap.size w2 w2):=Lib.hid (Below.refl _ _)
 clear hcells hQ q0 qs qb hs2 r0 hbw htm2 hown hb2 HTM CA
 go_wp2_with fail
 go_loopg [6,7,8,20] m (fun gh g1 g2 g3 i wr=>∃(k gn mn:Nat) (fb:Bool),k+gh=m∧i= .int .i64 k∧g1= .int .i64 gn∧g2= .int .i64 mn∧g3= .bool fb∧gn≤k∧mn≤k∧
  Hid (gn=greatsC ps ((codesT s.data.toList).take k)∧mn=smallsC ps ((codesT s.data.toList).take k)∧fb=firstC ps ((codesT s.data.toList).take k)∧Below w2.heap.size w2 wr))
 case atStart=>exact⟨0,0,0,false,by omega,rfl,rfl,rfl,rfl,Nat.le_refl _,Nat.le_refl _,Lib.hid ⟨rfl,rfl,rfl,HB0.out⟩⟩
 case round=>
  obtain⟨k,gn,mn,fb,hk,rfl,rfl,rfl,rfl,hgk,hmk,HB⟩:=hrel
  by_cases hlt:k<m
  ·obtain⟨u,hu⟩:∃u,us[k]?=some u:=⟨us[k]'(by have:=HU.out.2.1;omega),List.getElem?_eq_getElem _⟩
   obtain⟨g,rfl,hg1,hg2,c0,c1,c2⟩:=HC.out k u hu
   obtain⟨r0,hbw,htm2⟩:=HM.out
   have hb:=HB.out.2.2.2
   have e0:=(hb.cell (p:=⟨g,k*3,none⟩) hg2).trans c0
   have e1:=(hb.cell (p:=⟨g,k*3+1,none⟩) hg2).trans c1
   have e2:=(hb.cell (p:=⟨g,k*3+2,none⟩) hg2).trans c2
   have hrq:=(hb.block Q (Array.getElem?_eq_some_iff.1 r0).1).trans r0
   have htm:TwoM wr a b n ps:=htm2.keep hb
   obtain⟨ua,un,uc⟩:=u
   dsimp only at e0 e1 e2
   have hbd:=unit_bd s.data.toList 0 (ua,un,uc) (List.mem_of_getElem? (by rw[←HU.out.1];exact hu))
   dsimp only at hbd
   have hfst:=unit_first s.data.toList 0 k (ua,un,uc) (by rw[←HU.out.1];exact hu)
   dsimp only at hfst
   have hsn:=codes_take (by rw[←HU.out.1];exact hu)
   dsimp only at hsn
   have CS:=Lib.hid (fun wx (hb:Below wr.heap.size wr wx)=>psmall_any wx a b n ps uc (htm.keep hb) (by omega))
   have CG:=Lib.hid (fun wx (hb:Below wr.heap.size wr wx)=>pgreat_any wx a b n ps uc (htm.keep hb) (by omega))
   have HX:=Lib.hid (And.intro hfst hsn)
   have tk1:(0:Int)≤k:=by omega
   have tk2:(k:Int)<m:=by omega
   obtain⟨wx,hwx⟩:∃wx,wx=wr.alloc (.cells #[.int .i64 ua,.int .i64 un,.int .i64 uc] 86):=⟨_,rfl⟩
   have hbx:Below wr.heap.size wr wx:=by rw[hwx];exact(Below.refl _ _).alloc (Nat.le_refl _) _
   have y0:wx.heap[wr.heap.size]?=some (.cells #[.int .i64 ua,.int .i64 un,.int .i64 uc] 86 (0,0)):=by rw[hwx];exact World.alloc_heap_new _ _
   have HWX:=Lib.hid (And.intro hwx (And.intro hbx (And.intro y0 hrq)))
   clear hbx y0 hwx r0 hbw htm2 hb c0 c1 c2 hrq htm hbd hsn hu hg1 hg2 hfst
   go_upto_region 6 with fail
   rw[←HWX.out.1]
   obtain⟨G,hG⟩:∃G,G=wr.heap.size:=⟨_,rfl⟩
   rw[←hG]
   have CELL:=Lib.hid (show∀wz,Below wx.heap.size wx wz→Below wr.heap.size wr wz∧wz.cell? ⟨G,0,none⟩=some (.int .i64 ua)∧wz.cell? ⟨G,2,none⟩=some (.int .i64 uc)∧wz.cell? ⟨Q,0,none⟩=some (.map (some a))∧wz.cell? ⟨Q,1,none⟩=some (.map (some b))from fun wz hz=>by
    have y0:=HWX.out.2.2.1
    rw[←hG]at y0
    have y3:=(hz.block G (Array.getElem?_eq_some_iff.1 y0).1).trans y0
    have hbz:=HWX.out.2.1.trans (hz.mono HWX.out.2.1.size)
    have y4:=(hbz.block Q (Array.getElem?_eq_some_iff.1 HWX.out.2.2.2).1).trans HWX.out.2.2.2
    exact⟨hbz,by rw[Lib.cell_of_heap y3];rfl,by rw[Lib.cell_of_heap y3];rfl,by rw[Lib.cell_of_heap y4];rfl,by rw[Lib.cell_of_heap y4];rfl⟩)
   obtain⟨-,-,z2,p0,p1⟩:=CELL.out wx (Below.refl _ _)
   clear e0 e1 e2 hG
   go_wp2_with fail
   refine(CS.out _ HWX.out.2.1).mono ?_
   rintro e w3 ⟨rfl,hb3⟩
   obtain⟨hbz3,z0,z2',p0',p1'⟩:=CELL.out w3 hb3
   have HB3:=Lib.hid (And.intro hb3 hbz3)
   clear z2 p0 p1 hb3 hbz3
   have hft:=first_turn ps (by rw[HU.out.2.2];exact hlt) HX.out.2 HX.out.1
   have hgt:greatsC ps ((codesT s.data.toList).take (k+1))=gn+if (smC ps uc).isSome=true then 1 else 0:=by rw[HX.out.2,greats_snoc,←HB.out.1]
   have hmt:smallsC ps ((codesT s.data.toList).take (k+1))=mn+if (grC ps uc).isSome=true then 1 else 0:=by rw[HX.out.2,smalls_snoc,←HB.out.2.1]
   rw[←HB.out.2.2.1]at hft
   generalize (smC ps uc).isSome=X at*
   generalize (grC ps uc).isSome=Y at*
   generalize smV ps uc=V1 at*
   have HFT:=Lib.hid (And.intro hft (And.intro hgt hmt))
   have hgw:IntKind.i64.wrap ((gn:Int)+1)=((gn+1:Nat):Int):=by rw[IntWalk.i64_in _ (by omega)];omega
   have hmw:IntKind.i64.wrap ((mn:Int)+1)=((mn+1:Nat):Int):=by rw[IntWalk.i64_in _ (by omega)];omega
   clear hft hgt hmt
   cases X
   ·go_wp2_with fail
    refine(CG.out _ HB3.out.2).mono ?_
    rintro e w4 ⟨rfl,hb4⟩
    have HB4:=Lib.hid (HB.out.2.2.2.trans ((HB3.out.2.trans (hb4.mono HB3.out.2.size)).mono HB.out.2.2.2.size))
    clear z0 z2' p0' p1' hb4
    cases Y
    ·go_wp2_with fail
     go_roundg (gk-1)
     case measure=>omega
     case rel=>exact⟨k+1,gn,mn,fb,by omega,by go_num,rfl,rfl,rfl,by omega,by omega,Lib.hid ⟨HFT.out.2.1.symm,HFT.out.2.2.symm,HFT.out.1.symm,HB4.out⟩⟩
    ·go_wp2_with fail
     go_roundg (gk-1)
     case measure=>omega
     case rel=>exact⟨k+1,gn,mn+1,fb,by omega,by go_num,rfl,rfl,rfl,by omega,by omega,Lib.hid ⟨HFT.out.2.1.symm,HFT.out.2.2.symm,HFT.out.1.symm,HB4.out⟩⟩
   ·obtain⟨f2,hf2⟩:∃f2,f2=(fb||decide (ua=0)):=⟨_,rfl⟩
    have HF2:=Lib.hid hf2
    go_upto_region 9 with fail
    go_cut [8] (fun t wz=>t= .bool f2∧wz=w3)
    case first=>
     cases fb
     ·by_cases h0:ua=0
      ·subst h0
       simp at hf2
       subst hf2
       go_wp2_with fail
       go_meet
       exact⟨rfl,rfl⟩
      ·have h1:((ua:Int)==0)=false:=by simp;omega
       simp[h0]at hf2
       subst hf2
       go_wp2_with fail
       go_meet
       exact⟨rfl,rfl⟩
     ·simp at hf2
      subst hf2
      go_wp2_with fail
      go_meet
      exact⟨rfl,rfl⟩
    case rest=>
    obtain⟨rfl,rfl⟩:=hcut
    clear hf2
    go_wp2_with fail
    refine(CG.out _ HB3.out.2).mono ?_
    rintro e w4 ⟨rfl,hb4⟩
    have HB4:=Lib.hid (HB.out.2.2.2.trans ((HB3.out.2.trans (hb4.mono HB3.out.2.size)).mono HB.out.2.2.2.size))
    clear z0 z2' p0' p1' hb4
    have HFF:=Lib.hid (HF2.out.trans HFT.out.1.symm)
    cases Y
    ·go_wp2_with fail
     go_roundg (gk-1)
     case measure=>omega
     case rel=>exact⟨k+1,gn+1,mn,f2,by omega,by go_num,rfl,rfl,rfl,by omega,by omega,Lib.hid ⟨HFT.out.2.1.symm,HFT.out.2.2.symm,HFF.out,HB4.out⟩⟩
    ·go_wp2_with fail
     go_roundg (gk-1)
     case measure=>omega
     case rel=>exact⟨k+1,gn+1,mn+1,f2,by omega,by go_num,rfl,rfl,rfl,by omega,by omega,Lib.hid ⟨HFT.out.2.1.symm,HFT.out.2.2.symm,HFF.out,HB4.out⟩⟩
  ·obtain rfl:k=m:=by omega
   have hall:(codesT s.data.toList).take k=codesT s.data.toList:=List.take_of_length_le (by rw[HU.out.2.2];exact Nat.le_refl _)
   have hans:R=shapeN gn mn fb:=by
    rw[HR.out]
    unfold shapeT shapeC
    rw[HB.out.1,HB.out.2.1,HB.out.2.2.1,hall]
   have hbe:Below w.heap.size w wr:=HM.out.2.1.trans (HB.out.2.2.2.mono HM.out.2.1.size)
   have HE:=Lib.hid (And.intro hans hbe)
   clear hall hans hbe
   by_cases h0:gn=0
   ·subst h0
    go_wp2_with fail
    go_ret
    exact⟨by rw[HE.out.1];rfl,HE.out.2⟩
   ·have g0:((gn:Int)==0)=false:=by simp;omega
    by_cases h1:gn=1
    ·subst h1
     cases fb
     ·go_wp2_with fail
      go_ret
      exact⟨by rw[HE.out.1];simp[shapeN],HE.out.2⟩
     ·go_wp2_with fail
      go_ret
      exact⟨by rw[HE.out.1];simp[shapeN],HE.out.2⟩
    ·have g1:((gn:Int)==1)=false:=by simp;omega
     have g2:decide ((1:Int)<gn)=true:=by simp;omega
     have HN:=Lib.hid (And.intro h0 h1)
     clear h0 h1
     by_cases hm0:mn=0
     ·subst hm0
      go_wp2_with fail
      go_ret
      exact⟨by rw[HE.out.1];have:=HN.out;simp[shapeN,this.1,this.2];omega,HE.out.2⟩
     ·have m0:((mn:Int)==0)=false:=by simp;omega
      have HN2:=Lib.hid hm0
      clear hm0
      go_wp2_with fail
      go_ret
      exact⟨by rw[HE.out.1];have:=HN.out;simp[shapeN,this.1,this.2,HN2.out],HE.out.2⟩
end Go.Proofs.YtfehpcbmdancoaaGreatDoor.Fo
namespace Go.Proofs.YtfehpcbmdancoaaGreatDoor.Fo
open Go Go.RowKit Go.Lib
abbrev TU (w:World):Prop:=Lib.Utf8Tabs 1 2 w
structure Prs (w:World)(v:Value)(ps:List (Int×Int)):Prop where
 at_:PairsAt w v ps
 few:ps.length≤1000000
 fit:∀p∈ps,I64 p.1∧I64 p.2
theorem Prs.keep {w w':World}{v:Value}{ps:List (Int×Int)}(h:Prs w v ps)(hb:Below w.heap.size w w'):Prs w' v ps:=⟨h.at_.keep hb,h.few,h.fit⟩
theorem fsmall {w:World}{v:Value}{ps:List (Int×Int)}(h:Prs w v ps){s t:ByteArray}(hs:s.size≤1000000000)(e:smallT ps s.data.toList=t.data.toList):
  Calls Tryz.prog 36 #[v,.string s] w fun e w'=>e= .returned (.string t)∧Below w.heap.size w w':=by
 have:=small_any w v ps s h.at_ h.few h.fit hs
 rwa[e,str_back]at this
theorem ftitle {w:World}{v:Value}{ps:List (Int×Int)}(h:Prs w v ps)(hT:TU w){s t:ByteArray}(hs:s.size≤1000000000)(e:titleT ps s.data.toList=t.data.toList):
  Calls Tryz.prog 80 #[v,.string s] w fun e w'=>e= .returned (.string t)∧Below w.heap.size w w':=by
 have:=title_any w v ps s h.at_ h.few h.fit hs hT
 rwa[e,str_back]at this
theorem fshape {w:World}{v:Value}{ps:List (Int×Int)}(h:Prs w v ps){s:ByteArray}{k:Int}(hs:s.size≤1000000000)(e:shapeT ps s.data.toList=k):
  Calls Tryz.prog 73 #[v,.string s] w fun e w'=>e= .returned (.int .i64 k)∧Below w.heap.size w w':=by
 have:=shape_any w v ps s h.at_ h.few h.fit hs
 rwa[e]at this
end Go.Proofs.YtfehpcbmdancoaaGreatDoor.Fo
namespace Go.Proofs.YtfehpcbmdancoaaGreatDoor.Fo
open Go Go.RowKit Go.Lib
theorem pw_none {α:Type}{f:α→Int}{ps:List α}{c:Int}{n:Nat}(hn:n=ps.length)(h:∀q∈ps.take n,f q≠c):ps.find? (fun q=>decide (f q=c))=none:=by
 rw[List.find?_eq_none]
 intro q hq
 have:=h q (by rw[hn,List.take_length];exact hq)
 simpa using this
theorem pw_some {α:Type}{f:α→Int}{ps:List α}{c:Int}{k:Nat}{p:α}(h:∀q∈ps.take k,f q≠c)(hk:ps[k]?=some p)(e:f p=c):ps.find? (fun q=>decide (f q=c))=some p:=by
 obtain⟨hl,hp⟩:=List.getElem?_eq_some_iff.1 hk
 have h1:ps=ps.take k++p::ps.drop (k+1):=by
  rw[←hp,←List.drop_eq_getElem_cons hl,List.take_append_drop]
 rw[h1,List.find?_append,List.find?_eq_none.2 (fun q hq=>by simpa using h q hq)]
 simp[e]
theorem pw_step {α:Type}{f:α→Int}{ps:List α}{c:Int}{k:Nat}{p:α}(h:∀q∈ps.take k,f q≠c)(hk:ps[k]?=some p)(e:f p≠c):∀q∈ps.take (k+1),f q≠c:=by
 intro q hq
 rw[List.take_add_one,hk]at hq
 rcases List.mem_append.1 hq with hq|hq
 ·exact h q hq
 ·simp at hq;rw[hq];exact e
set_option maxRecDepth 100000 in
set_option maxHeartbeats 1000000 in
theorem rsmall14 (w:World)(A:Option Addr)(n cap:Nat)(ps:List (Int×Int))(c:Int)(h:PairsAt w (.slice A n cap) ps)(hn:n=ps.length)(hn9:n≤1000000)(hc: -1000000000000≤c∧c≤1000000000000):
  Calls Tryz.prog 48 #[.slice A n cap,.int .i64 c] w fun e w'=>e= .returned (.tuple #[.int .i64 ((smC ps c).getD c),.bool (smC ps c).isSome])∧w'=w:=by
 have HP:=Lib.hid (fpairs_open h)
 obtain⟨V,hV⟩:∃V,V=(smC ps c).getD c:=⟨_,rfl⟩
 obtain⟨B,hB⟩:∃B,B=(smC ps c).isSome:=⟨_,rfl⟩
 rw[←hV,←hB]
 have HN:=Lib.hid (And.intro hn (And.intro hV hB))
 obtain⟨c1,c2⟩:=hc
 clear h hn hV hB
 go_enter Tryz.func48,Tryz.ntmps48
 go_wp2_with fail
 go_loopg [6] n (fun gh i wr=>∃k:Nat,k+gh=n∧i= .int .i64 k∧w=wr∧Hid (∀q∈ps.take k,q.1≠c))
 case atStart=>exact⟨0,by omega,rfl,rfl,Lib.hid (fun q hq=>by simp at hq)⟩
 case round=>
  obtain⟨k,hk,rfl,rfl,HK⟩:=hrel
  have k0:(0:Int)≤k:=by omega
  rcases Nat.eq_zero_or_pos gk with h0|h0
  ·have d1:¬(k:Int)<n:=by omega
   have hf:=pw_none (f:=fun q:Int×Int=>q.1) HN.out.1 (by rw[show n=k by omega];exact HK.out)
   by_cases hr:65≤c∧c≤90
   ·have e1:smC ps c=some (c-65+97):=by unfold smC;rw[hf];dsimp only;rw[if_pos hr]
    have e2:V=c+32:=by rw[HN.out.2.1];rw[e1];show c-65+97=c+32;omega
    have e3:B=true:=by rw[HN.out.2.2,e1];rfl
    have w1:IntKind.i64.wrap (c+32)=c+32:=IntWalk.i64_in _ (by omega)
    obtain⟨r1,r2⟩:=hr
    have q1:decide ((65:Int)≤c)=true:=decide_eq_true r1
    have q2:decide (c≤(90:Int))=true:=decide_eq_true r2
    clear hf e1
    subst e2 e3
    go_wp2_with fail
    go_ret2
    exact⟨rfl,rfl⟩
   ·have e1:smC ps c=none:=by unfold smC;rw[hf];dsimp only;rw[if_neg hr]
    have e2:V=c:=by rw[HN.out.2.1];rw[e1];rfl
    have e3:B=false:=by rw[HN.out.2.2,e1];rfl
    clear hf e1
    subst e2 e3
    by_cases r1:65≤V
    ·have r2:¬V≤90:=fun h=>hr ⟨r1,h⟩
     have q1:decide ((65:Int)≤V)=true:=decide_eq_true r1
     have q2:decide (V≤(90:Int))=false:=decide_eq_false r2
     go_wp2_with fail
     go_ret2
     exact⟨rfl,rfl⟩
    ·have q1:decide ((65:Int)≤V)=false:=decide_eq_false r1
     go_wp2_with fail
     go_ret2
     exact⟨rfl,rfl⟩
  ·have d1:(k:Int)<n:=by omega
   obtain⟨p,hp⟩:∃p,ps[k]?=some p:=⟨_,List.getElem?_eq_getElem (by have:=HN.out.1;omega)⟩
   obtain⟨b,off,rfl,hb,hcap,x1,x2⟩:=HP.out k p hp
   by_cases he:p.1=c
   ·have hf:=pw_some (f:=fun q:Int×Int=>q.1) HK.out hp he
    have e1:smC ps c=some p.2:=by unfold smC;rw[hf]
    have e2:V=p.2:=by rw[HN.out.2.1];rw[e1];rfl
    have e3:B=true:=by rw[HN.out.2.2,e1];rfl
    have q1:(p.1==c)=true:=by simpa using he
    clear hf e1 hp he
    subst e2 e3
    go_wp2_with fail
    go_ret2
    exact⟨rfl,rfl⟩
   ·have q1:(p.1==c)=false:=by simpa using he
    have HS:=Lib.hid (pw_step (f:=fun q:Int×Int=>q.1) HK.out hp he)
    clear hp
    go_wp2_with fail
    go_roundg (gk-1)
    case measure=>omega
    case rel=>exact⟨k+1,by omega,by go_num,rfl,HS⟩
set_option maxRecDepth 100000 in
set_option maxHeartbeats 1000000 in
theorem rgreat14 (w:World)(A:Option Addr)(n cap:Nat)(ps:List (Int×Int))(c:Int)(h:PairsAt w (.slice A n cap) ps)(hn:n=ps.length)(hn9:n≤1000000)(hc: -1000000000000≤c∧c≤1000000000000):
  Calls Tryz.prog 45 #[.slice A n cap,.int .i64 c] w fun e w'=>e= .returned (.tuple #[.int .i64 ((grC ps c).getD c),.bool (grC ps c).isSome])∧w'=w:=by
 have HP:=Lib.hid (fpairs_open h)
 obtain⟨V,hV⟩:∃V,V=(grC ps c).getD c:=⟨_,rfl⟩
 obtain⟨B,hB⟩:∃B,B=(grC ps c).isSome:=⟨_,rfl⟩
 rw[←hV,←hB]
 have HN:=Lib.hid (And.intro hn (And.intro hV hB))
 obtain⟨c1,c2⟩:=hc
 clear h hn hV hB
 go_enter Tryz.func45,Tryz.ntmps45
 go_wp2_with fail
 go_loopg [6] n (fun gh i wr=>∃k:Nat,k+gh=n∧i= .int .i64 k∧w=wr∧Hid (∀q∈ps.take k,q.2≠c))
 case atStart=>exact⟨0,by omega,rfl,rfl,Lib.hid (fun q hq=>by simp at hq)⟩
 case round=>
  obtain⟨k,hk,rfl,rfl,HK⟩:=hrel
  have k0:(0:Int)≤k:=by omega
  rcases Nat.eq_zero_or_pos gk with h0|h0
  ·have d1:¬(k:Int)<n:=by omega
   have hf:=pw_none (f:=fun q:Int×Int=>q.2) HN.out.1 (by rw[show n=k by omega];exact HK.out)
   by_cases hr:97≤c∧c≤122
   ·have e1:grC ps c=some (c-97+65):=by unfold grC;rw[hf];dsimp only;rw[if_pos hr]
    have e2:V=c-32:=by rw[HN.out.2.1];rw[e1];show c-97+65=c-32;omega
    have e3:B=true:=by rw[HN.out.2.2,e1];rfl
    have w1:IntKind.i64.wrap (c-32)=c-32:=IntWalk.i64_in _ (by omega)
    obtain⟨r1,r2⟩:=hr
    have q1:decide ((97:Int)≤c)=true:=decide_eq_true r1
    have q2:decide (c≤(122:Int))=true:=decide_eq_true r2
    clear hf e1
    subst e2 e3
    go_wp2_with fail
    go_ret2
    exact⟨rfl,rfl⟩
   ·have e1:grC ps c=none:=by unfold grC;rw[hf];dsimp only;rw[if_neg hr]
    have e2:V=c:=by rw[HN.out.2.1];rw[e1];rfl
    have e3:B=false:=by rw[HN.out.2.2,e1];rfl
    clear hf e1
    subst e2 e3
    by_cases r1:97≤V
    ·have r2:¬V≤122:=fun h=>hr ⟨r1,h⟩
     have q1:decide ((97:Int)≤V)=true:=decide_eq_true r1
     have q2:decide (V≤(122:Int))=false:=decide_eq_false r2
     go_wp2_with fail
     go_ret2
     exact⟨rfl,rfl⟩
    ·have q1:decide ((97:Int)≤V)=false:=decide_eq_false r1
     go_wp2_with fail
     go_ret2
     exact⟨rfl,rfl⟩
  ·have d1:(k:Int)<n:=by omega
   obtain⟨p,hp⟩:∃p,ps[k]?=some p:=⟨_,List.getElem?_eq_getElem (by have:=HN.out.1;omega)⟩
   obtain⟨b,off,rfl,hb,hcap,x1,x2⟩:=HP.out k p hp
   by_cases he:p.2=c
   ·have hf:=pw_some (f:=fun q:Int×Int=>q.2) HK.out hp he
    have e1:grC ps c=some p.1:=by unfold grC;rw[hf]
    have e2:V=p.1:=by rw[HN.out.2.1];rw[e1];rfl
    have e3:B=true:=by rw[HN.out.2.2,e1];rfl
    have q1:(p.2==c)=true:=by simpa using he
    clear hf e1 hp he
    subst e2 e3
    go_wp2_with fail
    go_ret2
    exact⟨rfl,rfl⟩
   ·have q1:(p.2==c)=false:=by simpa using he
    have HS:=Lib.hid (pw_step (f:=fun q:Int×Int=>q.2) HK.out hp he)
    clear hp
    go_wp2_with fail
    go_roundg (gk-1)
    case measure=>omega
    case rel=>exact⟨k+1,by omega,by go_num,rfl,HS⟩
end Go.Proofs.YtfehpcbmdancoaaGreatDoor.Fo
