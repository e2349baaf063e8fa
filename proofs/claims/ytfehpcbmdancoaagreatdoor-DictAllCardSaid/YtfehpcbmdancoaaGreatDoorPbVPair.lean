/- The document's plain, pair of chapter 11 by contract. -/
import Derived.StillTailTactics
import Derived.Test.YtfehpcbmdancoaaGreatDoorPbPWords
import Derived.Test.YtfehpcbmdancoaaGreatDoorPbRefAll
import Derived.Test.YtfehpcbmdancoaaGreatDoorPbUnit
namespace Go.Proofs.YtfehpcbmdancoaaGreatDoor.Af
open Go Go.RowKit Go.Lib
set_option maxRecDepth 100000 in
set_option maxHeartbeats 1000000 in
theorem rvplain_any (k:Int)(w:World):
  Calls Tryz.prog 118 #[.int .i64 k] w fun e w'=>e= .returned (.bool (plainC k))∧w'=w:=by
 unfold plainC
 by_cases c1:65≤k
 ·by_cases c2:k≤90
  ·rw[decide_eq_true (.inl ⟨c1,c2⟩)]
   go_enter Tryz.func118,Tryz.ntmps118
   go_wp2_with fail
   go_ret
   exact⟨rfl,rfl⟩
  ·by_cases c3:97≤k
   ·by_cases c4:k≤122
    ·rw[decide_eq_true (.inr ⟨c3,c4⟩)]
     go_enter Tryz.func118,Tryz.ntmps118
     go_wp2_with fail
     go_ret
     exact⟨rfl,rfl⟩
    ·rw[decide_eq_false (by omega)]
     go_enter Tryz.func118,Tryz.ntmps118
     go_wp2_with fail
     go_ret
     exact⟨rfl,rfl⟩
   ·rw[decide_eq_false (by omega)]
    go_enter Tryz.func118,Tryz.ntmps118
    go_wp2_with fail
    go_ret
    exact⟨rfl,rfl⟩
 ·rw[decide_eq_false (by omega)]
  have c3:¬97≤k:=by omega
  go_enter Tryz.func118,Tryz.ntmps118
  go_wp2_with fail
  go_ret
  exact⟨rfl,rfl⟩
set_option maxRecDepth 100000 in
set_option maxHeartbeats 1000000 in
theorem rpair_any (w:World)(s:ByteArray)(v:Value)(ps:List (Int×Int))(h:PairsAt w v ps)(hs:s.size≤1000000000):
  Calls Tryz.prog 66 #[.string s,v] w fun e w'=>PairE e (pairL ps s.data.toList)∧Below w.heap.size w w':=by
 obtain⟨B,m,cB,rfl,hm⟩:∃B m cB,v= .slice B m cB∧m=ps.length:=by
  rcases h with ⟨rfl,a,c,rfl⟩|⟨b,off,c,rfl,_⟩
  ·exact⟨_,_,_,rfl,rfl⟩
  ·exact⟨_,_,_,rfl,rfl⟩
 have l2:=h.bd.1
 unfold maxLen at l2
 have HP:=Lib.hid (pairs_open h)
 have HM:=Lib.hid hm
 obtain⟨W0,hW0⟩:∃W0,W0=w.alloc (.cells #[.int .i64 0,.int .i64 0] 118):=⟨_,rfl⟩
 have hb0:Below w.heap.size w W0:=by rw[hW0];exact(Below.refl _ _).alloc (Nat.le_refl _) _
 have HB:=Lib.hid hb0
 have BX:=Lib.hid (show∀wx,Below W0.heap.size W0 wx→_ from fun wx hb=>And.intro (box2 (hW0▸hb)) (box2f (hW0▸hb)))
 have HW0:=Lib.hid hW0
 have hsl:s.data.toList.length=s.size:=(Lib.size_eq s).symm
 rw[←hm]at l2
 clear h hm hb0
 obtain⟨o,ho⟩:∃o,o=pairL ps s.data.toList:=⟨_,rfl⟩
 rw[←ho]
 have HO:=Lib.hid ho
 clear ho
 by_cases h6:(s.size:Int)<6
 ·have HZ:=Lib.hid (show o=none from HO.out.trans (pairL_short (by omega)))
  clear hsl
  go_enter Tryz.func66,Tryz.ntmps66
  go_upto_region 1 with fail
  rw[←HW0.out]
  clear hW0
  obtain⟨⟨x0,x1⟩,fz⟩:=BX.out W0 (Below.refl _ _)
  go_wp2_with fail
  exact bodyPost_ret (v:= .tuple #[.agg #[.int .i64 0,.int .i64 0],.bool false]) (by simp[results,Tryz.results66,go_sem,x0,x1]) rfl ⟨PairE.none HZ.out rfl,put2_below HB.out (Nat.le_refl _) _ _⟩
 have e5:(s.extract 0 5).toList=s.data.toList.take 5:=by
  rw[ByteArray.toList_eq,ByteArray.data_extract,Array.toList_extract];simp
 have hd5:(s.extract 5 s.size).data.toList=s.data.toList.drop 5:=by
  rw[ByteArray.data_extract,Array.toList_extract]
  exact List.take_of_length_le (by rw[List.length_drop];show s.data.toList.length-5≤s.size-5;omega)
 have g5:(5:Int)≤s.size:=by omega
 by_cases hc5:s.data.toList.take 5=caseW
 case neg=>
  have HZ:=Lib.hid (show o=none from HO.out.trans (pairL_head hc5))
  have hne:((s.extract 0 5).toList==[67,65,83,69,32])=false:=by rw[e5];simpa[caseW]using hc5
  clear hsl e5 hd5 hc5
  go_enter Tryz.func66,Tryz.ntmps66
  go_upto_region 1 with fail
  rw[←HW0.out]
  clear hW0
  obtain⟨⟨x0,x1⟩,fz⟩:=BX.out W0 (Below.refl _ _)
  go_wp2_with fail
  exact bodyPost_ret (v:= .tuple #[.agg #[.int .i64 0,.int .i64 0],.bool false]) (by simp[results,Tryz.results66,go_sem,x0,x1]) rfl ⟨PairE.none HZ.out rfl,put2_below HB.out (Nat.le_refl _) _ _⟩
 have hne:((s.extract 0 5).toList==[67,65,83,69,32])=true:=by rw[e5];simpa[caseW]using hc5
 have CC:=Lib.hid (rcodes_any (s.extract 5 s.size) W0 (by rw[ByteArray.size_extract];omega))
 rw[hd5]at CC
 have HC5:=Lib.hid hc5
 clear hsl e5 hd5 hc5
 go_enter Tryz.func66,Tryz.ntmps66
 go_upto_region 1 with fail
 rw[←HW0.out]
 clear hW0
 go_wp2_with (go_at_call 117;refine CC.out.mono ?_)
 rintro e w1 v1 rfl hown hb1
 have hin:=v_own hown rfl
 obtain⟨D,dc,rfl,hD⟩:=ints_open hin
 obtain⟨⟨x0,x1⟩,fz⟩:=BX.out w1 hb1
 have HX1:=Lib.hid hb1
 have HB1:=Lib.hid (HB.out.trans (hb1.mono HB.out.size))
 have CPL:=Lib.hid (fun k wx=>rvplain_any k wx)
 clear hown hin hb1 CC
 obtain⟨cs,hcs⟩:∃cs,cs=codesL (s.data.toList.drop 5):=⟨_,rfl⟩
 rw[←hcs]at hD⊢
 obtain⟨bv,hbv⟩:∃b,b=validD (s.data.toList.drop 5):=⟨_,rfl⟩
 rw[←hbv]
 have HCS:=Lib.hid (And.intro hcs hbv)
 obtain⟨n,hn⟩:∃n,n=cs.length:=⟨_,rfl⟩
 rw[←hn]at hD⊢
 have HD:=Lib.hid hD
 clear hcs hbv hD
 cases bv with
 | false=>
   have HZ:=Lib.hid (show o=none from HO.out.trans (pairL_codes (.inl HCS.out.2.symm)))
   clear hn
   go_upto_region 4 with fail
   go_quiet ((go_at_call 118;refine(CPL.out _ _).mono ?_;rintro e w5 ⟨rfl,rfl⟩;exact⟨rfl,_,rfl⟩))
   go_wp2_with fail
   exact bodyPost_ret (v:= .tuple #[.agg #[.int .i64 0,.int .i64 0],.bool false]) (by simp[results,Tryz.results66,go_sem,x0,x1]) rfl ⟨PairE.none HZ.out rfl,put2_below (below_drewN HB1.out _) (Nat.le_refl _) _ _⟩
 | true=>
   by_cases hn2:n=2
   case neg=>
    have HZ:=Lib.hid (show o=none from HO.out.trans (pairL_codes (.inr (by rw[←HCS.out.1,←hn];exact hn2))))
    have hne2:((n:Int)==2)=false:=by simp;omega
    have hne3:((n:Int) != 2)=true:=by rw[bne,hne2];rfl
    clear hn hn2
    go_upto_region 4 with fail
    go_quiet ((go_at_call 118;refine(CPL.out _ _).mono ?_;rintro e w5 ⟨rfl,rfl⟩;exact⟨rfl,_,rfl⟩))
    go_wp2_with fail
    exact bodyPost_ret (v:= .tuple #[.agg #[.int .i64 0,.int .i64 0],.bool false]) (by simp[results,Tryz.results66,go_sem,x0,x1]) rfl ⟨PairE.none HZ.out rfl,put2_below (below_drewN HB1.out _) (Nat.le_refl _) _ _⟩
   subst hn2
   obtain⟨g,t,rfl⟩:∃g t,cs=[g,t]:=by
    match cs,hn with
    | [g,t],_=>exact⟨g,t,rfl⟩
   obtain⟨q,oo,rfl,hq,hcap,c0⟩:=HD.out 0 g rfl
   obtain⟨q',oo',e,-,-,c1⟩:=HD.out 1 t rfl
   injection e with e
   injection e with e1 e2
   subst e1 e2
   have hcap2:(2:Int)≤dc:=by have:2≤dc:=hcap;omega
   simp only[Nat.add_zero]at c0
   have hO:=HO.out.trans (pairL_two HC5.out HCS.out.2.symm HCS.out.1.symm)
   clear hn hcap
   by_cases h1:g=t
   ·have HZ:=Lib.hid (show o=none from hO.trans (if_neg (by unfold okPair;rw[beq_iff_eq.2 h1];simp)))
    have d1:(g==t)=true:=by simpa using h1
    clear hO h1
    go_upto_region 4 with fail
    go_quiet ((go_at_call 118;refine(CPL.out _ _).mono ?_;rintro e w5 ⟨rfl,rfl⟩;exact⟨rfl,_,rfl⟩))
    go_wp2_with fail
    exact bodyPost_ret (v:= .tuple #[.agg #[.int .i64 0,.int .i64 0],.bool false]) (by simp[results,Tryz.results66,go_sem,x0,x1]) rfl ⟨PairE.none HZ.out rfl,put2_below (below_drewN HB1.out _) (Nat.le_refl _) _ _⟩
   have d1:(g==t)=false:=by simpa using h1
   cases h2:plainC g with
   | true=>
     have HZ:=Lib.hid (show o=none from hO.trans (if_neg (by unfold okPair;rw[h2];simp)))
     clear hO
     go_upto_region 4 with fail
     go_quiet ((go_at_call 118;refine(CPL.out _ _).mono ?_;rintro e w5 ⟨rfl,rfl⟩;exact⟨rfl,_,rfl⟩))
     go_wp2_with fail
     exact bodyPost_ret (v:= .tuple #[.agg #[.int .i64 0,.int .i64 0],.bool false]) (by simp[results,Tryz.results66,go_sem,x0,x1]) rfl ⟨PairE.none HZ.out rfl,put2_below (below_drewN HB1.out _) (Nat.le_refl _) _ _⟩
   | false=>
     cases h3:plainC t with
     | true=>
       have HZ:=Lib.hid (show o=none from hO.trans (if_neg (by unfold okPair;rw[h3];simp)))
       clear hO
       go_upto_region 4 with fail
       go_quiet ((go_at_call 118;refine(CPL.out _ _).mono ?_;rintro e w5 ⟨rfl,rfl⟩;exact⟨rfl,_,rfl⟩))
       go_wp2_with fail
       exact bodyPost_ret (v:= .tuple #[.agg #[.int .i64 0,.int .i64 0],.bool false]) (by simp[results,Tryz.results66,go_sem,x0,x1]) rfl ⟨PairE.none HZ.out rfl,put2_below (below_drewN HB1.out _) (Nat.le_refl _) _ _⟩
     | false=>
       have HO2:=Lib.hid (show o=if (!usedP ps g&& !usedP ps t)=true then some (g,t)else none by
        rw[hO];unfold okPair;rw[d1,h2,h3];rfl)
       clear hO h1
       go_upto_region 4 with fail
       go_quiet ((go_at_call 118;refine(CPL.out _ _).mono ?_;rintro e w5 ⟨rfl,rfl⟩;exact⟨rfl,_,rfl⟩))
       have hbd:Below W0.heap.size W0 (w1.drewN nq):=below_drewN HX1.out _
       have c0d:(w1.drewN nq).cell? ⟨q,oo,none⟩=some (.int .i64 g):=c0
       have c1d:(w1.drewN nq).cell? ⟨q,oo+1,none⟩=some (.int .i64 t):=c1
       have hqd:q<(w1.drewN nq).heap.size:=hq
       generalize w1.drewN nq=w2 at hbd c0d c1d hqd⊢
       have HX2:=Lib.hid hbd
       have HCG:=Lib.hid (And.intro c0d (And.intro c1d hqd))
       clear c0 c1 c0d c1d hbd x0 x1 fz hq hqd
       go_wp2_with fail
       go_loopg [8] m (fun gh i wr=>∃k:Nat,k+gh=m∧i= .int .i64 k∧Hid (Below W0.heap.size W0 wr∧Below w2.heap.size w2 wr∧usedP (ps.take k) g=false∧usedP (ps.take k) t=false))
       case atStart=>exact⟨0,by omega,rfl,Lib.hid ⟨HX2.out,Below.refl _ _,by simp[usedP],by simp[usedP]⟩⟩
       case round=>
        obtain⟨k,hk,rfl,HK⟩:=hrel
        have hk0:(0:Int)≤k:=by omega
        obtain⟨⟨x0,x1⟩,fz⟩:=BX.out wr HK.out.1
        have HRB:=Lib.hid (HB.out.trans (HK.out.1.mono HB.out.size))
        have c0:=(HK.out.2.1.cell (p:=⟨q,oo,none⟩) HCG.out.2.2).trans HCG.out.1
        have c1:=(HK.out.2.1.cell (p:=⟨q,oo+1,none⟩) HCG.out.2.2).trans HCG.out.2.1
        rcases Nat.eq_zero_or_pos gk with h0|h0
        ·have hkm:¬(k:Int)<m:=by omega
         have hfull:ps.take k=ps:=List.take_of_length_le (by have:=HM.out;omega)
         have HZ:=Lib.hid (show o=some (g,t)from HO2.out.trans (if_pos (by
          have h:=HK.out.2.2
          rw[hfull]at h
          rw[h.1,h.2];rfl)))
         clear hfull
         have z0:wr.drew.cell? ⟨q,oo,none⟩=_:=c0
         have z1:wr.drew.cell? ⟨q,oo+1,none⟩=_:=c1
         have y0:wr.drew.cell? ⟨w.heap.size,0,none⟩=_:=x0
         have y1:wr.drew.cell? ⟨w.heap.size,1,none⟩=_:=x1
         have yf:∀o,wr.drew.frozen? ⟨w.heap.size,o,none⟩=false:=fz
         have HD2:=Lib.hid (show Below w.heap.size w wr.drew from below_drewN HRB.out 1)
         go_upto_region 11 with fail
         go_still_tail 7,(by kernel_rfl)
         repeat still_step
         try refine wpStill_nil ?_
         change wpList _ _ _ _ _ wr.drew
         clear c0 c1 x0 x1 fz
         generalize wr.drew=wd at*
         go_wp2_with fail
         refine bodyPost_ret (v:= .tuple #[.agg #[.int .i64 g,.int .i64 t],.bool true]) (by simp[results,Tryz.results66,go_sem,y0,y1]) rfl ⟨?_,put2_below HD2.out (Nat.le_refl _) _ _⟩
         unfold PairE
         rw[HZ.out]
         rfl
        ·have hkm:(k:Int)<m:=by omega
         obtain⟨p,hp⟩:∃p,ps[k]?=some p:=⟨_,List.getElem?_eq_getElem (by have:=HM.out;omega)⟩
         obtain⟨b,off,rfl,hb,hc,e0,e1⟩:=HP.out k p hp
         have f0:=(HRB.out.cell (p:=⟨b,off+k*2,none⟩) hb).trans e0
         have f1:=(HRB.out.cell (p:=⟨b,off+k*2+1,none⟩) hb).trans e1
         have hm1:(m:Int)≤cB:=by omega
         obtain⟨a1,a2⟩:=p
         dsimp only at f0 f1
         clear e0 e1 hb hc
         by_cases j1:a1=g
         ·subst j1
          have d5:(a1==a1)=true:=by simp
          have HZ:=Lib.hid (show o=none from HO2.out.trans (if_neg (by rw[used_in hp (c:=a1) (.inl rfl)];simp)))
          go_upto_region 9 with fail
          go_quiet (fail)
          go_wp2_with fail
          exact bodyPost_ret (v:= .tuple #[.agg #[.int .i64 0,.int .i64 0],.bool false]) (by simp[results,Tryz.results66,go_sem,x0,x1]) rfl ⟨PairE.none HZ.out rfl,put2_below (below_drewN HRB.out _) (Nat.le_refl _) _ _⟩
         have k1:(a1==g)=false:=by simpa using j1
         by_cases j2:a1=t
         ·subst j2
          have d5:(a1==a1)=true:=by simp
          have HZ:=Lib.hid (show o=none from HO2.out.trans (if_neg (by rw[used_in hp (c:=a1) (.inl rfl)];simp)))
          go_upto_region 9 with fail
          go_quiet (fail)
          go_wp2_with fail
          exact bodyPost_ret (v:= .tuple #[.agg #[.int .i64 0,.int .i64 0],.bool false]) (by simp[results,Tryz.results66,go_sem,x0,x1]) rfl ⟨PairE.none HZ.out rfl,put2_below (below_drewN HRB.out _) (Nat.le_refl _) _ _⟩
         have k2:(a1==t)=false:=by simpa using j2
         by_cases j3:a2=g
         ·subst j3
          have d5:(a2==a2)=true:=by simp
          have HZ:=Lib.hid (show o=none from HO2.out.trans (if_neg (by rw[used_in hp (c:=a2) (.inr rfl)];simp)))
          go_upto_region 9 with fail
          go_quiet (fail)
          go_wp2_with fail
          exact bodyPost_ret (v:= .tuple #[.agg #[.int .i64 0,.int .i64 0],.bool false]) (by simp[results,Tryz.results66,go_sem,x0,x1]) rfl ⟨PairE.none HZ.out rfl,put2_below (below_drewN HRB.out _) (Nat.le_refl _) _ _⟩
         have k3:(a2==g)=false:=by simpa using j3
         by_cases j4:a2=t
         ·subst j4
          have d5:(a2==a2)=true:=by simp
          have HZ:=Lib.hid (show o=none from HO2.out.trans (if_neg (by rw[used_in hp (c:=a2) (.inr rfl)];simp)))
          go_upto_region 9 with fail
          go_quiet (fail)
          go_wp2_with fail
          exact bodyPost_ret (v:= .tuple #[.agg #[.int .i64 0,.int .i64 0],.bool false]) (by simp[results,Tryz.results66,go_sem,x0,x1]) rfl ⟨PairE.none HZ.out rfl,put2_below (below_drewN HRB.out _) (Nat.le_refl _) _ _⟩
         have k4:(a2==t)=false:=by simpa using j4
         have u1:usedP (ps.take (k+1)) g=false:=by rw[used_take hp,HK.out.2.2.1,k1,k3];rfl
         have u2:usedP (ps.take (k+1)) t=false:=by rw[used_take hp,HK.out.2.2.2,k2,k4];rfl
         have HU:=Lib.hid (And.intro u1 u2)
         clear u1 u2 hp j1 j2 j3 j4
         go_upto_region 9 with fail
         go_quiet (fail)
         have HK2:=Lib.hid (show Below W0.heap.size W0 (wr.drewN nq)∧Below w2.heap.size w2 (wr.drewN nq)∧usedP (ps.take (k+1)) g=false∧usedP (ps.take (k+1)) t=false from ⟨below_drewN HK.out.1 _,below_drewN HK.out.2.1 _,HU.out.1,HU.out.2⟩)
         go_wp2_with fail
         go_roundg (gk-1)
         case measure=>omega
         case rel=>exact⟨k+1,by omega,by go_num,HK2⟩
end Go.Proofs.YtfehpcbmdancoaaGreatDoor.Af
