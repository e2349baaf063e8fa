/- The document's plain, pair of chapter 11 by contract. -/
import Derived.StillTailTactics
import Derived.Deep.CutRange
import Derived.Deep.RegionWith
import Derived.Deep.DeepCutAuto
import Derived.Test.YtfehpcbmdancoaaGreatDoorPdPbNNew
import Derived.Test.YtfehpcbmdancoaaGreatDoorPdPbNPlain
import Derived.Test.YtfehpcbmdancoaaGreatDoorPdPbPWords
import Derived.Test.YtfehpcbmdancoaaGreatDoorPdPbSmall
set_option maxRecDepth 100000
set_option maxHeartbeats 1000000
namespace Go.Proofs.YtfehpcbmdancoaaGreatDoor.Af
open Go Go.RowKit Go.Lib
theorem rvplain_any (k:Int)(w:World):
  Calls Tryz.prog 118 #[.int .i64 k] w fun e w'=>e= .returned (.bool (plainC k))∧w'=w:=by
 unfold plainC;by_cases c1:65≤k
 ·by_cases c2:k≤90
  ·rw[decide_eq_true (.inl ⟨c1,c2⟩)];go_enter Tryz.func118,Tryz.ntmps118;go_wp2_with fail;go_ret;exact⟨rfl,rfl⟩
  ·by_cases c3:97≤k
   ·by_cases c4:k≤122
    ·rw[decide_eq_true (.inr ⟨c3,c4⟩)];go_enter Tryz.func118,Tryz.ntmps118;go_wp2_with fail;go_ret;exact⟨rfl,rfl⟩
    ·rw[decide_eq_false (by omega)];go_enter Tryz.func118,Tryz.ntmps118;go_wp2_with fail;go_ret;exact⟨rfl,rfl⟩
   ·rw[decide_eq_false (by omega)];go_enter Tryz.func118,Tryz.ntmps118;go_wp2_with fail;go_ret;exact⟨rfl,rfl⟩
 ·rw[decide_eq_false (by omega)];have c3:¬97≤k:=by omega
  go_enter Tryz.func118,Tryz.ntmps118;go_wp2_with fail;go_ret;exact⟨rfl,rfl⟩
theorem rpair_any (w:World)(s:ByteArray)(v:Value)(ps:List (Int×Int))(h:PairsAt w v ps)(hs:s.size≤1000000000):
  Calls Tryz.prog 66 #[.string s,v] w fun e w'=>PairE e (pairL ps s.data.toList)∧Below w.heap.size w w':=by
 obtain⟨B,m,cB,rfl,hm⟩:∃B m cB,v= .slice B m cB∧m=ps.length:=by
  rcases h with ⟨rfl,a,c,rfl⟩|⟨b,off,c,rfl,_⟩
  ·exact⟨_,_,_,rfl,rfl⟩
  ·exact⟨_,_,_,rfl,rfl⟩
 have l2:=h.bd.1;unfold maxLen at l2;have HP:=hid (pairs_open h);have HM:=hid hm;obtain⟨W0,hW0⟩:∃W0,W0=w.alloc (.cells #[.int .i64 0,.int .i64 0] 118):=⟨_,rfl⟩;have hb0:Below w.heap.size w W0:=by rw[hW0];exact(Below.refl _ _).alloc (Nat.le_refl _) _
 have HB:=hid hb0;have BX:=hid (show∀wx,Below W0.heap.size W0 wx→_ from fun wx hb=>And.intro (box2 (hW0▸hb)) (box2f (hW0▸hb)));have HW0:=hid hW0;have hsl:s.data.toList.length=s.size:=(Lib.size_eq s).symm;rw[←hm]at l2;clear h hm hb0;obtain⟨o,ho⟩:∃o,o=pairL ps s.data.toList:=⟨_,rfl⟩;rw[←ho];have HO:=hid ho;clear ho;by_cases h6:(s.size:Int)<6
 ·have HZ:=hid (show o=none from HO.out.trans (pairL_short (by omega)));clear hsl;go_enter Tryz.func66,Tryz.ntmps66;go_upto_region 1 with fail;rw[←HW0.out];clear hW0;obtain⟨⟨x0,x1⟩,fz⟩:=BX.out W0 (Below.refl _ _);go_wp2_with fail;exact bodyPost_ret (v:= .tuple #[.agg #[.int .i64 0,.int .i64 0],.bool false]) (by simp[results,Tryz.results66,go_sem,x0,x1]) rfl ⟨PairE.none HZ.out rfl,put2_below HB.out (Nat.le_refl _) _ _⟩
 have e5:(s.extract 0 5).toList=s.data.toList.take 5:=by
  rw[ByteArray.toList_eq,ByteArray.data_extract,Array.toList_extract];simp
 have hd5:(s.extract 5 s.size).data.toList=s.data.toList.drop 5:=by
  rw[ByteArray.data_extract,Array.toList_extract];exact List.take_of_length_le (by rw[List.length_drop];show s.data.toList.length-5≤s.size-5;omega)
 have g5:(5:Int)≤s.size:=by omega
 by_cases hc5:s.data.toList.take 5=caseW
 case neg=>
  have HZ:=hid (show o=none from HO.out.trans (pairL_head hc5));have hne:((s.extract 0 5).toList==[67,65,83,69,32])=false:=by rw[e5];simpa[caseW]using hc5
  clear hsl e5 hd5 hc5;go_enter Tryz.func66,Tryz.ntmps66;go_upto_region 1 with fail;rw[←HW0.out];clear hW0;obtain⟨⟨x0,x1⟩,fz⟩:=BX.out W0 (Below.refl _ _);go_wp2_with fail;exact bodyPost_ret (v:= .tuple #[.agg #[.int .i64 0,.int .i64 0],.bool false]) (by simp[results,Tryz.results66,go_sem,x0,x1]) rfl ⟨PairE.none HZ.out rfl,put2_below HB.out (Nat.le_refl _) _ _⟩
 have hne:((s.extract 0 5).toList==[67,65,83,69,32])=true:=by rw[e5];simpa[caseW]using hc5
 have CC:=hid (rcodes_any (s.extract 5 s.size) W0 (by rw[ByteArray.size_extract];omega));rw[hd5]at CC;have HC5:=hid hc5;clear hsl e5 hd5 hc5;go_enter Tryz.func66,Tryz.ntmps66;go_upto_region 1 with fail;rw[←HW0.out];clear hW0;go_wp2_with (go_at_call 117;refine CC.out.mono ?_);rintro e w1 v1 rfl hown hb1;have hin:=v_own hown rfl;obtain⟨D,dc,rfl,hD⟩:=ints_open hin;obtain⟨⟨x0,x1⟩,fz⟩:=BX.out w1 hb1;have HX1:=hid hb1;have HB1:=hid (HB.out.trans (hb1.mono HB.out.size));have CPL:=hid (fun k wx=>rvplain_any k wx);clear hown hin hb1 CC;obtain⟨cs,hcs⟩:∃cs,cs=codesL (s.data.toList.drop 5):=⟨_,rfl⟩;rw[←hcs]at hD⊢;obtain⟨bv,hbv⟩:∃b,b=validD (s.data.toList.drop 5):=⟨_,rfl⟩;rw[←hbv];have HCS:=hid (And.intro hcs hbv);obtain⟨n,hn⟩:∃n,n=cs.length:=⟨_,rfl⟩;rw[←hn]at hD⊢;have HD:=hid hD;clear hcs hbv hD;cases bv with
 | false=>
   have HZ:=hid (show o=none from HO.out.trans (pairL_codes (.inl HCS.out.2.symm)));clear hn;go_upto_region 4 with fail;go_quiet ((go_at_call 118;refine(CPL.out _ _).mono ?_;rintro e w5 ⟨rfl,rfl⟩;exact⟨rfl,_,rfl⟩));go_wp2_with fail;exact bodyPost_ret (v:= .tuple #[.agg #[.int .i64 0,.int .i64 0],.bool false]) (by simp[results,Tryz.results66,go_sem,x0,x1]) rfl ⟨PairE.none HZ.out rfl,put2_below (below_drewN HB1.out _) (Nat.le_refl _) _ _⟩
 | true=>
   by_cases hn2:n=2
   case neg=>
    have HZ:=hid (show o=none from HO.out.trans (pairL_codes (.inr (by rw[←HCS.out.1,←hn];exact hn2))));have hne2:((n:Int)==2)=false:=by simp;omega
    have hne3:((n:Int) != 2)=true:=by rw[bne,hne2];rfl
    clear hn hn2;go_upto_region 4 with fail;go_quiet ((go_at_call 118;refine(CPL.out _ _).mono ?_;rintro e w5 ⟨rfl,rfl⟩;exact⟨rfl,_,rfl⟩));go_wp2_with fail;exact bodyPost_ret (v:= .tuple #[.agg #[.int .i64 0,.int .i64 0],.bool false]) (by simp[results,Tryz.results66,go_sem,x0,x1]) rfl ⟨PairE.none HZ.out rfl,put2_below (below_drewN HB1.out _) (Nat.le_refl _) _ _⟩
   subst hn2;obtain⟨g,t,rfl⟩:∃g t,cs=[g,t]:=by
    match cs,hn with
    | [g,t],_=>exact⟨g,t,rfl⟩
   obtain⟨q,oo,rfl,hq,hcap,c0⟩:=HD.out 0 g rfl;obtain⟨q',oo',e,-,-,c1⟩:=HD.out 1 t rfl;injection e with e;injection e with e1 e2;subst e1 e2;have hcap2:(2:Int)≤dc:=by have:2≤dc:=hcap;omega
   simp only[Nat.add_zero]at c0;have hO:=HO.out.trans (pairL_two HC5.out HCS.out.2.symm HCS.out.1.symm);clear hn hcap;by_cases h1:g=t
   ·have HZ:=hid (show o=none from hO.trans (if_neg (by unfold okPair;rw[beq_iff_eq.2 h1];simp)));have d1:(g==t)=true:=by simpa using h1
    clear hO h1;go_upto_region 4 with fail;go_quiet ((go_at_call 118;refine(CPL.out _ _).mono ?_;rintro e w5 ⟨rfl,rfl⟩;exact⟨rfl,_,rfl⟩));go_wp2_with fail;exact bodyPost_ret (v:= .tuple #[.agg #[.int .i64 0,.int .i64 0],.bool false]) (by simp[results,Tryz.results66,go_sem,x0,x1]) rfl ⟨PairE.none HZ.out rfl,put2_below (below_drewN HB1.out _) (Nat.le_refl _) _ _⟩
   have d1:(g==t)=false:=by simpa using h1
   cases h2:plainC g with
   | true=>
     have HZ:=hid (show o=none from hO.trans (if_neg (by unfold okPair;rw[h2];simp)));clear hO;go_upto_region 4 with fail;go_quiet ((go_at_call 118;refine(CPL.out _ _).mono ?_;rintro e w5 ⟨rfl,rfl⟩;exact⟨rfl,_,rfl⟩));go_wp2_with fail;exact bodyPost_ret (v:= .tuple #[.agg #[.int .i64 0,.int .i64 0],.bool false]) (by simp[results,Tryz.results66,go_sem,x0,x1]) rfl ⟨PairE.none HZ.out rfl,put2_below (below_drewN HB1.out _) (Nat.le_refl _) _ _⟩
   | false=>
     cases h3:plainC t with
     | true=>
       have HZ:=hid (show o=none from hO.trans (if_neg (by unfold okPair;rw[h3];simp)));clear hO;go_upto_region 4 with fail;go_quiet ((go_at_call 118;refine(CPL.out _ _).mono ?_;rintro e w5 ⟨rfl,rfl⟩;exact⟨rfl,_,rfl⟩));go_wp2_with fail;exact bodyPost_ret (v:= .tuple #[.agg #[.int .i64 0,.int .i64 0],.bool false]) (by simp[results,Tryz.results66,go_sem,x0,x1]) rfl ⟨PairE.none HZ.out rfl,put2_below (below_drewN HB1.out _) (Nat.le_refl _) _ _⟩
     | false=>
       have HO2:=hid (show o=if (!usedP ps g&& !usedP ps t)=true then some (g,t)else none by
        rw[hO];unfold okPair;rw[d1,h2,h3];rfl)
       clear hO h1;go_upto_region 4 with fail;go_quiet ((go_at_call 118;refine(CPL.out _ _).mono ?_;rintro e w5 ⟨rfl,rfl⟩;exact⟨rfl,_,rfl⟩));have hbd:Below W0.heap.size W0 (w1.drewN nq):=below_drewN HX1.out _;have c0d:(w1.drewN nq).cell? ⟨q,oo,none⟩=some (.int .i64 g):=c0;have c1d:(w1.drewN nq).cell? ⟨q,oo+1,none⟩=some (.int .i64 t):=c1;have hqd:q<(w1.drewN nq).heap.size:=hq;generalize w1.drewN nq=w2 at hbd c0d c1d hqd⊢;have HX2:=hid hbd;have HCG:=hid (And.intro c0d (And.intro c1d hqd));clear c0 c1 c0d c1d hbd x0 x1 fz hq hqd;go_wp2_with fail;go_loopg [8] m (fun gh i wr=>∃k:Nat,k+gh=m∧i= .int .i64 k∧Hid (Below W0.heap.size W0 wr∧Below w2.heap.size w2 wr∧usedP (ps.take k) g=false∧usedP (ps.take k) t=false))
       case atStart=>exact⟨0,by omega,rfl,hid ⟨HX2.out,Below.refl _ _,by simp[usedP],by simp[usedP]⟩⟩
       case round=>
        obtain⟨k,hk,rfl,HK⟩:=hrel;have hk0:(0:Int)≤k:=by omega
        obtain⟨⟨x0,x1⟩,fz⟩:=BX.out wr HK.out.1;have HRB:=hid (HB.out.trans (HK.out.1.mono HB.out.size));have c0:=(HK.out.2.1.cell (p:=⟨q,oo,none⟩) HCG.out.2.2).trans HCG.out.1;have c1:=(HK.out.2.1.cell (p:=⟨q,oo+1,none⟩) HCG.out.2.2).trans HCG.out.2.1;rcases Nat.eq_zero_or_pos gk with h0|h0
        ·have hkm:¬(k:Int)<m:=by omega
         have hfull:ps.take k=ps:=List.take_of_length_le (by have:=HM.out;omega);have HZ:=hid (show o=some (g,t)from HO2.out.trans (if_pos (by
          have h:=HK.out.2.2;rw[hfull]at h;rw[h.1,h.2];rfl)))
         clear hfull;have z0:wr.drew.cell? ⟨q,oo,none⟩=_:=c0;have z1:wr.drew.cell? ⟨q,oo+1,none⟩=_:=c1;have y0:wr.drew.cell? ⟨w.heap.size,0,none⟩=_:=x0;have y1:wr.drew.cell? ⟨w.heap.size,1,none⟩=_:=x1;have yf:∀o,wr.drew.frozen? ⟨w.heap.size,o,none⟩=false:=fz;have HD2:=hid (show Below w.heap.size w wr.drew from below_drewN HRB.out 1);go_upto_region 11 with fail
         go_still_tail 7,(by kernel_rfl)
         repeat still_step
         try refine wpStill_nil ?_
         change wpList _ _ _ _ _ wr.drew;clear c0 c1 x0 x1 fz;generalize wr.drew=wd at*;go_wp2_with fail;refine bodyPost_ret (v:= .tuple #[.agg #[.int .i64 g,.int .i64 t],.bool true]) (by simp[results,Tryz.results66,go_sem,y0,y1]) rfl ⟨?_,put2_below HD2.out (Nat.le_refl _) _ _⟩;unfold PairE;rw[HZ.out];rfl
        ·have hkm:(k:Int)<m:=by omega
         obtain⟨p,hp⟩:∃p,ps[k]?=some p:=⟨_,List.getElem?_eq_getElem (by have:=HM.out;omega)⟩;obtain⟨b,off,rfl,hb,hc,e0,e1⟩:=HP.out k p hp;have f0:=(HRB.out.cell (p:=⟨b,off+k*2,none⟩) hb).trans e0;have f1:=(HRB.out.cell (p:=⟨b,off+k*2+1,none⟩) hb).trans e1;have hm1:(m:Int)≤cB:=by omega
         obtain⟨a1,a2⟩:=p;dsimp only at f0 f1;clear e0 e1 hb hc;by_cases j1:a1=g
         ·subst j1;have d5:(a1==a1)=true:=by simp
          have HZ:=hid (show o=none from HO2.out.trans (if_neg (by rw[used_in hp (c:=a1) (.inl rfl)];simp)));go_upto_region 9 with fail;go_quiet (fail);go_wp2_with fail;exact bodyPost_ret (v:= .tuple #[.agg #[.int .i64 0,.int .i64 0],.bool false]) (by simp[results,Tryz.results66,go_sem,x0,x1]) rfl ⟨PairE.none HZ.out rfl,put2_below (below_drewN HRB.out _) (Nat.le_refl _) _ _⟩
         have k1:(a1==g)=false:=by simpa using j1
         by_cases j2:a1=t
         ·subst j2;have d5:(a1==a1)=true:=by simp
          have HZ:=hid (show o=none from HO2.out.trans (if_neg (by rw[used_in hp (c:=a1) (.inl rfl)];simp)));go_upto_region 9 with fail;go_quiet (fail);go_wp2_with fail;exact bodyPost_ret (v:= .tuple #[.agg #[.int .i64 0,.int .i64 0],.bool false]) (by simp[results,Tryz.results66,go_sem,x0,x1]) rfl ⟨PairE.none HZ.out rfl,put2_below (below_drewN HRB.out _) (Nat.le_refl _) _ _⟩
         have k2:(a1==t)=false:=by simpa using j2
         by_cases j3:a2=g
         ·subst j3;have d5:(a2==a2)=true:=by simp
          have HZ:=hid (show o=none from HO2.out.trans (if_neg (by rw[used_in hp (c:=a2) (.inr rfl)];simp)));go_upto_region 9 with fail;go_quiet (fail);go_wp2_with fail;exact bodyPost_ret (v:= .tuple #[.agg #[.int .i64 0,.int .i64 0],.bool false]) (by simp[results,Tryz.results66,go_sem,x0,x1]) rfl ⟨PairE.none HZ.out rfl,put2_below (below_drewN HRB.out _) (Nat.le_refl _) _ _⟩
         have k3:(a2==g)=false:=by simpa using j3
         by_cases j4:a2=t
         ·subst j4;have d5:(a2==a2)=true:=by simp
          have HZ:=hid (show o=none from HO2.out.trans (if_neg (by rw[used_in hp (c:=a2) (.inr rfl)];simp)));go_upto_region 9 with fail;go_quiet (fail);go_wp2_with fail;exact bodyPost_ret (v:= .tuple #[.agg #[.int .i64 0,.int .i64 0],.bool false]) (by simp[results,Tryz.results66,go_sem,x0,x1]) rfl ⟨PairE.none HZ.out rfl,put2_below (below_drewN HRB.out _) (Nat.le_refl _) _ _⟩
         have k4:(a2==t)=false:=by simpa using j4
         have u1:usedP (ps.take (k+1)) g=false:=by rw[used_take hp,HK.out.2.2.1,k1,k3];rfl
         have u2:usedP (ps.take (k+1)) t=false:=by rw[used_take hp,HK.out.2.2.2,k2,k4];rfl
         have HU:=hid (And.intro u1 u2);clear u1 u2 hp j1 j2 j3 j4;go_upto_region 9 with fail;go_quiet (fail);have HK2:=hid (show Below W0.heap.size W0 (wr.drewN nq)∧Below w2.heap.size w2 (wr.drewN nq)∧usedP (ps.take (k+1)) g=false∧usedP (ps.take (k+1)) t=false from ⟨below_drewN HK.out.1 _,below_drewN HK.out.2.1 _,HU.out.1,HU.out.2⟩);go_wp2_with fail;go_roundg (gk-1)
         case measure=>omega
         case rel=>exact⟨k+1,by omega,by go_num,HK2⟩
end Go.Proofs.YtfehpcbmdancoaaGreatDoor.Af
set_option maxRecDepth 100000
set_option maxHeartbeats 8000000
namespace Go.Proofs.YtfehpcbmdancoaaGreatDoor
open Go Go.RowKit Go.Lib
theorem codesB_flags (l:List UInt8):(codesB l).isSome=validD l∧(codesB l).getD []=codesL l:=by
 unfold codesB codesL;cases validD l<;>simp
theorem rparse9_any (w:World)(s:ByteArray)(hs:s.size≤100000):
  Calls Tryz.prog 122 #[.string s] w fun e w'=>∃v,e= .returned (.tuple #[v,.bool (parseS s).isSome])∧ItemsNew w.heap.size w' v ((parseS s).getD [])∧Below w.heap.size w w':=
 rparse_any w s hs (by
  obtain⟨e1,e2⟩:=codesB_flags s.data.toList;rw[e1,e2];exact rcodes_any s w (by omega))
def put6 (w:World)(H:Nat)(a b c d e f:Value):World:=
 (((((w.setCell ⟨H,0,none⟩ a).setCell ⟨H,1,none⟩ b).setCell ⟨H,2,none⟩ c).setCell ⟨H,3,none⟩ d).setCell ⟨H,4,none⟩ e).setCell ⟨H,5,none⟩ f
theorem put6_size (w:World)(H:Nat)(a b c d e f:Value):(put6 w H a b c d e f).heap.size=w.heap.size:=by simp[put6,World.setCell]
theorem put6_block (w:World)(H:Nat)(a b c d e f:Value){k:Nat}(hk:k≠H):(put6 w H a b c d e f).heap[k]?=w.heap[k]?:=by
 unfold put6;rw[Below.heap_setCell _ _ _ _ hk,Below.heap_setCell _ _ _ _ hk,Below.heap_setCell _ _ _ _ hk,Below.heap_setCell _ _ _ _ hk,Below.heap_setCell _ _ _ _ hk,Below.heap_setCell _ _ _ _ hk]
theorem put6_below {B:Nat}{w w':World}{H:Nat}(h:Below B w w')(hB:B≤H)(a b c d e f:Value):Below B w (put6 w' H a b c d e f):=
 (((((h.setCell (p:=⟨H,0,none⟩) hB _).setCell (p:=⟨H,1,none⟩) hB _).setCell (p:=⟨H,2,none⟩) hB _).setCell (p:=⟨H,3,none⟩) hB _).setCell (p:=⟨H,4,none⟩) hB _).setCell (p:=⟨H,5,none⟩) hB _
theorem put6_items {B:Nat}{w:World}{H:Nat}{v:Value}{l:List It}(h:ItemsNew B w v l)(hB:H<B)(a b c d e f:Value):ItemsNew B (put6 w H a b c d e f) v l:=
 h.still (by rw[put6_size];exact Nat.le_refl _) fun k hk _=>put6_block _ _ _ _ _ _ _ _ (by omega)
theorem box6f {w w':World}{a b c d e f:Value}{t:TypeId}(hb:Below (w.alloc (.cells #[a,b,c,d,e,f] t)).heap.size (w.alloc (.cells #[a,b,c,d,e,f] t)) w'):∀o,w'.frozen? ⟨w.heap.size,o,none⟩=false:=by
 have h:w'.heap[w.heap.size]?=some (.cells #[a,b,c,d,e,f] t (0,0)):=(hb.block w.heap.size (by rw[World.size_alloc];omega)).trans (World.alloc_heap_new w _);intro o;simp[World.frozen?,h]
theorem parseR_len {s:ByteArray}(h:(wordsL s.data.toList).length≠6):parseR s=none:=by
 unfold parseR;split
 ·rename_i hw;rw[hw]at h;exact absurd rfl h
 ·rfl
theorem parseR_six {s:ByteArray}{a f c x y z:List UInt8}(h:wordsL s.data.toList=[a,f,c,x,y,z]):parseR s=parse6 a f c x y z:=by
 unfold parseR;rw[h]
theorem beq_lit {a:List UInt8}{A:ByteArray}(hA:A.data.toList=a)(b:List UInt8):(A.toList==b)=decide (a=b):=by
 rw[Bool.eq_iff_iff,beq_iff_eq,decide_eq_true_eq,toL_data,hA]
def RuNew (B:Nat)(w:World)(v:Value)(r:Ru):Prop:=
 ∃A cap,v= .agg #[.bool r.pre,.int .i64 r.flag,.bool r.cross,.string r.strip,.string r.add,.slice A r.cond.length cap]∧ItemsNew B w (.slice A r.cond.length cap) r.cond
theorem RuNew.at {B:Nat}{w:World}{v:Value}{r:Ru}(h:RuNew B w v r):RuAt w v r:=by
 obtain⟨A,cap,e,h1⟩:=h;exact⟨A,cap,e,h1.at⟩
def ParseN10 (w w':World)(o:Option Ru)(e:Ending):Prop:=∃v,e= .returned (.tuple #[v,.bool o.isSome])∧RuNew w.heap.size w' v (o.getD ru0)∧Below w.heap.size w w'
theorem ParseN10.no {w w':World}{o:Option Ru}(h:o=none)(hb:Below w.heap.size w w'):ParseN10 w w' o (.returned (.tuple #[.agg #[.bool false,.int .i64 0,.bool false,.string ⟨#[]⟩,.string ⟨#[]⟩,.slice none 0 0],.bool false])):=by
 subst h;exact⟨_,rfl,⟨none,0,rfl,.inl ⟨rfl,_,_,rfl⟩⟩,hb⟩
theorem rparse10_new (w:World)(s:ByteArray)(hs:s.size≤100000):
  Calls Tryz.prog 67 #[.string s] w fun e w'=>ParseN10 w w' (parseR s) e:=by
 have W:=hid (rwords_any (w.alloc (.cells #[.bool false,.int .i64 0,.bool false,.string ⟨#[]⟩,.string ⟨#[]⟩,.slice none 0 0] 123)) s (by omega));have hbA:=hid ((Below.refl w.heap.size w).alloc (Nat.le_refl _) (.cells #[.bool false,.int .i64 0,.bool false,.string ⟨#[]⟩,.string ⟨#[]⟩,.slice none 0 0] 123));have hwm:=wordsL_mem s.data.toList;have hsl:s.data.toList.length=s.size:=(Lib.size_eq s).symm;rw[hsl]at hwm;clear hsl;by_cases hn:(wordsL s.data.toList).length=6
 ·obtain⟨a,f,c,x,y,z,hws⟩:∃a f c x y z,wordsL s.data.toList=[a,f,c,x,y,z]:=by
   match wordsL s.data.toList,hn with
   | [a,f,c,x,y,z],_=>exact⟨a,f,c,x,y,z,rfl⟩
  rw[hws]at W hwm;rw[parseR_six hws];have hla:∀u∈[a,f,c,x,y,z],u.length≤s.size:=fun u hu=>(hwm u hu).2;have HLA:=hid hla;clear hwm hla hn hws;obtain⟨Z,hZ⟩:∃Z,Z=parse6 a f c x y z:=⟨_,rfl⟩;rw[←hZ];have HZ:=hid hZ;clear hZ;obtain⟨SA,hSA⟩:∃S:ByteArray,S=⟨a.toArray⟩:=⟨_,rfl⟩;obtain⟨SF,hSF⟩:∃S:ByteArray,S=⟨f.toArray⟩:=⟨_,rfl⟩;obtain⟨SC,hSC⟩:∃S:ByteArray,S=⟨c.toArray⟩:=⟨_,rfl⟩;obtain⟨SX,hSX⟩:∃S:ByteArray,S=⟨x.toArray⟩:=⟨_,rfl⟩;obtain⟨SY,hSY⟩:∃S:ByteArray,S=⟨y.toArray⟩:=⟨_,rfl⟩;obtain⟨SZ,hSZ⟩:∃S:ByteArray,S=⟨z.toArray⟩:=⟨_,rfl⟩;have hcells:wCells [a,f,c,x,y,z]=[.string SA,.string SF,.string SC,.string SX,.string SY,.string SZ]:=by rw[hSA,hSF,hSC,hSX,hSY,hSZ];rfl
  rw[hcells]at W;have dA:SA.data.toList=a:=by rw[hSA]
  have dF:SF.data.toList=f:=by rw[hSF]
  have dC:SC.data.toList=c:=by rw[hSC]
  have dX:SX.data.toList=x:=by rw[hSX]
  have dY:SY.data.toList=y:=by rw[hSY]
  have dZ:SZ.data.toList=z:=by rw[hSZ]
  have bA1:=beq_lit dA [80,70,88];have bA2:=beq_lit dA [83,70,88];have bC1:=beq_lit dC [89];have bC2:=beq_lit dC [78];have szs:SF.size≤100000∧SX.size≤100000∧SY.size≤100000∧SZ.size≤100000:=by
   refine⟨?_,?_,?_,?_⟩
   ·rw[Lib.size_eq,dF];have:=HLA.out f (by simp);omega
   ·rw[Lib.size_eq,dX];have:=HLA.out x (by simp);omega
   ·rw[Lib.size_eq,dY];have:=HLA.out y (by simp);omega
   ·rw[Lib.size_eq,dZ];have:=HLA.out z (by simp);omega
  have CF:=hid (fun wx=>rflag_any SF wx (by omega));rw[dF]at CF;have HD:=hid (And.intro dX (And.intro dY (And.intro hSZ szs)));clear hSA hSF hSC hSX hSY hSZ hcells dA dF dC dX dY dZ szs HLA;go_enter Tryz.func67,Tryz.ntmps67;go_wp2_with (go_at_call 119;refine W.out.mono ?_);rintro e w1 ⟨v,rfl,hown,hb⟩;simp only[List.length_cons,List.length_nil]at hown;obtain⟨g,cap,rfl,hg,hcap,-,hcell⟩:=own_open9 hown (by omega);have k0:=hcell 0 _ rfl;have k1:=hcell 1 _ rfl;have k2:=hcell 2 _ rfl;have k3:=hcell 3 _ rfl;have k4:=hcell 4 _ rfl;have k5:=hcell 5 _ rfl;have hgH:w.heap.size<g:=by
   have:=(hown.lt g rfl).1;rw[World.size_alloc]at this;omega
  obtain⟨x0,x1,x2,x3,x4,x5⟩:=box6 hb;have fz:=box6f hb;have HB:=hid (And.intro hb (hbA.out.trans (hb.mono hbA.out.size)));clear hown hb hcell W;by_cases hpa:a=pfx∨a=sfx
  ·by_cases hff:flagL f=0
   ·have hZ0:Z=none:=by rw[HZ.out];unfold parse6;rw[if_neg (fun h=>h.2.1 hff)]
    subst hZ0;rw[hff]at CF;have hA:decide (a=[80,70,88])=true∨(decide (a=[80,70,88])=false∧decide (a=[83,70,88])=true):=by
     by_cases h1:a=[80,70,88]
     ·exact .inl (decide_eq_true h1)
     ·exact .inr ⟨decide_eq_false h1,decide_eq_true (hpa.resolve_left h1)⟩
    rcases hA with hA|⟨hA,hA2⟩;all_goals
     clear hff hpa;go_wp2_with (go_at_call 120;refine(CF.out _).mono ?_;rintro e w2 ⟨rfl,rfl⟩);exact bodyPost_ret (v:= .tuple #[.agg #[.bool false,.int .i64 0,.bool false,.string ⟨#[]⟩,.string ⟨#[]⟩,.slice none 0 0],.bool false]) (by simp[results,Tryz.results67,go_sem,x0,x1,x2,x3,x4,x5]) rfl (ParseN10.no rfl (put6_below HB.out.2 (Nat.le_refl _) _ _ _ _ _ _))
   ·by_cases hcc:c=[89]∨c=[78]
    ·have hZ1:Z=match partL x,partL y,parseS ⟨z.toArray⟩with
      | some u,some v,some l=>some ⟨decide (a=pfx),flagL f,decide (c=[89]),u,v,l⟩
      | _,_,_=>none:=by rw[HZ.out];unfold parse6;rw[if_pos ⟨hpa,hff,hcc⟩];rfl
     have CX:=hid (fun wx=>rpart_any SX wx (by have:=HD.out.2.2.2.2.1;omega));have CY:=hid (fun wx=>rpart_any SY wx (by have:=HD.out.2.2.2.2.2.1;omega));have CZ:=hid (fun wx=>rparse9_any wx SZ HD.out.2.2.2.2.2.2);rw[HD.out.1]at CX;rw[HD.out.2.1]at CY;rw[←HD.out.2.2.1]at hZ1;obtain⟨F,hF⟩:∃F,F=flagL f:=⟨_,rfl⟩;rw[←hF]at CF hff hZ1;have hf0:(F==0)=false:=by simpa using hff
     have hA:decide (a=[80,70,88])=true∨(decide (a=[80,70,88])=false∧decide (a=[83,70,88])=true):=by
      by_cases h1:a=[80,70,88]
      ·exact .inl (decide_eq_true h1)
      ·exact .inr ⟨decide_eq_false h1,decide_eq_true (hpa.resolve_left h1)⟩
     have hC:decide (c=[89])=true∨(decide (c=[89])=false∧decide (c=[78])=true):=by
      by_cases h1:c=[89]
      ·exact .inl (decide_eq_true h1)
      ·exact .inr ⟨decide_eq_false h1,decide_eq_true (hcc.resolve_left h1)⟩
     obtain⟨pb,hpb⟩:∃p:Bool,p=decide (a=[80,70,88]):=⟨_,rfl⟩;obtain⟨qb,hqb⟩:∃p:Bool,p=decide (a=[83,70,88]):=⟨_,rfl⟩;obtain⟨cb,hcb⟩:∃p:Bool,p=decide (c=[89]):=⟨_,rfl⟩;obtain⟨nb,hnb⟩:∃p:Bool,p=decide (c=[78]):=⟨_,rfl⟩;rw[show decide (a=pfx)=decide (a=[80,70,88])from rfl]at hZ1;rw[←hpb,←hqb]at hA;rw[←hcb,←hnb]at hC;rw[←hpb]at hZ1 bA1;rw[←hqb]at bA2;rw[←hcb]at bC1 hZ1;rw[←hnb]at bC2;have HZ1:=hid hZ1;have KEEP:=hid (fun wx (hb':Below w1.heap.size w1 wx)=>(And.intro (And.intro ((hb'.cell (p:=⟨g,0,none⟩) hg).trans k0) (And.intro ((hb'.cell (p:=⟨g,1,none⟩) hg).trans k1) (And.intro ((hb'.cell (p:=⟨g,2,none⟩) hg).trans k2) (And.intro ((hb'.cell (p:=⟨g,3,none⟩) hg).trans k3) (And.intro ((hb'.cell (p:=⟨g,4,none⟩) hg).trans k4) ((hb'.cell (p:=⟨g,5,none⟩) hg).trans k5))))))
      (And.intro (box6 (HB.out.1.trans (hb'.mono HB.out.1.size))) (box6f (HB.out.1.trans (hb'.mono HB.out.1.size))))))
     clear hff hpa hcc hF hZ1 hpb hqb hcb hnb x0 x1 x2 x3 x4 x5 fz;have hcomb:(pb=true∨(pb=false∧qb=true))∧(cb=true∨(cb=false∧nb=true)):=⟨hA,hC⟩;clear hA hC;go_upto_region 2 with fail;go_cut [46] (fun t wx=>t= .bool false∧w1=wx)
     case first=>
      rcases hcomb with ⟨rfl|⟨rfl,rfl⟩,rfl|⟨rfl,rfl⟩⟩;all_goals
       go_wp2_with (go_at_call 120;refine(CF.out _).mono ?_;rintro e w2 ⟨rfl,rfl⟩);go_meet;exact⟨rfl,rfl⟩
     case rest=>
      obtain⟨rfl,rfl⟩:=hcut;go_wp2_with (go_at_call 121;refine(CX.out _).mono ?_);rintro e w2 ⟨⟨t1,rfl,ht1⟩,hb2⟩;have B2:=hid hb2;have HT1:=hid ht1;have K2:=hid (KEEP.out w2 hb2);obtain⟨⟨-,-,-,-,k4,-⟩,-⟩:=K2.out;clear hb2 ht1;go_wp2_with (go_at_call 121;refine(CY.out _).mono ?_);rintro e w3 ⟨⟨t2,rfl,ht2⟩,hb3⟩;have B3:=hid (B2.out.trans (hb3.mono B2.out.size));have HT2:=hid ht2;obtain⟨⟨-,-,-,-,-,k5⟩,-⟩:=KEEP.out w3 B3.out;clear hb3 ht2;go_wp2_with (go_at_call 122;refine(CZ.out _).mono ?_);rintro e w4 ⟨v4,rfl,hi4,hb4⟩;have B4:=hid (B3.out.trans (hb4.mono B3.out.size));have HI4:=hid (hi4.less (show w1.heap.size≤w3.heap.size from B3.out.size));obtain⟨⟨k0,k1,k2,-,-,-⟩,⟨x0,x1,x2,x3,x4,x5⟩,fz⟩:=KEEP.out w4 B4.out;have HB4:=hid (HB.out.2.trans (B4.out.mono HB.out.2.size));clear hi4 hb4;obtain⟨bx,hbx⟩:∃b,b=(partL x).isSome:=⟨_,rfl⟩;obtain⟨bY,hby⟩:∃b,b=(partL y).isSome:=⟨_,rfl⟩;obtain⟨bz,hbz⟩:∃b,b=(parseS SZ).isSome:=⟨_,rfl⟩;rw[←hbx,←hby,←hbz];by_cases hall:bx=true∧bY=true∧bz=true
      ·obtain⟨rfl,rfl,rfl⟩:=hall;obtain⟨u,hu⟩:=Option.isSome_iff_exists.1 hbx.symm;obtain⟨v,hv⟩:=Option.isSome_iff_exists.1 hby.symm;obtain⟨l,hl⟩:=Option.isSome_iff_exists.1 hbz.symm;obtain rfl:=HT1.out u hu;obtain rfl:=HT2.out v hv;have hZ2:=HZ1.out;rw[hu,hv,hl]at hZ2;dsimp only at hZ2;rw[hl]at HI4;simp only[Option.getD_some]at HI4;obtain⟨D,dc,rfl,-⟩:=items_open HI4.out.at;have HZ2:=hid hZ2;clear hZ2 hu hv hl hbx hby hbz HZ1 HT1 HT2;have y0:w4.drew.cell? ⟨g,0,none⟩=some (.string SA):=k0;have y1:w4.drew.cell? ⟨g,1,none⟩=some (.string SF):=k1;have y2:w4.drew.cell? ⟨g,2,none⟩=some (.string SC):=k2;have z0:w4.drew.cell? ⟨w.heap.size,0,none⟩=some (.bool false):=x0;have z1:w4.drew.cell? ⟨w.heap.size,1,none⟩=some (.int .i64 0):=x1;have z2:w4.drew.cell? ⟨w.heap.size,2,none⟩=some (.bool false):=x2;have z3:w4.drew.cell? ⟨w.heap.size,3,none⟩=some (.string ⟨#[]⟩):=x3;have z4:w4.drew.cell? ⟨w.heap.size,4,none⟩=some (.string ⟨#[]⟩):=x4;have z5:w4.drew.cell? ⟨w.heap.size,5,none⟩=some (.slice none 0 0):=x5;have zf:∀o,w4.drew.frozen? ⟨w.heap.size,o,none⟩=false:=fz;have HBd:=hid (show Below w.heap.size w w4.drew from below_drewN HB4.out 1);have HId:=hid (show ItemsNew w1.heap.size w4.drew (.slice D l.length dc) l from HI4.out);clear k0 k1 k2 x0 x1 x2 x3 x4 x5 fz;go_upto_region 9 with fail
       go_still_tail 16,(by kernel_rfl)
       still_call (CF.out _)
       repeat still_step
       refine wpStill_nil ?_;change wpList _ _ _ _ _ w4.drew;generalize w4.drew=wd at*;go_wp2_with fail;refine bodyPost_ret (v:= .tuple #[.agg #[.bool pb,.int .i64 F,.bool cb,.string t1,.string t2,.slice D l.length dc],.bool true]) (by simp[results,Tryz.results67,go_sem,z0,z1,z2,z3,z4,z5]) rfl ?_;rw[HZ2.out];exact⟨_,rfl,⟨D,dc,rfl,(put6_items HId.out (by have:=HB.out.1.size;rw[World.size_alloc]at this;omega) _ _ _ _ _ _).less (by have:=HB.out.1.size;rw[World.size_alloc]at this;omega)⟩,put6_below HBd.out (Nat.le_refl _) _ _ _ _ _ _⟩
      ·have HZ0:=hid (show Z=none by
        rw[HZ1.out];split
        ·rename_i h1 h2 h3;rw[h1]at hbx;rw[h2]at hby;rw[h3]at hbz;exact absurd ⟨hbx,hby,hbz⟩ hall
        ·rfl)
       obtain⟨D,dn,dc,rfl⟩:∃D dn dc,v4= .slice D dn dc:=by
        obtain⟨D,dc,e,-⟩:=items_open HI4.out.at;exact⟨D,_,dc,e⟩
       have hcs:bx=false∨(bx=true∧bY=false)∨(bx=true∧bY=true∧bz=false):=by
        cases bx<;>cases bY<;>cases bz<;>simp_all
       clear hall hbx hby hbz;rcases hcs with rfl|⟨rfl,rfl⟩|⟨rfl,rfl,rfl⟩;all_goals
        go_wp2_with fail;exact bodyPost_ret (v:= .tuple #[.agg #[.bool false,.int .i64 0,.bool false,.string ⟨#[]⟩,.string ⟨#[]⟩,.slice none 0 0],.bool false]) (by simp[results,Tryz.results67,go_sem,x0,x1,x2,x3,x4,x5]) rfl (ParseN10.no HZ0.out (put6_below HB4.out (Nat.le_refl _) _ _ _ _ _ _))
    ·have hZ0:Z=none:=by rw[HZ.out];unfold parse6;rw[if_neg (fun h=>hcc h.2.2)]
     subst hZ0;obtain⟨F,hF⟩:∃F,F=flagL f:=⟨_,rfl⟩;rw[←hF]at CF hff;have hf0:(F==0)=false:=by simpa using hff
     have hA:decide (a=[80,70,88])=true∨(decide (a=[80,70,88])=false∧decide (a=[83,70,88])=true):=by
      by_cases h1:a=[80,70,88]
      ·exact .inl (decide_eq_true h1)
      ·exact .inr ⟨decide_eq_false h1,decide_eq_true (hpa.resolve_left h1)⟩
     have hC1:decide (c=[89])=false:=decide_eq_false (fun e=>hcc (.inl e));have hC2:decide (c=[78])=false:=decide_eq_false (fun e=>hcc (.inr e));rcases hA with hA|⟨hA,hA2⟩;all_goals
      clear hff hpa hcc hF;go_wp2_with (go_at_call 120;refine(CF.out _).mono ?_;rintro e w2 ⟨rfl,rfl⟩);exact bodyPost_ret (v:= .tuple #[.agg #[.bool false,.int .i64 0,.bool false,.string ⟨#[]⟩,.string ⟨#[]⟩,.slice none 0 0],.bool false]) (by simp[results,Tryz.results67,go_sem,x0,x1,x2,x3,x4,x5]) rfl (ParseN10.no rfl (put6_below HB.out.2 (Nat.le_refl _) _ _ _ _ _ _))
  ·have hZ0:Z=none:=by rw[HZ.out];unfold parse6;rw[if_neg (fun h=>hpa h.1)]
   subst hZ0;have hA:decide (a=[80,70,88])=false:=decide_eq_false (fun e=>hpa (.inl e));have hA2:decide (a=[83,70,88])=false:=decide_eq_false (fun e=>hpa (.inr e));clear hpa;go_wp2_with fail;exact bodyPost_ret (v:= .tuple #[.agg #[.bool false,.int .i64 0,.bool false,.string ⟨#[]⟩,.string ⟨#[]⟩,.slice none 0 0],.bool false]) (by simp[results,Tryz.results67,go_sem,x0,x1,x2,x3,x4,x5]) rfl (ParseN10.no rfl (put6_below HB.out.2 (Nat.le_refl _) _ _ _ _ _ _))
 ·rw[parseR_len hn];obtain⟨n,hnn⟩:∃n,n=(wordsL s.data.toList).length:=⟨_,rfl⟩;rw[←hnn]at W hn;have h6:¬((n:Int)=6):=by omega
  clear hnn hn hwm;go_enter Tryz.func67,Tryz.ntmps67;go_wp2_with (go_at_call 119;refine W.out.mono ?_);rintro e w1 ⟨v,rfl,hown,hb⟩;obtain⟨A,cap,rfl⟩:∃A cap,v= .slice A n cap:=by
   rcases hown.2 with ⟨e,e0⟩|⟨_,_,_,e,_⟩
   ·exact⟨_,_,by rw[e,e0]⟩
   ·exact⟨_,_,e⟩
  obtain⟨x0,x1,x2,x3,x4,x5⟩:=box6 hb;have fz:=box6f hb;have HB:=hid (hbA.out.trans (hb.mono hbA.out.size));clear hown hb;go_wp2_with fail;exact bodyPost_ret (v:= .tuple #[.agg #[.bool false,.int .i64 0,.bool false,.string ⟨#[]⟩,.string ⟨#[]⟩,.slice none 0 0],.bool false]) (by simp[results,Tryz.results67,go_sem,x0,x1,x2,x3,x4,x5]) rfl (ParseN10.no rfl (put6_below HB.out (Nat.le_refl _) _ _ _ _ _ _))
end Go.Proofs.YtfehpcbmdancoaaGreatDoor
namespace Go.Proofs.YtfehpcbmdancoaaGreatDoor.Af
open Go Go.RowKit Go.Lib
theorem readA_snoc:∀(ls:List (List UInt8)) (d:Rd) (n:Nat) (l:List UInt8),readA d n (ls++[l])=stepA (readA d n ls) (n+ls.length) l
 | [],d,n,l=>by simp[readA]
 | x::ls,d,n,l=>by
   show readA (stepA d n x) (n+1) (ls++[l])=_;rw[readA_snoc ls (stepA d n x) (n+1) l,List.length_cons,show n+1+ls.length=n+(ls.length+1)by omega];rfl
theorem readA_take {ls:List (List UInt8)}{k:Nat}{l:List UInt8}(h:ls[k]?=some l):readA rd0 1 (ls.take (k+1))=stepA (readA rd0 1 (ls.take k)) (k+1) l:=by
 obtain⟨hlt,he⟩:=List.getElem?_eq_some_iff.1 h;rw[List.take_succ_eq_append_getElem hlt,he,readA_snoc,List.length_take,show 1+min k ls.length=k+1 by omega]
theorem stepA_skip {d:Rd}{n:Nat}{l:List UInt8}(h:l=[]∨l.head?=some 35):stepA d n l=d:=by unfold stepA;rw[if_pos h]
theorem stepA_two {d:Rd}{n:Nat}{l:List UInt8}{p:Int×Int}(h:¬(l=[]∨l.head?=some 35))(hp:pairL d.pairs l=some p):stepA d n l={ d with pairs:=d.pairs++[p] }:=by unfold stepA;rw[if_neg h,hp]
theorem stepA_ru {d:Rd}{n:Nat}{l:List UInt8}{r:Ru}(h:¬(l=[]∨l.head?=some 35))(hp:pairL d.pairs l=none)(hr:parseR ⟨l.toArray⟩=some r):stepA d n l={ d with rules:=d.rules++[r],at_:=d.at_++[n] }:=by unfold stepA;rw[if_neg h,hp];dsimp only;rw[hr]
theorem stepA_bad {d:Rd}{n:Nat}{l:List UInt8}(h:¬(l=[]∨l.head?=some 35))(hp:pairL d.pairs l=none)(hr:parseR ⟨l.toArray⟩=none):stepA d n l={ d with bad:=if d.bad=0 then n else d.bad }:=by unfold stepA;rw[if_neg h,hp];dsimp only;rw[hr]
theorem Tryz.infosA123:(Tryz.prog.info? 123).map (fun i=>(i.zero,i.size,i.bytes))=some (some (.agg #[.bool false,.int .i64 0,.bool false,.string ⟨#[]⟩,.string ⟨#[]⟩,.slice none 0 0]),6,80):=by kernel_rfl
theorem Tryz.infosA118:(Tryz.prog.info? 118).map (fun i=>(i.zero,i.size,i.bytes))=some (some (.agg #[.int .i64 0,.int .i64 0]),2,16):=by kernel_rfl
theorem Tryz.infosA3:(Tryz.prog.info? 3).map (fun i=>(i.zero,i.size,i.bytes))=some (some (.int .i64 0),1,8):=by kernel_rfl
theorem flag_step {rs:List Ru}{ats:List Nat}{i n:Nat}{r:Ru}(hr:rs[i]?=some r)(ha:ats[i]?=some n):flagA (rs.take i) (rs.drop i) (ats.drop i)=if clash (rs.take i) r=true then n else flagA (rs.take (i+1)) (rs.drop (i+1)) (ats.drop (i+1)):=by
 obtain⟨h1,h2⟩:=List.getElem?_eq_some_iff.1 hr;obtain⟨h3,h4⟩:=List.getElem?_eq_some_iff.1 ha;rw[List.drop_eq_getElem_cons h1,List.drop_eq_getElem_cons h3,h2,h4,List.take_succ_eq_append_getElem h1,h2];rfl
theorem clash_takeV {rs:List Ru}{k:Nat}{p r:Ru}(h:rs[k]?=some p):clash (rs.take (k+1)) r=(clash (rs.take k) r||(p.flag==r.flag&& !(p.pre==r.pre))):=by
 obtain⟨hlt,he⟩:=List.getElem?_eq_some_iff.1 h;unfold clash;rw[List.take_succ_eq_append_getElem hlt,he,List.any_append];simp
theorem clash_inV {rs:List Ru}{k:Nat}{p r:Ru}(h:rs[k]?=some p)(hc:(p.flag==r.flag&& !(p.pre==r.pre))=true):clash rs r=true:=by
 unfold clash;rw[List.any_eq_true];exact⟨p,List.mem_of_getElem? h,hc⟩
theorem ats_reads:∀(ls:List (List UInt8)) (d:Rd) (n:Nat),AtsOk d→0<n→AtsOk (readA d n ls)
 | [],_,_,h,_=>h
 | l::ls,d,n,h,hn=>ats_reads ls (stepA d n l) (n+1) (AtsOk.step h hn) (Nat.succ_pos n)
theorem ats_read (ls:List (List UInt8)):AtsOk (readA rd0 1 ls):=ats_reads ls rd0 1 ⟨rfl,fun n h=>by simp[rd0]at h⟩ (by decide)
theorem linesL_len:∀(s:List UInt8),(linesL s).length≤s.length
 | []=>Nat.le_refl _
 | b::r=>by
   have ih:=linesL_len r;rw[linesL_cons];by_cases hb:b=10
   ·rw[if_pos hb,List.length_cons,List.length_cons];omega
   ·rw[if_neg hb];cases he:linesL r with
    | nil=>simp
    | cons x t=>rw[he,List.length_cons]at ih;rw[List.length_cons,List.length_cons];omega
theorem wCells_at {ls:List (List UInt8)}{k:Nat}{l:List UInt8}(h:ls[k]?=some l):(wCells ls)[k]?=some (.string ⟨l.toArray⟩):=by
 unfold wCells;rw[List.getElem?_map,h];rfl
theorem AQ.prowAt {w0 w:World}{HA:Nat}{F:Nat→Prop}{rv pv tv:Value}{xs:List Value}{d:Rd}(h:AQ w0 w HA F rv pv tv xs d):PairsAt w pv d.pairs:=by
 obtain⟨A,c,B,c',e,_,h2⟩:=h.reads;injection e with e;simp only[Array.mk.injEq,List.cons.injEq,and_true]at e;rw[e.2];exact h2
theorem AQ.boxc {w0 w:World}{HA:Nat}{F:Nat→Prop}{rv pv tv:Value}{xs:List Value}{d:Rd}(h:AQ w0 w HA F rv pv tv xs d):w.cell? ⟨HA,0,none⟩=some rv∧w.cell? ⟨HA,1,none⟩=some pv∧∀o,w.frozen? ⟨HA,o,none⟩=false:=by
 refine⟨?_,?_,fun o=>?_⟩<;>simp[World.cell?,World.frozen?,h.box]
theorem AQ.forms {w0 w:World}{HA:Nat}{F:Nat→Prop}{rv pv tv:Value}{xs:List Value}{d:Rd}(h:AQ w0 w HA F rv pv tv xs d):∃A c B c',rv= .slice A d.rules.length c∧pv= .slice B d.pairs.length c':=by
 obtain⟨A,c,B,c',e,_,_⟩:=h.reads;injection e with e;simp only[Array.mk.injEq,List.cons.injEq,and_true]at e;exact⟨A,c,B,c',e.1,e.2⟩
theorem AQ.fz4 {w0 w w4:World}{HA:Nat}{F:Nat→Prop}{rv pv tv:Value}{xs:List Value}{d:Rd}{ow:Option Nat}(h:AQ w0 w HA F rv pv tv xs d)(hg:w.grownBy w4 ow)(hne:∀g,ow=some g→HA+1≤g):w4.cell? ⟨HA,0,none⟩=some rv∧w4.cell? ⟨HA,1,none⟩=some pv∧∀o,w4.frozen? ⟨HA,o,none⟩=false:=by
 have hb:=(hg.block HA (Array.getElem?_eq_some_iff.1 h.box).1 (fun e=>by have:=hne HA e.symm;omega)).trans h.box;refine⟨?_,?_,fun o=>?_⟩<;>simp[World.cell?,World.frozen?,hb]
theorem AQ.trow4 {w0 w w4:World}{HA:Nat}{F:Nat→Prop}{rv pv tv:Value}{xs:List Value}{d:Rd}(h:AQ w0 w HA F rv pv tv xs d)(hg:w.grownBy w4 rv.ownBlock):w4.ownsRow (HA+1) 3 1 tv d.at_.length (d.at_.map fun n=> .int .i64 (n:Nat)):=by
 refine h.trow.kept hg ?_;cases hr:tv.ownBlock with
 | none=>exact .inl rfl
 | some g=>exact .inr fun e=>own_types h.trow h.rrow (by decide) g hr e.symm
theorem AQ.two {w0 w w4 w5:World}{o:Obj}{HA:Nat}{F:Nat→Prop}{rv pv tv:Value}{xs:List Value}{d:Rd}(h:AQ w0 w HA F rv pv tv xs d)(hg:w.grownBy w4 rv.ownBlock)(hg2:(w4.alloc o).grownBy w5 tv.ownBlock):
  w5.cell? ⟨HA,0,none⟩=some rv∧w5.cell? ⟨HA,1,none⟩=some pv∧∀o,w5.frozen? ⟨HA,o,none⟩=false:=by
 have hlt:=(Array.getElem?_eq_some_iff.1 h.box).1;have hb:=(hg.block HA hlt (fun e=>by have:=(h.rrow.lt HA e.symm).1;omega)).trans h.box;have hlt4:=(Array.getElem?_eq_some_iff.1 hb).1;have hb2:=(hg2.block HA (by rw[World.size_alloc];omega) (fun e=>by have:=(h.trow.lt HA e.symm).1;omega)).trans ((Below.heap_alloc w4 o HA hlt4).trans hb);refine⟨?_,?_,fun o=>?_⟩<;>simp[World.cell?,World.frozen?,hb2]
theorem AQ.rule2 {w0 w w4 w5:World}{o:Obj}{HA:Nat}{F:Nat→Prop}{rv pv tv rv' tv':Value}{xs:List Value}{d:Rd}{r:Ru}{A:Option Addr}{cap k:Nat}(h:AQ w0 w HA F rv pv tv xs d)(hi:ItemsIn F w (.slice A r.cond.length cap) r.cond)
  (hown:w4.ownsRow (HA+1) 123 6 rv' (d.rules.length+1) (xs++[.bool r.pre,.int .i64 r.flag,.bool r.cross,.string r.strip,.string r.add,.slice A r.cond.length cap])) (hg:w.grownBy w4 rv.ownBlock) (hw:rv'.ownBlock=rv.ownBlock∨∀g,rv'.ownBlock=some g→w.heap.size≤g)
  (hown2:w5.ownsRow (HA+1) 3 1 tv' (d.at_.length+1) ((d.at_.map fun n=> .int .i64 (n:Nat))++[.int .i64 ((k:Int)+1)])) (hg2:(w4.alloc o).grownBy w5 tv.ownBlock) (hw2:tv'.ownBlock=tv.ownBlock∨∀g,tv'.ownBlock=some g→(w4.alloc o).heap.size≤g):
  AQ w0 (w5.setCell ⟨HA,0,none⟩ rv') HA F rv' pv tv' (xs++[.bool r.pre,.int .i64 r.flag,.bool r.cross,.string r.strip,.string r.add,.slice A r.cond.length cap]) { d with rules:=d.rules++[r],at_:=d.at_++[k+1] }:=by
 refine h.rule (n:=k+1) hi hown hg hw ?_ ((World.grownBy_alloc w4 o _).trans hg2) (hw2.imp id fun h1 g hgg=>?_)
 ·rw[show (((k+1:Nat)):Int)=(k:Int)+1 by omega];exact hown2
 ·have:=h1 g hgg;rw[World.size_alloc]at this;omega
theorem rule_one (a:Bool)(b:Int)(c:Bool)(x y:ByteArray)(A:Option Addr)(n cp:Nat):∀u∈[Value.bool a,.int .i64 b,.bool c,.string x,.string y,.slice A n cp],u.oneCell'=true:=by
 intro u hu;simp only[List.mem_cons,List.not_mem_nil,or_false]at hu;rcases hu with rfl|rfl|rfl|rfl|rfl|rfl<;>rfl
theorem int_one (a:Int):∀u∈[Value.int .i64 a],u.oneCell'=true:=by
 intro u hu;simp only[List.mem_cons,List.not_mem_nil,or_false]at hu;subst hu;rfl
theorem AQ.hi {w0 w:World}{HA:Nat}{F:Nat→Prop}{rv pv tv:Value}{xs:List Value}{d:Rd}(h:AQ w0 w HA F rv pv tv xs d):HA+1≤w.heap.size:=(Array.getElem?_eq_some_iff.1 h.box).1
theorem pair_one (a b:Int):∀u∈[Value.int .i64 a,.int .i64 b],u.oneCell'=true:=by
 intro u hu;simp only[List.mem_cons,List.not_mem_nil,or_false]at hu;rcases hu with rfl|rfl<;>rfl
theorem stepA_count {d:Rd}{n:Nat}{l:List UInt8}:(stepA d n l).pairs.length≤d.pairs.length+1∧(stepA d n l).rules.length≤d.rules.length+1∧(stepA d n l).at_.length≤d.at_.length+1:=by
 unfold stepA;split
 ·simp
 ·split
  ·simp
  ·split<;>simp
theorem readA_count:∀(ls:List (List UInt8)) (d:Rd) (n:Nat),(readA d n ls).pairs.length≤d.pairs.length+ls.length∧(readA d n ls).rules.length≤d.rules.length+ls.length∧(readA d n ls).at_.length≤d.at_.length+ls.length
 | [],d,n=>by simp[readA]
 | l::ls,d,n=>by
   have h1:= @stepA_count d n l;have h2:=readA_count ls (stepA d n l) (n+1);show (readA (stepA d n l) (n+1) ls).pairs.length≤_∧(readA (stepA d n l) (n+1) ls).rules.length≤_∧(readA (stepA d n l) (n+1) ls).at_.length≤_;rw[List.length_cons];omega
theorem AQ.start (w:World):AQ w (w.alloc (.cells #[.slice none 0 0,.slice none 0 0] 57)) w.heap.size (fun _=>False) (.slice none 0 0) (.slice none 0 0) (.slice none 0 0) [] rd0:=
 ⟨World.alloc_heap_new w _,World.ownsRow_nil _ _ _ _,RulesIn.nil _ _,World.ownsRow_nil _ _ _ _,World.ownsRow_nil _ _ _ _,fun _ h=>h.elim,Nat.le_refl _,(Below.refl _ _).alloc (Nat.le_refl _) _⟩
theorem AQ.low {w0 w:World}{HA:Nat}{F:Nat→Prop}{rv pv tv:Value}{xs:List Value}{d:Rd}(h:AQ w0 w HA F rv pv tv xs d){q o:Nat}{v:Value}(hq:w0.heap.size≤q)(hlt:q<HA):AQ w0 (w.setCell ⟨q,o,none⟩ v) HA F rv pv tv xs d:=by
 refine⟨(set_other _ _ _ _ (by omega)).trans h.box,own_blk h.rrow fun g hg=>set_other _ _ _ _ ?_,h.rules.still (by rw[set_size];exact Nat.le_refl _) fun b hF _=>set_other _ _ _ _ ?_,own_blk h.prow fun g hg=>set_other _ _ _ _ ?_,own_blk h.trow fun g hg=>set_other _ _ _ _ ?_,fun b hF=>by rw[set_size];exact h.foot b hF,h.base,h.below.setCell (p:=⟨q,o,none⟩) hq _⟩
 ·have:=(h.rrow.lt g hg).1;omega
 ·have:=(h.foot b hF).1;omega
 ·have:=(h.prow.lt g hg).1;omega
 ·have:=(h.trow.lt g hg).1;omega
theorem AQ.sooner {w0 w1 w:World}{HA:Nat}{F:Nat→Prop}{rv pv tv:Value}{xs:List Value}{d:Rd}(h:AQ w1 w HA F rv pv tv xs d)(hb:Below w0.heap.size w0 w1):AQ w0 w HA F rv pv tv xs d:=
 ⟨h.box,h.rrow,h.rules,h.prow,h.trow,h.foot,Nat.le_trans hb.size h.base,hb.trans (h.below.mono hb.size)⟩
def ParseAE (w w':World)(o:Af×Nat×Int)(e:Ending):Prop:=∃v,e= .returned (.tuple #[v,.int .i64 (o.2.1:Nat),.int .i64 o.2.2])∧AffAt w' v o.1∧Below w.heap.size w w'
theorem ParseAE.no {w w':World}{o:Af×Nat×Int}{n:Nat}{c:Int}(h:o=(af0,n,c))(hb:Below w.heap.size w w'):ParseAE w w' o (.returned (.tuple #[.agg #[.slice none 0 0,.slice none 0 0],.int .i64 n,.int .i64 c])):=by
 subst h;exact⟨_,rfl,⟨none,0,none,0,rfl,.inl ⟨rfl,_,_,rfl⟩,.inl ⟨rfl,_,_,rfl⟩⟩,hb⟩
theorem rparseA_any (w:World)(s:ByteArray)(hs:s.size≤1000000000):
  Calls Tryz.prog 32 #[.string s] w fun e w'=>ParseAE w w' (parseA s) e:=by
 obtain⟨W0,hW0⟩:∃W0,W0=w.alloc (.cells #[.slice none 0 0,.slice none 0 0] 57):=⟨_,rfl⟩;have hb0:Below w.heap.size w W0:=by rw[hW0];exact(Below.refl _ _).alloc (Nat.le_refl _) _
 have HB:=hid hb0;have BX:=hid (show∀wx,Below W0.heap.size W0 wx→_ from fun wx hb=>And.intro (box2 (hW0▸hb)) (box2f (hW0▸hb)));have HW0:=hid hW0;have hH0:w.heap.size<W0.heap.size:=by rw[hW0,World.size_alloc];omega
 by_cases hbig:(65536:Int)<s.size
 ·have HZ:=hid (show parseA s=(af0,0,3)by unfold parseA;rw[if_pos (by omega)]);clear hb0 hH0;go_enter Tryz.func32,Tryz.ntmps32;go_upto_region 1 with fail;rw[←HW0.out];clear hW0;obtain⟨⟨x0,x1⟩,fz⟩:=BX.out W0 (Below.refl _ _);go_wp2_with fail;exact bodyPost_ret (v:= .tuple #[.agg #[.slice none 0 0,.slice none 0 0],.int .i64 (0:Nat),.int .i64 3]) (by simp[results,Tryz.results32,go_sem,x0,x1]) rfl (ParseAE.no HZ.out (put2_below HB.out (Nat.le_refl _) _ _))
 have CL:=hid (rlines_any W0 s hs);obtain⟨ls,hls⟩:∃ls,ls=linesL s.data.toList:=⟨_,rfl⟩;have hlen:∀l∈ls,l.length≤65536:=fun l hl=>by
  have h1:=linesL_sum s.data.toList;rw[←hls]at h1;have h2:=mem_sum ls l hl;have h3:s.data.toList.length=s.size:=(Lib.size_eq s).symm;omega
 have hnum:ls.length≤65536:=by
  have h1:=linesL_len s.data.toList;rw[←hls]at h1;have h3:s.data.toList.length=s.size:=(Lib.size_eq s).symm;omega
 have HP:=hid (show parseA s=endA (readA rd0 1 ls)by unfold parseA;rw[if_neg (by omega),hls]);rw[←hls]at CL;have HL:=hid (And.intro hlen hnum);obtain⟨n,hn⟩:∃n,n=ls.length:=⟨_,rfl⟩;rw[←hn]at CL;have HN:=hid hn;clear hb0 hls hlen hnum hn;obtain⟨i1,hi1,hz10,hz11,hz12⟩:=info_parts Tryz.infosA123;obtain⟨i2,hi2,hz20,hz21,hz22⟩:=info_parts Tryz.infosA118;obtain⟨i3,hi3,hz30,hz31,hz32⟩:=info_parts Tryz.infosA3;go_enter Tryz.func32,Tryz.ntmps32;go_upto_region 1 with fail;rw[←HW0.out];clear hW0;go_wp2_with (go_at_call 65;refine CL.out.mono ?_;rintro e w1 ⟨v,rfl,hown,hb1⟩;have HO:=hid (And.intro hown hb1);clear hown hb1);have HW1:=hid (show _ from(HO.out.2:Below W0.heap.size W0 w1));have hmn:n≤65536:=by have:=HL.out.2;have:=HN.out;omega
 obtain⟨A,cap,rfl,hA⟩:∃A cap,v= .slice A n cap∧(0<n→∃g,A=some ⟨g,0,none⟩∧g<w1.heap.size∧n≤cap∧∀k l,ls[k]?=some l→w1.cell? ⟨g,k,none⟩=some (.string ⟨l.toArray⟩)):=by
  rcases Nat.eq_zero_or_pos n with h0|h0
  ·rcases HO.out.1.2 with ⟨rfl,e⟩|⟨q,cap,cur,rfl,_⟩
   ·exact⟨none,0,by rw[h0],fun h=>by omega⟩
   ·exact⟨_,cap,rfl,fun h=>by omega⟩
  ·obtain⟨g,cap,rfl,hg,hnc,_,hcell⟩:=own_open9 HO.out.1 h0;exact⟨_,cap,rfl,fun _=>⟨g,rfl,hg,hnc,fun k l hl=>hcell k _ (wCells_at hl)⟩⟩
 have HV:=hid hA;have HQ0:=hid (AQ.start w1);clear hA HO;go_loopg [7,8,9] n (fun gh tv bv i wr=>∃(k:Nat) (F:Nat→Prop) (rv pv:Value) (xs:List Value) (d:Rd),k+gh=n∧i= .int .i64 k∧bv= .int .i64 (d.bad:Nat)∧Hid (AQ w1 wr w1.heap.size F rv pv tv xs d∧d=readA rd0 1 (ls.take k)∧d.bad≤k))
 case atStart=>exact⟨0,_,_,_,_,rd0,by omega,rfl,rfl,hid ⟨HQ0.out,rfl,Nat.le_refl _⟩⟩
 case round=>
  obtain⟨k,F,rv,pv,xs,d,hk,rfl,rfl,HK⟩:=hrel;have hk0:(0:Int)≤k:=by omega
  obtain⟨b0,b1,bf⟩:=HK.out.1.boxc;rcases Nat.eq_zero_or_pos gk with h0|h0
  ·have hkm:¬(k:Int)<n:=by omega
   have hfull:ls.take k=ls:=List.take_of_length_le (by have:=HN.out;omega);have hd:=HK.out.2.1;rw[hfull]at hd;have HPD:=hid (show parseA s=endA d by rw[HP.out,hd]);have HQ:=hid HK.out.1;have HW:=hid (show∀wx,Below wr.heap.size wr wx→Below W0.heap.size W0 wx from fun wx hb=>HW1.out.trans ((HK.out.1.below.trans (hb.mono HK.out.1.below.size)).mono HW1.out.size));have HAC:=hid (show AtsOk d by rw[hd];exact ats_read ls);obtain⟨RA,cR,RB,cR',rfl,rfl⟩:=HK.out.1.forms;obtain⟨⟨x0,x1⟩,fz⟩:=BX.out wr (HW.out wr (Below.refl _ _));have HBW:=hid (show∀wx,Below W0.heap.size W0 wx→Below w.heap.size w wx from fun wx hb=>HB.out.trans (hb.mono HB.out.size));obtain⟨rn,hrn⟩:∃n,n=d.rules.length:=⟨_,rfl⟩;obtain⟨pn,hpn⟩:∃n,n=d.pairs.length:=⟨_,rfl⟩;have HRN:=hid (And.intro hrn hpn);rw[←hrn]at b0;rw[←hpn]at b1;rw[←hrn,←hpn]at HQ;obtain⟨b,hbd⟩:∃n,n=d.bad:=⟨_,rfl⟩;rw[←hbd];have HBD:=hid hbd;clear HK hd hfull hrn hpn hbd HV;by_cases h1:200<rn
   ·have HZ:=hid (show parseA s=(af0,0,3)from HPD.out.trans (endA_big (d:=d) 0 [] (.inl (by have:=HRN.out.1;omega))));have e1:(200:Int)<rn:=by omega
    go_wp2_with fail;exact bodyPost_ret (v:= .tuple #[.agg #[.slice none 0 0,.slice none 0 0],.int .i64 (0:Nat),.int .i64 3]) (by simp[results,Tryz.results32,go_sem,x0,x1]) rfl (ParseAE.no HZ.out (put2_below (HBW.out _ (HW.out wr (Below.refl _ _))) (Nat.le_refl _) _ _))
   have e1:¬(200:Int)<rn:=by omega
   by_cases h2:200<pn
   ·have HZ:=hid (show parseA s=(af0,0,3)from HPD.out.trans (endA_big (d:=d) 0 [] (.inr (by have:=HRN.out.2;omega))));have e2:(200:Int)<pn:=by omega
    go_wp2_with fail;exact bodyPost_ret (v:= .tuple #[.agg #[.slice none 0 0,.slice none 0 0],.int .i64 (0:Nat),.int .i64 3]) (by simp[results,Tryz.results32,go_sem,x0,x1]) rfl (ParseAE.no HZ.out (put2_below (HBW.out _ (HW.out wr (Below.refl _ _))) (Nat.le_refl _) _ _))
   have e2:¬(200:Int)<pn:=by omega
   have HNB:=hid (show¬(200<d.rules.length∨200<d.pairs.length)by have:=HRN.out.1;have:=HRN.out.2;omega);by_cases h3:0<b
   ·have HZ:=hid (show parseA s=(af0,b,5)from HPD.out.trans (by unfold endA;rw[if_neg HNB.out,if_pos (by have:=HBD.out;omega),HBD.out]));have e3:(0:Int)<b:=by omega
    clear h1 h2 h3;go_wp2_with fail;exact bodyPost_ret (v:= .tuple #[.agg #[.slice none 0 0,.slice none 0 0],.int .i64 b,.int .i64 5]) (by simp[results,Tryz.results32,go_sem,x0,x1]) rfl (ParseAE.no HZ.out (put2_below (HBW.out _ (HW.out wr (Below.refl _ _))) (Nat.le_refl _) _ _))
   have hb0:b=0:=by omega
   subst hb0;have hrn3:rn≤200:=by omega
   have HZ:=hid (show parseA s=if 0<flagA [] d.rules d.at_ then(af0,flagA [] d.rules d.at_,6)else(⟨d.rules,d.pairs⟩,0,0)from HPD.out.trans (by unfold endA;rw[if_neg HNB.out,if_neg (by have:=HBD.out;omega)]));clear h1 h2 h3 x0 x1 fz;have HRU:=hid (show∀(i:Nat) r,d.rules[i]?=some r→∃b off,RA=some ⟨b,off,none⟩∧b<wr.heap.size∧rn≤cR∧RuCells wr b (off+i*6) r from by
    obtain⟨A1,c1,B1,c1',e,h5,-⟩:=HQ.out.reads;injection e with e;simp only[Array.mk.injEq,List.cons.injEq,and_true]at e;obtain⟨rfl,-⟩:A1=RA∧c1=cR:=by
     have:=e.1;injection this with t1 t2 t3;exact⟨t1.symm,t3.symm⟩
    have e3:=e.1;injection e3 with _ _ t3;subst t3;intro i r hr;obtain⟨b,off,k1,k2,k3,k4⟩:=rules_open h5 i r hr;exact⟨b,off,k1,k2,by rw[HRN.out.1];exact k3,k4⟩)
   go_wp2_with fail;clear b0 b1 e1 e2 bf;go_loopg [14,15] rn (fun gh i _ wx=>∃q:Nat,q+gh=rn∧i= .int .i64 q∧Hid (Below wr.heap.size wr wx∧flagA [] d.rules d.at_=flagA (d.rules.take q) (d.rules.drop q) (d.at_.drop q)))
   case atStart=>exact⟨0,by omega,rfl,hid ⟨Below.refl _ _,by rw[List.take_zero,List.drop_zero,List.drop_zero]⟩⟩
   case round=>
    obtain⟨q,hq,rfl,HO⟩:=hrel;have hq0:(0:Int)≤q:=by omega
    obtain⟨b0,b1,-⟩:=(HQ.out.keep HO.out.1).boxc;rcases Nat.eq_zero_or_pos gk with h0|h0
    ·have hqm:¬(q:Int)<rn:=by omega
     have HZ2:=hid (show parseA s=(⟨d.rules,d.pairs⟩,0,0)by
      rw[HZ.out,HO.out.2,List.drop_of_length_le (by have:=HRN.out.1;omega)];exact if_neg (by unfold flagA;omega))
     obtain⟨⟨x0,x1⟩,fz⟩:=BX.out _ (HW.out _ HO.out.1);go_wp2_with fail;refine bodyPost_ret (v:= .tuple #[.agg #[.slice RA rn cR,.slice RB pn cR'],.int .i64 0,.int .i64 0]) (by simp[results,Tryz.results32,go_sem,x0,x1]) rfl ?_;rw[HZ2.out];refine⟨_,rfl,?_,put2_below (HBW.out _ (HW.out _ HO.out.1)) (Nat.le_refl _) _ _⟩;have hHH:w.heap.size<w1.heap.size:=Nat.lt_of_lt_of_le hH0 HW1.out.size;exact((((HQ.out.keep HO.out.1).sooner (HBW.out _ HW1.out)).low (q:=w.heap.size) (o:=0) (v:= .slice RA rn cR) (Nat.le_refl _) hHH).low (q:=w.heap.size) (o:=1) (v:= .slice RB pn cR') (Nat.le_refl _) hHH).reads
    ·have hqm:(q:Int)<rn:=by omega
     obtain⟨r,hr⟩:∃r,d.rules[q]?=some r:=⟨_,List.getElem?_eq_getElem (by have:=HRN.out.1;omega)⟩;obtain⟨an,han⟩:∃a,d.at_[q]?=some a:=⟨_,List.getElem?_eq_getElem (by have:=HRN.out.1;have:=HAC.out.1;omega)⟩;have HFS:=hid (flag_step hr han);obtain⟨gb,off,rfl,hgb,hcR,hru⟩:=HRU.out q r hr;have hcR2:(rn:Int)≤cR:=by omega
     have HR:=hid hru;have HAN:=hid han;clear hru hcR hr han;have HQ2:=hid (show∀wy,Below wr.heap.size wr wy→AQ w1 wy w1.heap.size F (.slice (some ⟨gb,off,none⟩) rn cR) (.slice RB pn cR') u7 xs d from fun wy hb=>(HQ.out.keep HO.out.1).keep hb);have HW2:=hid (show∀wy,Below wr.heap.size wr wy→Below W0.heap.size W0 wy from fun wy hb=>HW.out wy (HO.out.1.trans (hb.mono HO.out.1.size)));have HBO:=hid (show∀wy,Below wr.heap.size wr wy→_ from fun wy hb=>HO.out.1.trans (hb.mono HO.out.1.size));have HRU2:=hid (show∀(wy:World) (_:Below wr.heap.size wr wy) (i:Nat) (x:Ru),d.rules[i]?=some x→RuCells wy gb (off+i*6) x from fun wy hb i x hx=>by
      obtain⟨b,o,e,k2,k3,k4⟩:=HRU.out i x hx;injection e with e;injection e with e1 e2;subst e1 e2;exact k4.keep (HO.out.1.trans (hb.mono HO.out.1.size)) k2)
     have HO2:=hid HO.out.2;obtain⟨go,hgo⟩:∃g,g=gk:=⟨_,rfl⟩;have HGO:=hid hgo;obtain⟨rp,rf,rc,rs,ra,rl⟩:=r;go_wp2_with fail;clear b0 b1 HO HRU hgo;go_loopg [15] q (fun gh kv wy=>∃t:Nat,t+gh=q∧kv= .int .i64 t∧Hid (Below wr.heap.size wr wy∧clash (d.rules.take t) ⟨rp,rf,rc,rs,ra,rl⟩=false))
     case atStart=>exact⟨0,by omega,rfl,hid ⟨Below.refl _ _,by simp[clash]⟩⟩
     case round=>
      obtain⟨t,ht,rfl,HI⟩:=hrel;have ht0:(0:Int)≤t:=by omega
      obtain⟨b0,b1,-⟩:=(HQ2.out _ HI.out.1).boxc;rcases Nat.eq_zero_or_pos gk with h00|h00
      ·have htm:¬(t:Int)<q:=by omega
       have htq:t=q:=by omega
       have HN2:=hid (show flagA [] d.rules d.at_=flagA (d.rules.take (q+1)) (d.rules.drop (q+1)) (d.at_.drop (q+1))by
        rw[HO2.out,HFS.out,if_neg (by have:=HI.out.2;rw[htq]at this;rw[this];decide)])
       have HB3:=hid (HBO.out _ HI.out.1);go_wp2_with fail;go_roundg (go-1)
       case measure=>have:=HGO.out;omega
       case rel=>exact⟨q+1,by have:=HGO.out;omega,by go_num,hid ⟨HB3.out,HN2.out⟩⟩
      ·have htm:(t:Int)<q:=by omega
       have htn:(t:Int)<rn:=by omega
       obtain⟨p,hp⟩:∃p,d.rules[t]?=some p:=⟨_,List.getElem?_eq_getElem (by have:=HRN.out.1;omega)⟩;obtain⟨D,dc,f0,f1,-,-,-,-,-⟩:=(HRU2.out _ HI.out.1 t p hp).at_;obtain⟨D',dc',g0,g1,-,-,-,-,-⟩:=(HR.out.keep (HBO.out _ HI.out.1) hgb).at_;dsimp only at g0 g1;have HCT:=hid (clash_takeV (r:=⟨rp,rf,rc,rs,ra,rl⟩) hp);have HCI:=hid (show (p.flag==rf&& !(p.pre==rp))=true→clash (d.rules.take q) ⟨rp,rf,rc,rs,ra,rl⟩=true from fun hc=>clash_inV (k:=t) (by rw[List.getElem?_take_of_lt (by omega)];exact hp) hc);obtain⟨pp,pf,pc,ps,pa,pl⟩:=p;dsimp only at f0 f1 HCT HCI;clear hp;by_cases hf:pf=rf
       ·by_cases hpp:pp=rp
        ·have hz:(pf==rf&& !(pp==rp))=false:=by simp[hf,hpp]
         have d1:(pf==rf)=true:=by simpa using hf
         have d2:(pp==rp)=true:=by simpa using hpp
         have d3:(pp != rp)=false:=by simp[hpp]
         have HU2:=hid (show clash (d.rules.take (t+1)) ⟨rp,rf,rc,rs,ra,rl⟩=false by rw[HCT.out,HI.out.2,hz];rfl);clear hz hf hpp;go_upto_region 29 with fail;go_quiet (fail);have HB3:=hid (below_drewN HI.out.1 nq);go_wp2_with fail;go_roundg (gk-1)
         case measure=>omega
         case rel=>exact⟨t+1,by omega,by go_num,hid ⟨HB3.out,HU2.out⟩⟩
        ·have hz:(pf==rf&& !(pp==rp))=true:=by simp[hf,hpp]
         have d1:(pf==rf)=true:=by simpa using hf
         have d2:(pp==rp)=false:=by simpa using hpp
         have d3:(pp != rp)=true:=by simpa using hpp
         have HZ2:=hid (show parseA s=(af0,an,6)by
          have hc:=HCI.out hz;rw[HZ.out,HO2.out,HFS.out,if_pos hc,if_pos (HAC.out.2 an (List.mem_of_getElem? HAN.out))])
         clear hz hf hpp;go_upto_region 29 with fail;go_quiet (fail);obtain⟨wz,hwz⟩:∃wz,wz=wr.drewN nq:=⟨_,rfl⟩;rw[←hwz];have hbz:Below _ _ wz:=hwz▸below_drewN HI.out.1 nq;obtain⟨ga,gcap,rfl,hgl,hgn,-,hcells⟩:=own_open9 (HQ2.out _ hbz).trow (by have:=HRN.out.1;have:=HAC.out.1;omega);have y0:=hcells q (.int .i64 (an:Nat)) (by rw[List.getElem?_map,HAN.out];rfl);have hne:ga≠w.heap.size:=by
          have h1:=((HQ2.out _ hbz).trow.lt ga rfl).1;have h2:=HW1.out.size;omega
         have y1:((wz.setCell ⟨w.heap.size,0,none⟩ (.slice none 0 0)).setCell ⟨w.heap.size,1,none⟩ (.slice none 0 0)).cell? ⟨ga,q,none⟩=some (.int .i64 (an:Nat)):=by
          have hh:((wz.setCell ⟨w.heap.size,0,none⟩ (.slice none 0 0)).setCell ⟨w.heap.size,1,none⟩ (.slice none 0 0)).heap[ga]?=wz.heap[ga]?:=(set_other _ _ _ _ hne).trans (set_other _ _ _ _ hne);have h1:=y0;unfold World.cell? at h1⊢;rw[show (⟨ga,q,none⟩:Addr).block=ga from rfl]at h1⊢;rw[hh];exact h1
         obtain⟨al,hal⟩:∃l,l=d.at_.length:=⟨_,rfl⟩;have hal2:(q:Int)<al:=by have:=HRN.out.1;have:=HAC.out.1;omega
         have hal3:(al:Int)≤gcap:=by omega
         rw[←hal];obtain⟨⟨x0,x1⟩,fz⟩:=BX.out _ (HW2.out _ hbz);have HD2:=hid (HBW.out _ (HW2.out _ hbz));clear hwz hbz hcells hal b0 b1 f0 f1 g0 g1 d1 d2 d3 hgl hgn hne;go_upto_region 30 with fail;go_region
         go_wp2_with fail;exact bodyPost_ret (v:= .tuple #[.agg #[.slice none 0 0,.slice none 0 0],.int .i64 an,.int .i64 6]) (by simp[results,Tryz.results32,go_sem,x0,x1]) rfl (ParseAE.no HZ2.out (put2_below HD2.out (Nat.le_refl _) _ _).drew)
       ·have hz:(pf==rf&& !(pp==rp))=false:=by simp[hf]
        have d1:(pf==rf)=false:=by simpa using hf
        have d2:decide (pf=rf)=false:=decide_eq_false hf;have HU2:=hid (show clash (d.rules.take (t+1)) ⟨rp,rf,rc,rs,ra,rl⟩=false by rw[HCT.out,HI.out.2,hz];rfl);clear hz hf;go_upto_region 29 with fail;go_quiet (fail);have HB3:=hid (below_drewN HI.out.1 nq);go_wp2_with fail;go_roundg (gk-1)
        case measure=>omega
        case rel=>exact⟨t+1,by omega,by go_num,hid ⟨HB3.out,HU2.out⟩⟩
  ·have hkm:(k:Int)<n:=by omega
   obtain⟨g,rfl,hg,hnc,hcell⟩:=HV.out (by omega);have hnc2:(n:Int)≤cap:=by omega
   obtain⟨l,hl⟩:∃l,ls[k]?=some l:=⟨_,List.getElem?_eq_getElem (by have:=HN.out;omega)⟩;have hc1:=(HK.out.1.below.cell (p:=⟨g,k,none⟩) hg).trans (hcell k l hl);obtain⟨S,hS⟩:∃S:ByteArray,S=⟨l.toArray⟩:=⟨_,rfl⟩;rw[←hS]at hc1;have hSl:S.data.toList=l:=by rw[hS]
   have hSz:S.size=l.length:=by rw[Lib.size_eq,hSl]
   have hlen:=HL.out.1 l (List.mem_of_getElem? hl);have HT:=hid (readA_take hl);clear hcell hl;by_cases hskip:l=[]∨l.head?=some 35
   ·have HD2:=hid (show d=readA rd0 1 (ls.take (k+1))by rw[HT.out,stepA_skip hskip];exact HK.out.2.1);rcases hskip with h1|h1
    ·have hS0:S=⟨#[]⟩:=by rw[hS,h1]
     subst hS0;clear hS hSl hSz hlen h1;go_wp2_with fail;go_roundg (gk-1)
     case measure=>omega
     case rel=>exact⟨k+1,F,rv,pv,xs,d,by omega,by go_num,rfl,hid ⟨HK.out.1,HD2.out,by have:=HK.out.2.2;omega⟩⟩
    ·have hpos:0<S.size:=by
      rw[hSz];cases l with
      | nil=>simp at h1
      | cons _ _=>simp
     have hne:S≠⟨#[]⟩:=fun e=>by rw[e]at hpos;exact absurd hpos (by decide)
     have hnb:S.toList.isEmpty=false:=by rw[toL_data,hSl,List.isEmpty_eq_false_iff];intro e;rw[e]at h1;simp at h1
     have hget:(S[0]'hpos)=35:=by
      have h2:l[0]?=some 35:=by rw[←h1];cases l<;>rfl
      have h3:S.data.toList[0]?=some 35:=by rw[hSl];exact h2
      rw[Array.getElem?_toList]at h3;have h4:S.data[0]?=some (S.data[0]'hpos):=Array.getElem?_eq_getElem hpos;rw[h4]at h3;exact Option.some.inj h3
     have hg2:(S[0]'hpos).toNat=35:=by rw[hget];rfl
     have hpos2:(0:Int)<S.size:=by omega
     clear hS hSl hSz hlen h1 hget hne;go_wp2_with fail;go_roundg (gk-1)
     case measure=>omega
     case rel=>exact⟨k+1,F,rv,pv,xs,d,by omega,by go_num,rfl,hid ⟨HK.out.1,HD2.out,by have:=HK.out.2.2;omega⟩⟩
   ·have hpos:0<S.size:=by
     rw[hSz];cases l with
     | nil=>exact absurd (.inl rfl) hskip
     | cons _ _=>simp
    have hnb:S.toList.isEmpty=false:=by rw[toL_data,hSl,List.isEmpty_eq_false_iff];exact fun e=>hskip (.inl e)
    have hget:(S[0]'hpos)≠35:=by
     intro e;refine hskip (.inr ?_);have h4:S.data[0]?=some (S.data[0]'hpos):=Array.getElem?_eq_getElem hpos;have h3:S.data.toList[0]?=some (S.data[0]'hpos):=by rw[Array.getElem?_toList];exact h4
     rw[hSl]at h3;have e2:S.data[0]'hpos=35:=e;rw[e2]at h3;cases l with
     | nil=>simp at h3
     | cons x t=>simpa using h3
    have hg2:¬((S[0]'hpos).toNat=35):=fun e=>hget (UInt8.toNat_inj.1 e);have hg3:(((S[0]'hpos).toNat:Int)==35)=false:=by simp;omega
    have hpos2:(0:Int)<S.size:=by omega
    have HSl:=hid (And.intro hSl hskip);have HSe:=hid hS;have hSm:S.size≤65536:=by omega
    have HK1:=hid HK.out.1;have HK2:=hid HK.out.2;clear HK;have HC:=hid (show d.pairs.length≤k∧d.rules.length≤k∧d.at_.length≤k by
     have h1:=readA_count (ls.take k) rd0 1;rw[←HK2.out.1,List.length_take]at h1;simp only[rd0,List.length_nil]at h1;omega)
    have hkb:k≤65536:=by omega
    obtain⟨o,ho⟩:∃o,o=pairL d.pairs l:=⟨_,rfl⟩;have HO:=hid ho;have hb0:Below wr.heap.size wr wr.drew:=below_drewN (Below.refl _ _) 1;have hbA:Below wr.heap.size wr (wr.alloc (.cells #[.int .i64 0,.int .i64 0] 118)):=(Below.refl _ _).alloc (Nat.le_refl _) _;have hbB:Below wr.heap.size wr (wr.alloc (.cells #[.int .i64 0,.int .i64 0] 118)).drew:=below_drewN hbA 1;have CPA:=hid (show Calls Tryz.prog 66 #[.string S,pv] wr.drew fun e w'=>e= .returned (.tuple #[.agg #[.int .i64 (o.getD (0,0)).1,.int .i64 (o.getD (0,0)).2],.bool o.isSome])∧Hid (Below wr.heap.size wr w')from by
     refine(rpair_any wr.drew S pv d.pairs (HK1.out.keep hb0).prowAt (by omega)).mono ?_;rintro e w' ⟨he,hb⟩;rw[HSl.out.1,←ho]at he;exact⟨he,hid (hb0.trans (hb.mono hb0.size))⟩)
    have CPB:=hid (show Calls Tryz.prog 66 #[.string S,pv] (wr.alloc (.cells #[.int .i64 0,.int .i64 0] 118)).drew fun e w'=>e= .returned (.tuple #[.agg #[.int .i64 (o.getD (0,0)).1,.int .i64 (o.getD (0,0)).2],.bool o.isSome])∧(w'.cell? ⟨wr.heap.size,0,none⟩=some (.int .i64 0)∧w'.cell? ⟨wr.heap.size,1,none⟩=some (.int .i64 0)∧∀o,w'.frozen? ⟨wr.heap.size,o,none⟩=false)∧Hid (Below wr.heap.size wr w'∧w'.heap[wr.heap.size]?=some (.cells #[.int .i64 0,.int .i64 0] 118 (0,0)))from by
     refine(rpair_any _ S pv d.pairs (HK1.out.keep hbB).prowAt (by omega)).mono ?_;rintro e w' ⟨he,hb⟩;rw[HSl.out.1,←ho]at he;have hbx:w'.heap[wr.heap.size]?=some (.cells #[.int .i64 0,.int .i64 0] 118 (0,0)):=(hb.block wr.heap.size (by show _<(wr.alloc _).heap.size;rw[World.size_alloc];omega)).trans (World.alloc_heap_new wr _);refine⟨he,⟨by simp[World.cell?,hbx],by simp[World.cell?,hbx],fun o=>by simp[World.frozen?,hbx]⟩,hid ⟨hbB.trans (hb.mono hbB.size),hbx⟩⟩)
    clear ho hb0 hbA hbB;have y0:wr.drew.cell? ⟨g,k,none⟩=some (.string S):=hc1;have y1:wr.drew.cell? ⟨w1.heap.size,1,none⟩=some pv:=b1;have hgr:g<wr.heap.size:=Nat.lt_of_lt_of_le hg HK1.out.below.size;have hHr:w1.heap.size<wr.heap.size:=HK1.out.hi;have y2:(wr.alloc (.cells #[.int .i64 0,.int .i64 0] 118)).cell? ⟨g,k,none⟩=some (.string S):=(((Below.refl wr.heap.size wr).alloc (Nat.le_refl _) _).cell (p:=⟨g,k,none⟩) hgr).trans hc1;have y3:(wr.alloc (.cells #[.int .i64 0,.int .i64 0] 118)).cell? ⟨w1.heap.size,1,none⟩=some pv:=(((Below.refl wr.heap.size wr).alloc (Nat.le_refl _) _).cell (p:=⟨w1.heap.size,1,none⟩) hHr).trans b1;have y4:(wr.alloc (.cells #[.int .i64 0,.int .i64 0] 118)).drew.cell? ⟨g,k,none⟩=some (.string S):=y2;have y5:(wr.alloc (.cells #[.int .i64 0,.int .i64 0] 118)).drew.cell? ⟨w1.heap.size,1,none⟩=some pv:=y3;clear hS hSl hskip hget hSz;go_upto_region 11 with fail;obtain⟨P1,hP1⟩:∃a,a=(o.getD (0,0)).1:=⟨_,rfl⟩;obtain⟨P2,hP2⟩:∃a,a=(o.getD (0,0)).2:=⟨_,rfl⟩;obtain⟨B,hB⟩:∃a,a=o.isSome:=⟨_,rfl⟩;rw[←hP1,←hP2,←hB]at CPA CPB;have HPB:=hid (And.intro hP1 (And.intro hP2 hB));clear hP1 hP2 hB;go_cut [10,11] (fun p b wx=>∃pb:Nat,p= .pointer (some ⟨pb,0,none⟩)∧b= .bool B∧Hid (Below wr.heap.size wr wx∧wx.heap[pb]?=some (.cells #[.int .i64 P1,.int .i64 P2] 118 (0,0))))
    case first=>
     go_region_with (first
      | (go_at_call 66;refine CPB.out.mono ?_;rintro e w5 ⟨rfl,⟨k0,k1,kf⟩,hbx⟩)
      | (go_at_call 66;refine CPA.out.mono ?_;rintro e w5 ⟨rfl,hbx⟩))
     all_goals
      first
      | (go_wp2_with fail;go_meet;exact⟨w5.heap.size,rfl,rfl,hid ⟨hbx.out.alloc hbx.out.size _,World.alloc_heap_new w5 _⟩⟩)
      | (go_wp2_with fail;go_meet;exact⟨wr.heap.size,rfl,rfl,hid ⟨put2_below hbx.out.1 (Nat.le_refl _) _ _,by simp[World.setCell,Array.getElem?_modify,hbx.out.2]⟩⟩)
    case rest=>
    obtain⟨pb,rfl,rfl,HCT⟩:=hcut;have HQc:=hid (HK1.out.keep HCT.out.1);have hcP:=HCT.out.2;have HRu:=hid (HSl.out.2);have z1:=HQc.out.boxc.2.1;have m0:wc.cell? ⟨pb,0,none⟩=some (.int .i64 P1):=by simp[World.cell?,hcP]
    have m1:wc.cell? ⟨pb,1,none⟩=some (.int .i64 P2):=by simp[World.cell?,hcP]
    have hcg:=(HCT.out.1.cell (p:=⟨g,k,none⟩) hgr).trans hc1;clear hcP CPA CPB y0 y1 y2 y3 y4 y5 hc1 b0 b1 bf HCT hgr hHr;cases o with
    | some p=>
      obtain⟨p1,p2⟩:=p;obtain⟨rfl,rfl,rfl⟩:=HPB.out;have HR3:=hid (HQc.out.keep ((Below.refl _ _).alloc (Nat.le_refl _) (.cells #[.int .i64 P1,.int .i64 P2] 118)));go_wp2_with (at_builtin;refine wpList_append_where _ rfl _ _ 38 rfl (w1.heap.size+1) 118 i2 (.agg #[.int .i64 0,.int .i64 0]) 2 16 Tryz.underlying38 hi2 hz20 hz21 hz22 rfl (by decide) pv _ (pCells d.pairs) rfl HR3.out.prow ⟨wc.heap.size,0,none⟩ 1 1 [.int .i64 P1,.int .i64 P2] rfl rfl (news_row _ _ _) (pair_one _ _) (by have:=HC.out;unfold maxLen;omega) (by have:=HC.out;omega) HR3.out.hi ?_;intro pv' w4 hown4 hgrow4 hwh4;have hfo:=own_open9 hown4 (by omega);obtain⟨-,f1,ff⟩:=HR3.out.fz4 hgrow4 (fun q hq=>(HR3.out.prow.lt q hq).1);have HX:=hid (HR3.out.pair (p:=(P1,P2)) hown4 hgrow4 hwh4);clear hown4 hgrow4 hwh4;obtain⟨gp,gcap,rfl,-⟩:=hfo);go_roundg (gk-1)
      case measure=>omega
      case rel=>exact⟨k+1,F,rv,_,xs,{ d with pairs:=d.pairs++[(P1,P2)] },by omega,by go_num,rfl,hid ⟨HX.out,by rw[HT.out,←HK2.out.1,stepA_two HSl.out.2 HO.out.symm],by have:=HK2.out.2;show d.bad≤k+1;omega⟩⟩
    | none=>
      obtain⟨rfl,rfl,rfl⟩:=HPB.out;have CR:=hid (rparse10_new wc S (by omega));obtain⟨q,hq⟩:∃q,q=parseR S:=⟨_,rfl⟩;rw[←hq]at CR;have HQR:=hid (show q=parseR ⟨l.toArray⟩by rw[hq,HSe.out]);clear hq m0 m1;cases q with
      | none=>
        by_cases hbd:d.bad=0
        ·have hbd1:((d.bad:Nat):Int)=0:=by omega
         have HD3:=hid (show { d with bad:=k+1 }=readA rd0 1 (ls.take (k+1))by rw[HT.out,←HK2.out.1,stepA_bad HRu.out HO.out.symm HQR.out.symm,if_pos hbd]);go_wp2_with (go_at_call 67;refine CR.out.mono ?_;rintro e w5 ⟨v5,rfl,⟨D,dc,rfl,-⟩,hb5⟩;dsimp only[Option.getD_none,Option.isSome_none];have HQ5:=hid (HQc.out.keep (hb5.alloc hb5.size (.cells #[.bool false,.int .i64 0,.bool false,.string ⟨#[]⟩,.string ⟨#[]⟩,.slice D 0 dc] 123)));clear hb5);go_roundg (gk-1)
         case measure=>omega
         case rel=>exact⟨k+1,F,rv,pv,xs,{ d with bad:=k+1 },by omega,by go_num,by go_num,hid ⟨HQ5.out.bad (k+1),HD3.out,Nat.le_refl _⟩⟩
        ·have hbd1:¬(((d.bad:Nat):Int)=0):=by omega
         have HD3:=hid (show d=readA rd0 1 (ls.take (k+1))by rw[HT.out,←HK2.out.1,stepA_bad HRu.out HO.out.symm HQR.out.symm,if_neg hbd]);go_wp2_with (go_at_call 67;refine CR.out.mono ?_;rintro e w5 ⟨v5,rfl,⟨D,dc,rfl,-⟩,hb5⟩;dsimp only[Option.getD_none,Option.isSome_none];have HQ5:=hid (HQc.out.keep (hb5.alloc hb5.size (.cells #[.bool false,.int .i64 0,.bool false,.string ⟨#[]⟩,.string ⟨#[]⟩,.slice D 0 dc] 123)));clear hb5);go_roundg (gk-1)
         case measure=>omega
         case rel=>exact⟨k+1,F,rv,pv,xs,d,by omega,by go_num,rfl,hid ⟨HQ5.out,HD3.out,by have:=HK2.out.2;omega⟩⟩
      | some r=>
        obtain⟨rp,rf,rc,rs,ra,rl⟩:=r;have HD3:=hid (show { d with rules:=d.rules++[⟨rp,rf,rc,rs,ra,rl⟩],at_:=d.at_++[k+1] }=readA rd0 1 (ls.take (k+1))by rw[HT.out,←HK2.out.1,stepA_ru HRu.out HO.out.symm HQR.out.symm]);go_wp2_with (go_at_call 67;refine CR.out.mono ?_);rintro e w5 ⟨v5,rfl,⟨D,dc,rfl,hi5⟩,hb5⟩;dsimp only[Option.getD_some,Option.isSome_some]at hi5⊢;obtain⟨F2,hF2⟩:∃F2:Nat→Prop,F2=fun b=>F b∨(wc.heap.size≤b∧b<w5.heap.size):=⟨_,rfl⟩;have hwd:=HQc.out.wide hb5;have hi6:=hi5.isIn.mono (F':=fun b=>F b∨(wc.heap.size≤b∧b<w5.heap.size)) fun b hb=> .inr hb;rw[←hF2]at hwd hi6;have hb6:=(Below.refl w5.heap.size w5).alloc (Nat.le_refl _) (.cells #[.bool rp,.int .i64 rf,.bool rc,.string rs,.string ra,.slice D rl.length dc] 123);obtain⟨w6,hw6⟩:∃w6,w6=w5.alloc (.cells #[.bool rp,.int .i64 rf,.bool rc,.string rs,.string ra,.slice D rl.length dc] 123):=⟨_,rfl⟩;have hbx6:w6.heap[w5.heap.size]?=some (.cells #[.bool rp,.int .i64 rf,.bool rc,.string rs,.string ra,.slice D rl.length dc] 123 (0,0)):=hw6▸World.alloc_heap_new w5 _;rw[←hw6]at hb6;have hq6:=hwd.keep hb6;have hi7:=hi6.still hb6.size fun b _ hlt=>hb6.block b hlt;have hb7:=(Below.refl w6.heap.size w6).alloc (Nat.le_refl _) (.cells #[.bool rp,.int .i64 rf,.bool rc,.string rs,.string ra,.slice D rl.length dc] 123);have HQ7:=hid (hq6.keep hb7);have HI7:=hid (hi7.still hb7.size fun b _ hlt=>hb7.block b hlt);obtain⟨z0,z1,-⟩:=hq6.boxc;have p0:w6.cell? ⟨w5.heap.size,0,none⟩=some (.bool rp):=by simp[World.cell?,hbx6]
        have p1:w6.cell? ⟨w5.heap.size,1,none⟩=some (.int .i64 rf):=by simp[World.cell?,hbx6]
        have p2:w6.cell? ⟨w5.heap.size,2,none⟩=some (.bool rc):=by simp[World.cell?,hbx6]
        have p3:w6.cell? ⟨w5.heap.size,3,none⟩=some (.string rs):=by simp[World.cell?,hbx6]
        have p4:w6.cell? ⟨w5.heap.size,4,none⟩=some (.string ra):=by simp[World.cell?,hbx6]
        have p5:w6.cell? ⟨w5.heap.size,5,none⟩=some (.slice D rl.length dc):=by simp[World.cell?,hbx6]
        clear hi5 hb5 hwd hi6 hb6 hq6 hi7 hb7 HQc hbx6 hF2 CR;go_upto_region 18 with fail;rw[←hw6];clear hw6;go_wp2_with (first
         | (at_builtin;refine wpList_append_where _ rfl _ _ 55 rfl (w1.heap.size+1) 123 i1 (.agg #[.bool false,.int .i64 0,.bool false,.string ⟨#[]⟩,.string ⟨#[]⟩,.slice none 0 0]) 6 80 Tryz.underlying55 hi1 hz10 hz11 hz12 rfl (by decide) rv _ xs rfl HQ7.out.rrow ⟨w6.heap.size,0,none⟩ 1 1 [.bool rp,.int .i64 rf,.bool rc,.string rs,.string ra,.slice D rl.length dc] rfl rfl (news_row _ _ _) (rule_one _ _ _ _ _ _ _ _) (by have:=HC.out;unfold maxLen;omega) (by have:=HC.out;omega) HQ7.out.hi ?_
            intro rv' w8 hown8 hgrow8 hwh8;have HT8:=hid ((HQ7.out.trow4 hgrow8).alloc (.cells #[.int .i64 ((k:Int)+1)] 3));have HX8:=hid (And.intro hown8 (And.intro hgrow8 hwh8));have HS8:=hid (Nat.le_trans HQ7.out.hi hgrow8.size);obtain⟨gr,gcap,rfl,-⟩:=own_open9 hown8 (by omega);clear hown8 hgrow8 hwh8)
         | (at_builtin;refine wpList_append_where _ rfl _ _ 42 rfl (w1.heap.size+1) 3 i3 (.int .i64 0) 1 8 Tryz.underlying42 hi3 hz30 hz31 hz32 rfl (by decide) u7 _ (d.at_.map fun n=> .int .i64 (n:Nat)) rfl HT8.out ⟨w8.heap.size,0,none⟩ 1 1 [.int .i64 ((k:Int)+1)] rfl rfl (news_row _ _ _) (int_one _) (by have:=HC.out;unfold maxLen;omega) (by have:=HC.out;omega) (by rw[World.size_alloc];have:=HS8.out;omega) ?_
            intro tv' w9 hown9 hgrow9 hwh9;have HX9:=hid (And.intro hown9 (And.intro hgrow9 hwh9));obtain⟨m0,-,mf⟩:=HQ7.out.two HX8.out.2.1 hgrow9;obtain⟨gt,gcap2,rfl,-⟩:=own_open9 hown9 (by omega);clear hown9 hgrow9 hwh9))
        have HX:=hid (HQ7.out.rule2 (k:=k) (r:=⟨rp,rf,rc,rs,ra,rl⟩) HI7.out HX8.out.1 HX8.out.2.1 HX8.out.2.2 HX9.out.1 HX9.out.2.1 HX9.out.2.2);clear HX8 HX9 HT8 HS8 HQ7 HI7 m0 mf z0 z1 p0 p1 p2 p3 p4 p5;go_roundg (gk-1)
        case measure=>omega
        case rel=>exact⟨k+1,F2,_,pv,_,{ d with rules:=d.rules++[⟨rp,rf,rc,rs,ra,rl⟩],at_:=d.at_++[k+1] },by omega,by go_num,rfl,hid ⟨HX.out,HD3.out,by have:=HK2.out.2;show d.bad≤k+1;omega⟩⟩
end Go.Proofs.YtfehpcbmdancoaaGreatDoor.Af
