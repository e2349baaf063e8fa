/- slices.Index, Contains, Equal, Clone at []int, over slices that read as numbers. -/
import Derived.Lib.Hide
import Derived.Lib.SliceRun
import Derived.Test.YtfehpcbmdancoaaGreatDoorPdPbNPlain
set_option maxRecDepth 100000
set_option maxHeartbeats 2000000
namespace Go.Proofs.YtfehpcbmdancoaaGreatDoor
open Go Go.RowKit
theorem ints_bd {w:World}{v:Value}{cs:List Int}(h:IntsAt w v cs):cs.length≤9223372036854775807:=by
 rcases h with ⟨rfl,_⟩|⟨b,off,cap,rfl,h1,h2,h3,h4⟩
 ·exact Nat.zero_le _
 ·unfold maxLen at h3;omega
theorem index_any (w:World)(v:Value)(cs:List Int)(x:Int)(h:IntsAt w v cs):
  Calls Tryz.prog 204 #[v,.int .i64 x] w fun e w'=>∃r:Int,e= .returned (.int .i64 r)∧w'=w∧((r= -1∧∀c∈cs,c≠x)∨∃k:Nat,r=k∧cs[k]?=some x∧∀j,j<k→cs[j]?≠some x):=by
 have hbig:=ints_bd h;obtain⟨A,cap,rfl,hA⟩:=ints_open h;clear h;have HA:=Lib.hid hA;clear hA;obtain⟨n,hn⟩:∃n,n=cs.length:=⟨_,rfl⟩;rw[←hn]at hbig⊢;have HN:=Lib.hid hn;clear hn;go_enter Tryz.func204,Tryz.ntmps204;go_wp2;go_loopg [5,8] n (fun g _s5 s8 wr=>∃k:Nat,k+g=n∧s8= .int .i64 k∧wr=w∧Hid (∀j,j<k→cs[j]?≠some x))
 case atStart=>exact⟨0,by omega,rfl,rfl,Lib.hid fun j hj=>absurd hj (Nat.not_lt_zero _)⟩
 case round=>
  obtain⟨k,hk,rfl,rfl,HP⟩:=hrel;rcases Nat.eq_zero_or_pos gk with h0|h0
  ·have hkn:k=n:=by omega
   subst hkn;go_wp2;go_ret;refine⟨_,rfl,rfl,.inl ⟨rfl,fun c hc e=>?_⟩⟩;obtain⟨j,hj,hjc⟩:=List.getElem_of_mem hc;exact HP.out j (by have:=HN.out;omega) (by rw[List.getElem?_eq_getElem hj,hjc,e])
  ·have hkn:(k:Int)<n:=by omega
   obtain⟨c,hc⟩:∃c,cs[k]?=some c:=⟨_,List.getElem?_eq_getElem (by have:=HN.out;omega)⟩;obtain⟨q,o,rfl,hq,hqc,cq⟩:=HA.out k c hc;have HC:=Lib.hid hc;clear hc hqc;have tk1:(0:Int)≤k:=by omega
   by_cases hx:x=c
   ·subst hx;have d:(x==x)=true:=by simp
    go_wp2_with fail;go_ret;exact⟨_,rfl,rfl,.inr ⟨k,rfl,HC.out,HP.out⟩⟩
   ·have d:(x==c)=false:=by simpa using hx
    have HX:=Lib.hid hx;clear hx;go_wp2_with fail;go_roundg (gk-1)
    case measure=>omega
    case rel=>
     refine⟨k+1,by omega,by go_num,rfl,Lib.hid fun j hj=>?_⟩;rcases Nat.lt_or_ge j k with hjk|hjk
     ·exact HP.out j hjk
     ·obtain rfl:j=k:=by omega
      rw[HC.out];intro e;exact HX.out (Option.some.inj e).symm
theorem contains_any (w:World)(v:Value)(cs:List Int)(x:Int)(h:IntsAt w v cs):
  Calls Tryz.prog 153 #[v,.int .i64 x] w fun e w'=>e= .returned (.bool (cs.contains x))∧w'=w:=by
 have C:=Lib.hid (index_any w v cs x h);obtain⟨A,cap,rfl,hA⟩:=ints_open h;clear h hA;go_enter Tryz.func153,Tryz.ntmps153;go_wp2_with (go_at_call 204;refine C.out.mono ?_;rintro e w1 ⟨r,rfl,rfl,hi⟩;rcases hi with ⟨rfl,hno⟩|⟨k,rfl,hk,-⟩)
 ·have hb:cs.contains x=false:=by
   rw[Bool.eq_false_iff];intro hc;exact hno x (List.contains_iff_mem.1 hc) rfl
  rw[hb];go_ret;exact⟨rfl,rfl⟩
 ·have hb:cs.contains x=true:=List.contains_iff_mem.2 (List.mem_of_getElem? hk);rw[hb];go_ret;exact⟨rfl,rfl⟩
theorem ret_bool {a b:Bool}(h:a=b):Ending.returned (.bool a)= .returned (.bool b):=by rw[h]
theorem int_info:∃i0:TypeInfo,Tryz.prog.info? 3=some i0∧i0.zero=some (.int .i64 0)∧i0.size=1∧i0.bytes=8:=⟨_,rfl,rfl,rfl,rfl⟩
theorem clone_any (w:World)(v:Value)(cs:List Int)(h:IntsAt w v cs)(h0:0<cs.length)(hn:cs.length≤1000000000000):
  Calls Tryz.prog 252 #[v] w fun e w'=>∃v',e= .returned v'∧w'.ownsRow w.heap.size 3 1 v' cs.length (cs.map (Value.int .i64))∧Below w.heap.size w w':=by
 obtain⟨i0,hi,hz0,hz1,hz2⟩:=int_info;obtain⟨rfl,_⟩|⟨b,off,cap,rfl,h1,h2,h3,h4⟩:=h
 ·simp at h0
 have HC:=Lib.hid h4;clear h4;obtain⟨n,hN⟩:∃n,n=cs.length:=⟨_,rfl⟩;rw[←hN]at h0 hn h2⊢;have hq:∀W,(binOp .eql 42 (.slice (some ⟨b,off,none⟩) n cap) (.slice none 0 0)).run Tryz.prog W= .ok (.bool false) W:=fun W=>Lib.run_eql_slice_nil W _ _ _ _ _ _ _ Tryz.underlying42;have hcell:∀o j u,(cs.map (Value.int .i64))[j]?=some u→(w.alloc o).cell? ((⟨b,off,none⟩:Addr).add j)=some u:=by
  intro o j u hj;rw[Addr.add_lit];rw[List.getElem?_map,Option.map_eq_some_iff]at hj;obtain⟨c,hc,rfl⟩:=hj;exact(cell_old (p:=⟨b,off+j,none⟩) ((Below.refl _ w).alloc (Nat.le_refl _) o) h1).trans (HC.out j c hc)
 have hone:∀u∈cs.map (Value.int .i64),u.oneCell'=true:=by
  intro u hu;obtain⟨x,_,rfl⟩:=List.mem_map.1 hu;rfl
 have hlen:(cs.map (Value.int .i64)).length=n*1:=by simp[hN]
 have HL:=Lib.hid (And.intro hcell (And.intro hone hlen));clear hcell hone hlen hN;go_enter Tryz.func252,Tryz.ntmps252;go_wp2_with (at_builtin;refine wpList_append_own _ rfl _ _ 42 rfl w.heap.size 3 i0 (.int .i64 0) 1 8 Tryz.underlying42 hi hz0 hz1 hz2 rfl (by decide) _ _ _ rfl (World.ownsRow_made w #[] 0 (Nat.le_refl _) (Nat.zero_le _) rfl) ⟨b,off,none⟩ n cap (cs.map (Value.int .i64)) rfl HL.out.2.2 (HL.out.1 _) HL.out.2.1 (by unfold maxLen;omega) (by omega) (by simp) ?_);intro v' w1 hown hgrow _;go_wp2;go_ret;refine⟨v',rfl,by simpa using hown,?_⟩;exact((Below.refl _ w).alloc (Nat.le_refl _) _).grown hgrow (by simp) (by intro k hk;simp[Value.ownBlock]at hk;omega)
theorem items_bd {w:World}{v:Value}{l:List It}(h:ItemsAt w v l):l.length≤9223372036854775807:=by
 rcases h with ⟨rfl,_⟩|⟨b,off,cap,rfl,h1,h2,h3,h4⟩
 ·exact Nat.zero_le _
 ·unfold maxLen at h3;omega
theorem items_openO {w:World}{v:Value}{l:List It}(h:ItemsAt w v l):∃A cap,v= .slice A l.length cap∧∀(i:Nat) it,l[i]?=some it→∃q o,A=some ⟨q,o,none⟩∧q<w.heap.size∧l.length≤cap∧w.cell? ⟨q,o+i*3,none⟩=some (.bool it.any)∧w.cell? ⟨q,o+i*3+1,none⟩=some (.bool it.not)∧∃a m c,w.cell? ⟨q,o+i*3+2,none⟩=some (.slice a m c)∧IntsAt w (.slice a m c) it.set:=by
 obtain⟨rfl,a,cap,rfl⟩|⟨b,off,cap,rfl,hlt,hcap,hm,hc⟩:=h
 ·exact⟨a,cap,rfl,fun i c hi=>by simp at hi⟩
 ·refine⟨_,cap,rfl,fun i it hi=>?_⟩;obtain⟨k1,k2,sv,k3,k4⟩:=hc i it hi;obtain⟨A,cp,rfl,-⟩:=ints_open k4;exact⟨b,off,rfl,hlt,hcap,k1,k2,_,_,_,k3,k4⟩
end Go.Proofs.YtfehpcbmdancoaaGreatDoor
namespace Go.Proofs.YtfehpcbmdancoaaGreatDoor.Af
open Go Go.RowKit Go.Lib
theorem wt1_any (w:World)(q:Nat)(c g s:Int)(hq:w.heap[q]?=some (.cells #[.int .i64 c] 3 (0,0))):
  Calls Tryz.prog 197 #[.agg #[.int .i64 g,.int .i64 s],.pointer (some ⟨q,0,none⟩)] w fun e w'=>e= .returned (.bool (g==c||s==c))∧Below w.heap.size w w':=by
 have hlt:q<w.heap.size:=(Array.getElem?_eq_some_iff.1 hq).1;have HB:=hid ((Below.refl w.heap.size w).alloc (Nat.le_refl _) (.cells #[.int .i64 g,.int .i64 s] 118));have z0:(w.alloc (.cells #[.int .i64 g,.int .i64 s] 118)).cell? ⟨q,0,none⟩=some (.int .i64 c):=by
  refine(HB.out.cell (p:=⟨q,0,none⟩) hlt).trans ?_;simp[World.cell?,hq]
 clear hq;by_cases h1:c=g
 ·subst h1;have d1:(c==c)=true:=by simp
  rw[d1,Bool.true_or];go_enter Tryz.func197,Tryz.ntmps197;go_wp2_with fail;go_ret;exact⟨rfl,HB.out⟩
 ·have d1:(g==c)=false:=by simpa using fun e=>h1 e.symm
  have d2:(c==g)=false:=by simpa using h1
  have d3:decide (c=g)=false:=decide_eq_false h1;rw[d1,Bool.false_or];by_cases h2:c=s
  ·subst h2;have e1:(c==c)=true:=by simp
   rw[e1];clear d1 h1;go_enter Tryz.func197,Tryz.ntmps197;go_wp2_with fail;go_ret;exact⟨rfl,HB.out⟩
  ·have e1:(s==c)=false:=by simpa using fun e=>h2 e.symm
   have e2:(c==s)=false:=by simpa using h2
   have e3:decide (c=s)=false:=decide_eq_false h2;rw[e1];clear d1 h1 e1 h2;go_enter Tryz.func197,Tryz.ntmps197;go_wp2_with fail;go_ret;exact⟨rfl,HB.out⟩
theorem wip_any (w:World)(v:Value)(ps:List (Int×Int))(q:Nat)(c:Int)(h:PairsAt w v ps)(hq:w.heap[q]?=some (.cells #[.int .i64 c] 3 (0,0))):
  Calls Tryz.prog 238 #[v,.func (.func 197) #[] #[.pointer (some ⟨q,0,none⟩)]] w fun e w'=>(∃r:Int,e= .returned (.int .i64 r)∧decide (0≤r)=usedP ps c)∧Below w.heap.size w w':=by
 have hlt:q<w.heap.size:=(Array.getElem?_eq_some_iff.1 hq).1;obtain⟨B,m,cB,rfl,hm⟩:∃B m cB,v= .slice B m cB∧m=ps.length:=by
  rcases h with ⟨rfl,a,c,rfl⟩|⟨b,off,c,rfl,_⟩
  ·exact⟨_,_,_,rfl,rfl⟩
  ·exact⟨_,_,_,rfl,rfl⟩
 have l2:=h.bd.1;unfold maxLen at l2;rw[←hm]at l2;have HP:=hid (pairs_open h);have HM:=hid hm;have CT:=hid (fun wx (hb:Below w.heap.size w wx) g s=>wt1_any wx q c g s ((hb.block q hlt).trans hq));clear h hm hq hlt;go_enter Tryz.func238,Tryz.ntmps238;go_wp2_with fail;go_loopg [5,8] m (fun g _s5 i wr=>∃k:Nat,k+g=m∧i= .int .i64 k∧Hid (Below w.heap.size w wr∧usedP (ps.take k) c=false))
 case atStart=>exact⟨0,by omega,rfl,hid ⟨Below.refl _ _,by simp[usedP]⟩⟩
 case round=>
  obtain⟨k,hk,rfl,HK⟩:=hrel;have hk0:(0:Int)≤k:=by omega
  rcases Nat.eq_zero_or_pos gk with h0|h0
  ·have hkm:¬(k:Int)<m:=by omega
   have HF:=hid (show usedP ps c=false by
    have h:=HK.out.2;rwa[List.take_of_length_le (by have:=HM.out;omega)]at h)
   go_wp2_with fail;go_ret;exact⟨⟨_,rfl,by rw[HF.out];rfl⟩,HK.out.1⟩
  ·have hkm:(k:Int)<m:=by omega
   obtain⟨p,hp⟩:∃p,ps[k]?=some p:=⟨_,List.getElem?_eq_getElem (by have:=HM.out;omega)⟩;obtain⟨b,off,rfl,hb,hc,e0,e1⟩:=HP.out k p hp;have f0:=(HK.out.1.cell (p:=⟨b,off+k*2,none⟩) hb).trans e0;have f1:=(HK.out.1.cell (p:=⟨b,off+k*2+1,none⟩) hb).trans e1;have hm1:(m:Int)≤cB:=by omega
   have C1:=hid (CT.out wr HK.out.1 p.1 p.2);have HU:=hid (used_take1 (c:=c) hp);have HI:=hid (used_in1 (c:=c) hp);clear e0 e1 hb hc hp;obtain⟨g1,g2⟩:=p;dsimp only at f0 f1 C1 HU HI;cases hz:(g1==c||g2==c)with
   | true=>
     rw[hz]at C1 HI;have HI2:=hid (HI.out rfl);clear hz HU HI;go_wp2_with (go_at_call 197;refine C1.out.mono ?_);rintro e w2 ⟨rfl,hb2⟩;have HB2:=hid (HK.out.1.trans (hb2.mono HK.out.1.size));clear hb2;go_wp2_with fail;go_ret;exact⟨⟨_,rfl,by rw[HI2.out];exact decide_eq_true (by omega)⟩,HB2.out⟩
   | false=>
     rw[hz]at C1 HU;have HU2:=hid (show usedP (ps.take (k+1)) c=false by rw[HU.out,HK.out.2];rfl);clear hz HU HI;go_wp2_with (go_at_call 197;refine C1.out.mono ?_);rintro e w2 ⟨rfl,hb2⟩;have HB2:=hid (HK.out.1.trans (hb2.mono HK.out.1.size));clear hb2;go_wp2_with fail;go_roundg (gk-1)
     case measure=>omega
     case rel=>exact⟨k+1,by omega,by go_num,hid ⟨HB2.out,HU2.out⟩⟩
theorem wcp_any (w:World)(v:Value)(ps:List (Int×Int))(q:Nat)(c:Int)(h:PairsAt w v ps)(hq:w.heap[q]?=some (.cells #[.int .i64 c] 3 (0,0))):
  Calls Tryz.prog 196 #[v,.func (.func 197) #[] #[.pointer (some ⟨q,0,none⟩)]] w fun e w'=>e= .returned (.bool (usedP ps c))∧Below w.heap.size w w':=by
 have C:=hid (wip_any w v ps q c h hq);obtain⟨B,m,cB,rfl,hm⟩:∃B m cB,v= .slice B m cB∧m=ps.length:=by
  rcases h with ⟨rfl,a,c,rfl⟩|⟨b,off,c,rfl,_⟩
  ·exact⟨_,_,_,rfl,rfl⟩
  ·exact⟨_,_,_,rfl,rfl⟩
 clear h hq hm;go_enter Tryz.func196,Tryz.ntmps196;go_wp2_with (go_at_call 238;refine C.out.mono ?_;rintro e w1 ⟨⟨r,rfl,hr⟩,hb⟩;have HR:=hid hr;have HB:=hid hb;clear hr hb);go_ret;exact⟨ret_bool HR.out,HB.out⟩
def takenP (ps:List (Int×Int))(c:Int):Bool:=plainC c||usedP ps c
theorem wtaken_any (w:World)(H:Nat)(v:Value)(ps:List (Int×Int))(c:Int)(hv:w.cell? ⟨H,1,none⟩=some v)(hH:H<w.heap.size)(h:PairsAt w v ps):
  Calls Tryz.prog 145 #[.pointer (some ⟨H,0,none⟩),.int .i64 c] w fun e w'=>e= .returned (.bool (takenP ps c))∧Below w.heap.size w w':=by
 have hb0:=(Below.refl w.heap.size w).alloc (Nat.le_refl _) (.cells #[.int .i64 c] 3);have HB:=hid hb0;have C:=hid (wcp_any (w.alloc (.cells #[.int .i64 c] 3)) v ps w.heap.size c (h.keep hb0) (World.alloc_heap_new w _));have hv1:=(hb0.cell (p:=⟨H,1,none⟩) hH).trans hv;obtain⟨B,m,cB,rfl⟩:∃B m cB,v= .slice B m cB:=by
  rcases h with ⟨rfl,a,c,rfl⟩|⟨b,off,c,rfl,_⟩
  ·exact⟨_,_,_,rfl⟩
  ·exact⟨_,_,_,rfl⟩
 clear h hb0 hv;unfold takenP plainC;by_cases c1:65≤c
 ·by_cases c2:c≤90
  ·rw[decide_eq_true (.inl ⟨c1,c2⟩),Bool.true_or];clear C;go_enter Tryz.func145,Tryz.ntmps145;go_wp2_with fail;go_ret;exact⟨rfl,HB.out⟩
  ·by_cases c3:97≤c
   ·by_cases c4:c≤122
    ·rw[decide_eq_true (.inr ⟨c3,c4⟩),Bool.true_or];clear C;go_enter Tryz.func145,Tryz.ntmps145;go_wp2_with fail;go_ret;exact⟨rfl,HB.out⟩
    ·rw[decide_eq_false (by omega),Bool.false_or];go_enter Tryz.func145,Tryz.ntmps145;go_wp2_with (go_at_call 196;refine C.out.mono ?_;rintro e w1 ⟨rfl,hb⟩;have HB1:=hid (HB.out.trans (hb.mono HB.out.size));clear hb);go_ret;exact⟨rfl,HB1.out⟩
   ·rw[decide_eq_false (by omega),Bool.false_or];go_enter Tryz.func145,Tryz.ntmps145;go_wp2_with (go_at_call 196;refine C.out.mono ?_;rintro e w1 ⟨rfl,hb⟩;have HB1:=hid (HB.out.trans (hb.mono HB.out.size));clear hb);go_ret;exact⟨rfl,HB1.out⟩
 ·rw[decide_eq_false (by omega),Bool.false_or];have c3:¬97≤c:=by omega
  go_enter Tryz.func145,Tryz.ntmps145;go_wp2_with (go_at_call 196;refine C.out.mono ?_;rintro e w1 ⟨rfl,hb⟩;have HB1:=hid (HB.out.trans (hb.mono HB.out.size));clear hb);go_ret;exact⟨rfl,HB1.out⟩
theorem wii_any (w:World)(H:Nat)(v u:Value)(ps:List (Int×Int))(cs:List Int)(hv:w.cell? ⟨H,1,none⟩=some v)(hH:H<w.heap.size)(h:PairsAt w v ps)(hc:IntsAt w u cs):
  Calls Tryz.prog 195 #[u,.func (.func 145) #[.pointer (some ⟨H,0,none⟩)] #[]] w fun e w'=>(∃r:Int,e= .returned (.int .i64 r)∧decide (0≤r)=cs.any (takenP ps))∧Below w.heap.size w w':=by
 have hbig:=ints_bd hc;obtain⟨A,cap,rfl,hA⟩:=ints_open hc;have HA:=hid hA;have CT:=hid (fun wx (hb:Below w.heap.size w wx) c=>wtaken_any wx H v ps c ((hb.cell (p:=⟨H,1,none⟩) hH).trans hv) (Nat.lt_of_lt_of_le hH hb.size) (h.keep hb));obtain⟨n,hn⟩:∃n,n=cs.length:=⟨_,rfl⟩;rw[←hn]at hbig⊢;have HN:=hid hn;clear hn hc hA h hv hH;go_enter Tryz.func195,Tryz.ntmps195;go_wp2_with fail;go_loopg [5,8] n (fun g _s5 i wr=>∃k:Nat,k+g=n∧i= .int .i64 k∧Hid (Below w.heap.size w wr∧(cs.take k).any (takenP ps)=false))
 case atStart=>exact⟨0,by omega,rfl,hid ⟨Below.refl _ _,by simp⟩⟩
 case round=>
  obtain⟨k,hk,rfl,HK⟩:=hrel;have hk0:(0:Int)≤k:=by omega
  rcases Nat.eq_zero_or_pos gk with h0|h0
  ·have hkm:¬(k:Int)<n:=by omega
   have HF:=hid (show cs.any (takenP ps)=false by
    have h:=HK.out.2;rwa[List.take_of_length_le (by have:=HN.out;omega)]at h)
   go_wp2_with fail;go_ret;exact⟨⟨_,rfl,by rw[HF.out];rfl⟩,HK.out.1⟩
  ·have hkm:(k:Int)<n:=by omega
   obtain⟨c,hc⟩:∃c,cs[k]?=some c:=⟨_,List.getElem?_eq_getElem (by have:=HN.out;omega)⟩;obtain⟨q,o,rfl,hq,hqc,cq⟩:=HA.out k c hc;have f0:=(HK.out.1.cell (p:=⟨q,o+k,none⟩) hq).trans cq;have hm1:(n:Int)≤cap:=by have:=HN.out;omega
   have C1:=hid (CT.out wr HK.out.1 c);obtain⟨hlt,hce⟩:=List.getElem?_eq_some_iff.1 hc;have HU:=hid (show (cs.take (k+1)).any (takenP ps)=((cs.take k).any (takenP ps)||takenP ps c)by rw[List.take_succ_eq_append_getElem hlt,hce,List.any_append];simp);have HI:=hid (show takenP ps c=true→cs.any (takenP ps)=true from fun ht=>List.any_eq_true.2 ⟨c,List.mem_of_getElem? hc,ht⟩);clear cq hqc hc hq hlt hce;cases hz:takenP ps c with
   | true=>
     rw[hz]at C1 HI;have HI2:=hid (HI.out rfl);clear hz HU HI;go_wp2_with (go_at_call 145;refine C1.out.mono ?_);rintro e w2 ⟨rfl,hb2⟩;have HB2:=hid (HK.out.1.trans (hb2.mono HK.out.1.size));clear hb2;go_wp2_with fail;go_ret;exact⟨⟨_,rfl,by rw[HI2.out];exact decide_eq_true (by omega)⟩,HB2.out⟩
   | false=>
     rw[hz]at C1 HU;have HU2:=hid (show (cs.take (k+1)).any (takenP ps)=false by rw[HU.out,HK.out.2];rfl);clear hz HU HI;go_wp2_with (go_at_call 145;refine C1.out.mono ?_);rintro e w2 ⟨rfl,hb2⟩;have HB2:=hid (HK.out.1.trans (hb2.mono HK.out.1.size));clear hb2;go_wp2_with fail;go_roundg (gk-1)
     case measure=>omega
     case rel=>exact⟨k+1,by omega,by go_num,hid ⟨HB2.out,HU2.out⟩⟩
theorem wci_any (w:World)(H:Nat)(v u:Value)(ps:List (Int×Int))(cs:List Int)(hv:w.cell? ⟨H,1,none⟩=some v)(hH:H<w.heap.size)(h:PairsAt w v ps)(hc:IntsAt w u cs):
  Calls Tryz.prog 144 #[u,.func (.func 145) #[.pointer (some ⟨H,0,none⟩)] #[]] w fun e w'=>e= .returned (.bool (cs.any (takenP ps)))∧Below w.heap.size w w':=by
 have C:=hid (wii_any w H v u ps cs hv hH h hc);obtain⟨A,cap,rfl,-⟩:=ints_open hc;clear h hc hv hH;go_enter Tryz.func144,Tryz.ntmps144;go_wp2_with (go_at_call 195;refine C.out.mono ?_;rintro e w1 ⟨⟨r,rfl,hr⟩,hb⟩;have HR:=hid hr;have HB:=hid hb;clear hr hb);go_ret;exact⟨ret_bool HR.out,HB.out⟩
end Go.Proofs.YtfehpcbmdancoaaGreatDoor.Af
