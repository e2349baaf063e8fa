/- The landed reader's add by contract. -/
import Derived.Deep.AppendLies
import Derived.Deep.RegionLaw
import Derived.Deep.CutRange
import Derived.Deep.DeepCutAuto
import Derived.BigQuiet
import Derived.StillTailTactics
import Derived.Test.YtfehpcbmdancoaaGreatDoorPdPbNNew
import Derived.Test.YtfehpcbmdancoaaGreatDoorPdPbNPlain
import Derived.Test.YtfehpcbmdancoaaGreatDoorPdPbORows
import Derived.Test.YtfehpcbmdancoaaGreatDoorPdPbRPlain
import Derived.Test.YtfehpcbmdancoaaGreatDoorPdPbSmall
set_option maxRecDepth 100000
set_option maxHeartbeats 2000000
namespace Go.Proofs.YtfehpcbmdancoaaGreatDoor.Af
open Go Go.RowKit Go.Lib
theorem Tryz.infosL123:(Tryz.prog.info? 123).map (fun i=>(i.zero,i.size,i.bytes))=some (some (.agg #[.bool false,.int .i64 0,.bool false,.string ⟨#[]⟩,.string ⟨#[]⟩,.slice none 0 0]),6,80):=by kernel_rfl
theorem Tryz.infosL118:(Tryz.prog.info? 118).map (fun i=>(i.zero,i.size,i.bytes))=some (some (.agg #[.int .i64 0,.int .i64 0]),2,16):=by kernel_rfl
theorem wa1_any (w:World)(q:Nat)(p:Ru)(sv:Value)(b:Bool)(f:Int)(hlt:q<w.heap.size)(h0:w.cell? ⟨q,0,none⟩=some (.bool b))(h1:w.cell? ⟨q,1,none⟩=some (.int .i64 f))(hsv:∃A n c,sv= .slice A n c):
  Calls Tryz.prog 146 #[.agg #[.bool p.pre,.int .i64 p.flag,.bool p.cross,.string p.strip,.string p.add,sv],.pointer (some ⟨q,0,none⟩)] w fun e w'=>e= .returned (.bool (p.flag==f&& !(p.pre==b)))∧Below w.heap.size w w':=by
 obtain⟨A,n,c,rfl⟩:=hsv;have HB:=hid ((Below.refl w.heap.size w).alloc (Nat.le_refl _) (.cells #[.bool p.pre,.int .i64 p.flag,.bool p.cross,.string p.strip,.string p.add,.slice A n c] 123));have z0:=(HB.out.cell (p:=⟨q,0,none⟩) hlt).trans h0;have z1:=(HB.out.cell (p:=⟨q,1,none⟩) hlt).trans h1;obtain⟨pp,pf,pc,ps,pa,pl⟩:=p;dsimp only at HB z0 z1⊢;clear h0 h1;by_cases hf:pf=f
 ·subst hf;have d1:(pf==pf)=true:=by simp
  rw[d1,Bool.true_and];by_cases hp:pp=b
  ·subst hp;have d2:(pp==pp)=true:=by simp
   rw[d2];go_enter Tryz.func146,Tryz.ntmps146;go_wp2_with fail;go_ret;exact⟨rfl,HB.out⟩
  ·have d2:(pp==b)=false:=by simpa using hp
   have d3:(pp != b)=true:=by simpa using hp
   rw[d2];clear hp;go_enter Tryz.func146,Tryz.ntmps146;go_wp2_with fail;go_ret;exact⟨rfl,HB.out⟩
 ·have d1:(pf==f)=false:=by simpa using hf
  have d3:decide (pf=f)=false:=decide_eq_false hf;rw[d1,Bool.false_and];clear hf;go_enter Tryz.func146,Tryz.ntmps146;go_wp2_with fail;go_ret;exact⟨rfl,HB.out⟩
theorem clash_take {rs:List Ru}{k:Nat}{p r:Ru}(h:rs[k]?=some p):clash (rs.take (k+1)) r=(clash (rs.take k) r||(p.flag==r.flag&& !(p.pre==r.pre))):=by
 obtain⟨hlt,he⟩:=List.getElem?_eq_some_iff.1 h;unfold clash;rw[List.take_succ_eq_append_getElem hlt,he,List.any_append];simp
theorem clash_in {rs:List Ru}{k:Nat}{p r:Ru}(h:rs[k]?=some p)(hc:(p.flag==r.flag&& !(p.pre==r.pre))=true):clash rs r=true:=by
 unfold clash;rw[List.any_eq_true];exact⟨p,List.mem_of_getElem? h,hc⟩
theorem wir_any (w:World)(v:Value)(rs:List Ru)(q:Nat)(r:Ru)(h:RulesAt w v rs)(hlt:q<w.heap.size)(h0:w.cell? ⟨q,0,none⟩=some (.bool r.pre))(h1:w.cell? ⟨q,1,none⟩=some (.int .i64 r.flag)):
  Calls Tryz.prog 198 #[v,.func (.func 146) #[] #[.pointer (some ⟨q,0,none⟩)]] w fun e w'=>(∃x:Int,e= .returned (.int .i64 x)∧decide (0≤x)=clash rs r)∧Below w.heap.size w w':=by
 obtain⟨B,m,cB,rfl,hm⟩:∃B m cB,v= .slice B m cB∧m=rs.length:=by
  rcases h with ⟨rfl,a,c,rfl⟩|⟨b,off,c,rfl,_⟩
  ·exact⟨_,_,_,rfl,rfl⟩
  ·exact⟨_,_,_,rfl,rfl⟩
 have l2:=h.bd.1;unfold maxLen at l2;rw[←hm]at l2;have HP:=hid (rules_open h);have HM:=hid hm;have CT:=hid (fun wx (hb:Below w.heap.size w wx) p A n c=>wa1_any wx q p (.slice A n c) r.pre r.flag (Nat.lt_of_lt_of_le hlt hb.size) ((hb.cell (p:=⟨q,0,none⟩) hlt).trans h0) ((hb.cell (p:=⟨q,1,none⟩) hlt).trans h1) ⟨A,n,c,rfl⟩);clear h hm hlt h0 h1;go_enter Tryz.func198,Tryz.ntmps198;go_wp2_with fail;go_loopg [5,8] m (fun g _s5 i wr=>∃k:Nat,k+g=m∧i= .int .i64 k∧Hid (Below w.heap.size w wr∧clash (rs.take k) r=false))
 case atStart=>exact⟨0,by omega,rfl,hid ⟨Below.refl _ _,by simp[clash]⟩⟩
 case round=>
  obtain⟨k,hk,rfl,HK⟩:=hrel;have hk0:(0:Int)≤k:=by omega
  rcases Nat.eq_zero_or_pos gk with h0|h0
  ·have hkm:¬(k:Int)<m:=by omega
   have HF:=hid (show clash rs r=false by
    have h:=HK.out.2;rwa[List.take_of_length_le (by have:=HM.out;omega)]at h)
   go_wp2_with fail;go_ret;exact⟨⟨_,rfl,by rw[HF.out];rfl⟩,HK.out.1⟩
  ·have hkm:(k:Int)<m:=by omega
   obtain⟨p,hp⟩:∃p,rs[k]?=some p:=⟨_,List.getElem?_eq_getElem (by have:=HM.out;omega)⟩;obtain⟨b,off,rfl,hb,hc,hRU⟩:=HP.out k p hp;obtain⟨D,dc,e0,e1,e2,e3,e4,e5,-⟩:=(hRU.keep HK.out.1 hb).at_;have hm1:(m:Int)≤cB:=by omega
   obtain⟨dn,hdn⟩:∃d,d=p.cond.length:=⟨_,rfl⟩;rw[←hdn]at e5;have C1:=hid (CT.out wr HK.out.1 p D dn dc);have HU:=hid (clash_take (r:=r) hp);have HI:=hid (clash_in (r:=r) hp);clear hRU hb hc hp hdn;obtain⟨pp,pf,pc,ps,pa,pl⟩:=p;dsimp only at e0 e1 e2 e3 e4 C1 HU HI;cases hz:(pf==r.flag&& !(pp==r.pre))with
   | true=>
     rw[hz]at C1 HI;have HI2:=hid (HI.out rfl);clear hz HU HI;go_wp2_with (go_at_call 146;refine C1.out.mono ?_);rintro e w2 ⟨rfl,hb2⟩;have HB2:=hid (HK.out.1.trans (hb2.mono HK.out.1.size));clear hb2;go_wp2_with fail;go_ret;exact⟨⟨_,rfl,by rw[HI2.out];exact decide_eq_true (by omega)⟩,HB2.out⟩
   | false=>
     rw[hz]at C1 HU;have HU2:=hid (show clash (rs.take (k+1)) r=false by rw[HU.out,HK.out.2];rfl);clear hz HU HI;go_wp2_with (go_at_call 146;refine C1.out.mono ?_);rintro e w2 ⟨rfl,hb2⟩;have HB2:=hid (HK.out.1.trans (hb2.mono HK.out.1.size));clear hb2;go_wp2_with fail;go_roundg (gk-1)
     case measure=>omega
     case rel=>exact⟨k+1,by omega,by go_num,hid ⟨HB2.out,HU2.out⟩⟩
theorem wcr_any (w:World)(v:Value)(rs:List Ru)(q:Nat)(r:Ru)(h:RulesAt w v rs)(hlt:q<w.heap.size)(h0:w.cell? ⟨q,0,none⟩=some (.bool r.pre))(h1:w.cell? ⟨q,1,none⟩=some (.int .i64 r.flag)):
  Calls Tryz.prog 147 #[v,.func (.func 146) #[] #[.pointer (some ⟨q,0,none⟩)]] w fun e w'=>e= .returned (.bool (clash rs r))∧Below w.heap.size w w':=by
 have C:=hid (wir_any w v rs q r h hlt h0 h1);obtain⟨B,m,cB,rfl⟩:∃B m cB,v= .slice B m cB:=by
  rcases h with ⟨rfl,a,c,rfl⟩|⟨b,off,c,rfl,_⟩
  ·exact⟨_,_,_,rfl⟩
  ·exact⟨_,_,_,rfl⟩
 clear h hlt h0 h1;go_enter Tryz.func147,Tryz.ntmps147;go_wp2_with (go_at_call 198;refine C.out.mono ?_;rintro e w1 ⟨⟨x,rfl,hx⟩,hb⟩;have HR:=hid hx;have HB:=hid hb;clear hx hb);go_ret;exact⟨ret_bool HR.out,HB.out⟩
structure AddAt (w0 wx:World)(HA:Nat)(F:Nat→Prop)(rv pv:Value)(xs:List Value)(d:Rd)(k m:Int)(q:Nat)(r:Ru)(A:Option Addr)(cap:Nat):Prop where
 lq:LQ w0 wx HA F rv pv xs d k m
 bx:wx.heap[q]?=some (.cells #[.bool r.pre,.int .i64 r.flag,.bool r.cross,.string r.strip,.string r.add,.slice A r.cond.length cap] 123 (0,0))
 it:ItemsIn F wx (.slice A r.cond.length cap) r.cond
 ne:HA<q
theorem AddAt.keep {w0 w w':World}{HA:Nat}{F:Nat→Prop}{rv pv:Value}{xs:List Value}{d:Rd}{k m:Int}{q:Nat}{r:Ru}{A:Option Addr}{cap:Nat}(h:AddAt w0 w HA F rv pv xs d k m q r A cap)(hb:Below w.heap.size w w'):AddAt w0 w' HA F rv pv xs d k m q r A cap:=
 ⟨h.lq.keep hb,(hb.block q (Array.getElem?_eq_some_iff.1 h.bx).1).trans h.bx,h.it.still hb.size fun b _ hlt=>hb.block b hlt,h.ne⟩
theorem AddAt.mixed {w0 w:World}{HA:Nat}{F:Nat→Prop}{rv pv:Value}{xs:List Value}{d:Rd}{k m:Int}{q:Nat}{r:Ru}{A:Option Addr}{cap:Nat}(h:AddAt w0 w HA F rv pv xs d k m q r A cap)(m':Int):AddAt w0 (w.setCell ⟨HA,4,none⟩ (.int .i64 m')) HA F rv pv xs d k m' q r A cap:=
 ⟨h.lq.mixed m',(set_other _ _ _ _ (by have:=h.ne;omega)).trans h.bx,h.it.still (by rw[set_size];exact Nat.le_refl _) fun b hF _=>set_other _ _ _ _ (by have:=(h.lq.foot b hF).1;omega),h.ne⟩
theorem AddAt.cells {w0 w:World}{HA:Nat}{F:Nat→Prop}{rv pv:Value}{xs:List Value}{d:Rd}{k m:Int}{q:Nat}{r:Ru}{A:Option Addr}{cap:Nat}(h:AddAt w0 w HA F rv pv xs d k m q r A cap):
  w.cell? ⟨q,0,none⟩=some (.bool r.pre)∧w.cell? ⟨q,1,none⟩=some (.int .i64 r.flag)∧w.cell? ⟨q,2,none⟩=some (.bool r.cross)∧w.cell? ⟨q,3,none⟩=some (.string r.strip)∧w.cell? ⟨q,4,none⟩=some (.string r.add)∧w.cell? ⟨q,5,none⟩=some (.slice A r.cond.length cap):=by
 refine⟨?_,?_,?_,?_,?_,?_⟩<;>simp[World.cell?,h.bx]
theorem AddAt.start {w0 w:World}{HA:Nat}{F:Nat→Prop}{rv pv:Value}{xs:List Value}{d:Rd}{k m:Int}{r:Ru}{A:Option Addr}{cap:Nat}(h:LQ w0 w HA F rv pv xs d k m)(hi:ItemsIn F w (.slice A r.cond.length cap) r.cond):
  AddAt w0 (w.alloc (.cells #[.bool r.pre,.int .i64 r.flag,.bool r.cross,.string r.strip,.string r.add,.slice A r.cond.length cap] 123)) HA F rv pv xs d k m w.heap.size r A cap:=
 have hb:=(Below.refl w.heap.size w).alloc (Nat.le_refl _) (.cells #[.bool r.pre,.int .i64 r.flag,.bool r.cross,.string r.strip,.string r.add,.slice A r.cond.length cap] 123)
 ⟨h.keep hb,World.alloc_heap_new w _,hi.still hb.size fun b _ hlt=>hb.block b hlt,h.hi⟩
theorem rule_one1 (a:Bool)(b:Int)(c:Bool)(x y:ByteArray)(A:Option Addr)(n cp:Nat):∀u∈[Value.bool a,.int .i64 b,.bool c,.string x,.string y,.slice A n cp],u.oneCell'=true:=by
 intro u hu;simp only[List.mem_cons,List.not_mem_nil,or_false]at hu;rcases hu with rfl|rfl|rfl|rfl|rfl|rfl<;>rfl
theorem wadd_any (w0 w:World)(HA:Nat)(F:Nat→Prop)(rv pv:Value)(xs:List Value)(d:Rd)(k m:Int)(r:Ru)(A:Option Addr)(cap n:Nat)(h:LQ w0 w HA F rv pv xs d k m)
  (hm:m=(flagA [] d.rules d.at_:Nat)) (ha:AtsOk d) (hk:k=(n:Nat)) (hn:d.rules.length≤100000) (hi:ItemsIn F w (.slice A r.cond.length cap) r.cond):
  Calls Tryz.prog 92 #[.pointer (some ⟨HA,0,none⟩),.agg #[.bool r.pre,.int .i64 r.flag,.bool r.cross,.string r.strip,.string r.add,.slice A r.cond.length cap]] w fun e w'=>e= .returned (.tuple #[])∧
   ∃rv' xs',LQ w0 w' HA F rv' pv xs' { d with rules:=d.rules++[r],at_:=d.at_++[n] } k (flagA [] (d.rules++[r]) (d.at_++[n]):Nat):=by
 obtain⟨i1,hi1,hz10,hz11,hz12⟩:=info_parts Tryz.infosL123;have hS:=AddAt.start h hi;obtain⟨W1,hW1⟩:∃W1,W1=w.alloc (.cells #[.bool r.pre,.int .i64 r.flag,.bool r.cross,.string r.strip,.string r.add,.slice A r.cond.length cap] 123):=⟨_,rfl⟩;rw[←hW1]at hS;obtain⟨q,hq⟩:∃q,q=w.heap.size:=⟨_,rfl⟩;rw[←hq]at hS;have HS:=hid hS;obtain⟨RA,cR,RB,cR',rfl,rfl,hRA,-⟩:=hS.lq.forms;have hfl:=flagA_snoc d.rules [] d.at_ r n ha.1 ha.2;rw[List.nil_append]at hfl;have HFL:=hid hfl;have HMK:=hid (And.intro hm hk);have hqlt:q<W1.heap.size:=(Array.getElem?_eq_some_iff.1 hS.bx).1;have CC:=hid (wcr_any W1 _ d.rules q r hRA hqlt hS.cells.1 hS.cells.2.1);obtain⟨x0,x1,x2,x3,x4,fz⟩:=hS.lq.boxc;obtain⟨rn,hrn⟩:∃n,n=d.rules.length:=⟨_,rfl⟩;obtain⟨pn,hpn⟩:∃n,n=d.pairs.length:=⟨_,rfl⟩;have HRN:=hid (And.intro hrn hpn);rw[←hrn,←hpn]at HS;rw[←hpn]at x1⊢;rw[←hrn]at CC x0 hn;obtain⟨dl,hdl⟩:∃n,n=r.cond.length:=⟨_,rfl⟩;have HDL:=hid hdl;have HW1:=hid hW1;have HQ:=hid hq;obtain⟨rp,rf,rc,rs,ra,rl⟩:=r;dsimp only at hW1 HW1 hdl HDL⊢;rw[←hdl]at hW1 HW1⊢;clear h hm ha hk hi hS hfl hRA hrn hpn hdl hqlt;go_enter Tryz.func92,Tryz.ntmps92;go_upto_region 1 with fail;rw[←HW1.out,←HQ.out];clear hW1 hq;go_upto_region 2 with fail;obtain⟨cb,hcb⟩:∃b,b=clash d.rules ⟨rp,rf,rc,rs,ra,rl⟩:=⟨_,rfl⟩;rw[←hcb]at CC HFL;clear hcb;go_cut [19] (fun t wx=>∃b:Bool,t= .bool b∧Hid ((AddAt w0 wx HA F (.slice RA rn cR) (.slice RB pn cR') xs d k m q ⟨rp,rf,rc,rs,ra,rl⟩ A cap)∧b=(decide (m=0)&&cb)))
 case first=>
  by_cases hm0:m=0
  ·subst hm0;go_wp2_with (go_at_call 147;refine CC.out.mono ?_;rintro e w2 ⟨rfl,hb⟩;have HS2:=hid (HS.out.keep hb);clear hb);go_meet;exact⟨cb,rfl,hid ⟨HS2.out,by simp⟩⟩
  ·have d0:(m==0)=false:=by simpa using hm0
   have d1:decide (m=0)=false:=decide_eq_false hm0;have HD:=hid d1;clear hm0;go_wp2_with fail;go_meet;exact⟨false,rfl,hid ⟨HS.out,by rw[HD.out];rfl⟩⟩
 case rest=>
 obtain⟨b,rfl,HX⟩:=hcut;clear CC x0 x1 x2 x3 x4 fz
 go_upto_if 19 with fail
 go_cut [] (fun wx=>Hid (∃m':Int,(AddAt w0 wx HA F (.slice RA rn cR) (.slice RB pn cR') xs d k m' q ⟨rp,rf,rc,rs,ra,rl⟩ A cap)∧m'=(flagA [] (d.rules++[⟨rp,rf,rc,rs,ra,rl⟩]) (d.at_++[n]):Nat)))
 case first=>
  obtain⟨x0,x1,x2,x3,x4,fz⟩:=HX.out.1.lq.boxc;cases b with
  | true=>
    have HN:=hid (show k=(flagA [] (d.rules++[⟨rp,rf,rc,rs,ra,rl⟩]) (d.at_++[n]):Nat)by
     have h1:=HX.out.2;have hm0:m=0:=by
      rcases Decidable.em (m=0)with h|h
      ·exact h
      ·rw[decide_eq_false h]at h1;cases h1
     rw[hm0]at h1;have hcb:cb=true:=by simpa using h1.symm
     rw[HFL.out,if_pos (by have:=HMK.out.1;omega),if_pos hcb];exact HMK.out.2)
    go_wp2_with fail;go_meet;exact hid ⟨k,HX.out.1.mixed k,HN.out⟩
  | false=>
    have HN:=hid (show m=(flagA [] (d.rules++[⟨rp,rf,rc,rs,ra,rl⟩]) (d.at_++[n]):Nat)by
     have h1:=HX.out.2;rw[HFL.out];by_cases hm0:m=0
     ·rw[decide_eq_true hm0]at h1;have hcb:cb=false:=by simpa using h1.symm
      rw[if_pos (by have:=HMK.out.1;omega),if_neg (by rw[hcb];decide)];exact hm0
     ·rw[if_neg (by have:=HMK.out.1;omega)];exact HMK.out.1)
    go_wp2_with fail;go_meet;exact hid ⟨m,HX.out.1,HN.out⟩
 case rest=>
 obtain⟨m',hA,hm'⟩:=hcut.out;clear hcut HX;obtain⟨x0,x1,x2,x3,x4,fz⟩:=hA.lq.boxc;obtain⟨p0,p1,p2,p3,p4,p5⟩:=hA.cells;dsimp only at p0 p1 p2 p3 p4 p5;rw[←HDL.out]at p5;have hown:=hA.lq.rrow;rw[←HRN.out.1]at hown;have HW:=hid (And.intro hA hown);have HM':=hid hm';clear x1 x2 x3 x4 fz hA hown hm';obtain⟨nw,hnw⟩:∃l:List Value,l=[.bool rp,.int .i64 rf,.bool rc,.string rs,.string ra,.slice A dl cap]:=⟨_,rfl⟩;have h1c:=rule_one1 rp rf rc rs ra A dl cap;have hgo:∀(w4:World),((wc.alloc (.cells #[.bool rp,.int .i64 rf,.bool rc,.string rs,.string ra,.slice A dl cap] 123)).drew).grownBy w4 (Value.slice RA rn cR).ownBlock→w4.heap[HA]?=some (.cells #[.slice RA rn cR,.slice RB pn cR',.int .i64 k,.int .i64 (d.bad:Nat),.int .i64 m'] 93 (0,0)):=fun w4 hg=>by
  have hlt:HA<wc.heap.size:=HW.out.1.lq.hi;have hsz:((wc.alloc (.cells #[.bool rp,.int .i64 rf,.bool rc,.string rs,.string ra,.slice A dl cap] 123)).drew).heap.size=wc.heap.size+1:=World.size_alloc _ _;refine(hg.block HA (by omega) (fun e=>?_)).trans ((Below.heap_alloc wc _ _ hlt).trans HW.out.1.lq.box);have:=(HW.out.2.lt HA e.symm).1;omega
 have HGO:=hid hgo;clear hgo hnw;have old:∀(k o:Nat) v,wc.cell? ⟨k,o,none⟩=some v→(wc.alloc (.cells #[.bool rp,.int .i64 rf,.bool rc,.string rs,.string ra,.slice A dl cap] 123)).cell? ⟨k,o,none⟩=some v:=fun k o v hv=>
  (((Below.refl wc.heap.size wc).alloc (Nat.le_refl _) _).cell (p:=⟨k,o,none⟩) (World.block_lt_of_cell? wc _ hv)).trans hv
 have y0:=old _ _ _ x0;clear old;have HHI:=hid HW.out.1.lq.hi;go_upto_region 4 with fail;go_region_law ((refine step_append_lies _ (by rfl) _ _ _ (by rfl) (HA+1) 123 i1 _ 6 80 Tryz.underlying55 hi1 hz10 hz11 hz12 rfl (by omega) (.slice RA rn cR) rn xs (by rfl) ((HW.out.2.alloc _).drew) ⟨wc.heap.size,0,none⟩ 1 1 [.bool rp,.int .i64 rf,.bool rc,.string rs,.string ra,.slice A dl cap] (by rfl) (by rfl) (World.news_of_block (cs:=#[.bool rp,.int .i64 rf,.bool rc,.string rs,.string ra,.slice A dl cap]) (t:=123) (fr:=(0,0)) (World.alloc_heap_new wc _)) h1c (by omega) (by unfold maxLen;omega) (by omega) (by have:=HHI.out;simp;omega) (wc.heap.size+1) (by simp) ?_;intro gg cap4 w4 hown4 hgrow4 hat4 hlt4;have m4:=(show w4.cell? ⟨HA,0,none⟩=some (.slice RA rn cR)by simp[World.cell?,HGO.out _ hgrow4]);have f4:=(show w4.frozen? ⟨HA,0,none⟩=false by simp[World.frozen?,HGO.out _ hgrow4])))
 all_goals
  obtain rfl:rn=d.rules.length:=HRN.out.1;obtain rfl:dl=rl.length:=HDL.out;have hbK:Below wc.heap.size wc ((wc.alloc (.cells #[.bool rp,.int .i64 rf,.bool rc,.string rs,.string ra,.slice A rl.length cap] 123)).drew):=((Below.refl _ _).alloc (Nat.le_refl _) _).drew;have hK:=HW.out.1.keep hbK;have hsz:((wc.alloc (.cells #[.bool rp,.int .i64 rf,.bool rc,.string rs,.string ra,.slice A rl.length cap] 123)).drew).heap.size=wc.heap.size+1:=World.size_alloc _ _;have HF:=hid (hK.lq.rule (n:=n) hK.it hown4 hgrow4 (hat4.imp (fun e=>e.symm) fun e g hg=>by
   simp only[Value.ownBlock,Option.some.injEq]at hg;omega))
  clear hown4 hgrow4 hat4 hlt4 m4 f4 x0 p0 p1 p2 p3 p4 p5 y0 hbK hK hsz
  go_end0
  have hF:=HF.out;rw[HM'.out]at hF;exact⟨rfl,_,_,hF⟩
end Go.Proofs.YtfehpcbmdancoaaGreatDoor.Af
set_option maxRecDepth 100000
set_option maxHeartbeats 2000000
namespace Go.Proofs.YtfehpcbmdancoaaGreatDoor.Af
open Go Go.RowKit Go.Lib
def bigB (d:Rd):Bool:=decide (200<d.rules.length∨200<d.pairs.length)
theorem wbig_any (w0 w:World)(HA:Nat)(F:Nat→Prop)(rv pv:Value)(xs:List Value)(d:Rd)(k m:Int)(h:LQ w0 w HA F rv pv xs d k m):
  Calls Tryz.prog 94 #[.pointer (some ⟨HA,0,none⟩)] w fun e w'=>e= .returned (.bool (bigB d))∧w'=w:=by
 obtain⟨RA,cR,RB,cR',rfl,rfl,-,-⟩:=h.forms;obtain⟨x0,x1,-⟩:=h.boxc;obtain⟨rn,hrn⟩:∃n,n=d.rules.length:=⟨_,rfl⟩;obtain⟨pn,hpn⟩:∃n,n=d.pairs.length:=⟨_,rfl⟩;unfold bigB;rw[←hrn,←hpn];rw[←hrn]at x0;rw[←hpn]at x1;clear h hrn hpn;by_cases h1:200<rn
 ·rw[decide_eq_true (.inl h1)];have e1:(200:Int)<rn:=by omega
  go_enter Tryz.func94,Tryz.ntmps94;go_wp2_with fail;go_ret;exact⟨rfl,rfl⟩
 ·have e1:¬(200:Int)<rn:=by omega
  by_cases h2:200<pn
  ·rw[decide_eq_true (.inr h2)];have e2:(200:Int)<pn:=by omega
   clear h1 h2;go_enter Tryz.func94,Tryz.ntmps94;go_wp2_with fail;go_ret;exact⟨rfl,rfl⟩
  ·rw[decide_eq_false (by omega)];have e2:¬(200:Int)<pn:=by omega
   clear h1 h2;go_enter Tryz.func94,Tryz.ntmps94;go_wp2_with fail;go_ret;exact⟨rfl,rfl⟩
theorem pair_one1 (a b:Int):∀u∈[Value.int .i64 a,.int .i64 b],u.oneCell'=true:=by
 intro u hu;simp only[List.mem_cons,List.not_mem_nil,or_false]at hu;rcases hu with rfl|rfl<;>rfl
def RdAt (w0 w:World)(HA:Nat)(d:Rd)(n:Nat):Prop:=∃F rv pv xs,LQ w0 w HA F rv pv xs d (n:Nat) (flagA [] d.rules d.at_:Nat)
theorem RdAt.below {w0 w:World}{HA n:Nat}{d:Rd}(h:RdAt w0 w HA d n):Below w0.heap.size w0 w:=by obtain⟨F,rv,pv,xs,h⟩:=h;exact h.below
theorem RdAt.keep {w0 w w':World}{HA n:Nat}{d:Rd}(h:RdAt w0 w HA d n)(hb:Below w.heap.size w w'):RdAt w0 w' HA d n:=by obtain⟨F,rv,pv,xs,h⟩:=h;exact⟨F,rv,pv,xs,h.keep hb⟩
theorem box66 {w w':World}{q:Nat}{a b c d e f:Value}{t:TypeId}(h:w.heap[q]?=some (.cells #[a,b,c,d,e,f] t (0,0)))(hb:Below w.heap.size w w'):
  w'.cell? ⟨q,0,none⟩=some a∧w'.cell? ⟨q,1,none⟩=some b∧w'.cell? ⟨q,2,none⟩=some c∧w'.cell? ⟨q,3,none⟩=some d∧w'.cell? ⟨q,4,none⟩=some e∧w'.cell? ⟨q,5,none⟩=some f:=by
 have h1:=(hb.block q (Array.getElem?_eq_some_iff.1 h).1).trans h;refine⟨?_,?_,?_,?_,?_,?_⟩<;>simp[World.cell?,h1]
theorem wread_any (w0 w:World)(HA:Nat)(d:Rd)(n:Nat)(s:ByteArray)(h:RdAt w0 w HA d n)(ha:AtsOk d)(hd:d.rules.length≤100000)(hd':d.pairs.length≤100000)(hn:n≤1000000000)(hs:s.size≤1000000000)
  (hT:Lib.Utf8Tabs 1 2 w0):
  Calls Tryz.prog 50 #[.pointer (some ⟨HA,0,none⟩),.string s] w fun e w'=>e= .returned (.bool (!bigB (stepA d (n+1) s.data.toList)))∧RdAt w0 w' HA (stepA d (n+1) s.data.toList) (n+1):=by
 obtain⟨F,rv,pv,xs,h⟩:=h;obtain⟨m,hm⟩:∃m:Int,m=(flagA [] d.rules d.at_:Nat):=⟨_,rfl⟩;rw[←hm]at h;have HM:=hid hm;have hL1:=h.lines ((n:Int)+1);obtain⟨W1,hW1⟩:∃W1,W1=w.setCell ⟨HA,2,none⟩ (.int .i64 ((n:Int)+1)):=⟨_,rfl⟩;have HW1:=hid hW1;rw[←hW1]at hL1;obtain⟨x0,x1,x2,x3,x4,fz⟩:=h.boxc;have HL1:=hid hL1;have CR:=hid (rpar_new W1 s hs (tabs_below hT hL1.below));obtain⟨o,ho⟩:∃o,o=parseR s:=⟨_,rfl⟩;rw[←ho]at CR;have HO:=hid ho;have CP:=hid (fun wx (hb:Below W1.heap.size W1 wx)=>by
  have hq:=hL1.keep hb;obtain⟨RA,cR,RB,cR',e1,e2,-,hP⟩:=hq.forms;have hc:=hq.boxc.2.1;rw[e2]at hc;exact wpair_any wx HA _ d.pairs s hc hq.hi hP hs (tabs_below hT hq.below))
 obtain⟨po,hpo⟩:∃o,o=pairL d.pairs s.data.toList:=⟨_,rfl⟩;rw[←hpo]at CP;have HPO:=hid hpo;obtain⟨ds,hds⟩:∃x,x=stepA d (n+1) s.data.toList:=⟨_,rfl⟩;rw[←hds];have HDS:=hid hds;clear h hm hL1 ho hpo hds;go_enter Tryz.func50,Tryz.ntmps50;go_upto_region 2 with fail;rw[←HW1.out];clear hW1 x0 x1 x2 x3 x4 fz;go_wp2_with (go_at_call 90;refine CR.out.mono ?_);rintro e w2 ⟨v2,rfl,⟨D,dc,rfl,hi2⟩,hb2⟩;obtain⟨r,hr⟩:∃r,r=o.getD ru0:=⟨_,rfl⟩;rw[←hr]at hi2⊢;have HR:=hid hr;have HI2:=hid hi2;have HB2:=hid hb2;obtain⟨dl,hdl⟩:∃l,l=r.cond.length:=⟨_,rfl⟩;have HDL:=hid hdl;rw[←hdl];obtain⟨isR,hisR⟩:∃b,b=o.isSome:=⟨_,rfl⟩;rw[←hisR];have HISR:=hid hisR;have hb3:=hb2.alloc hb2.size (.cells #[.bool r.pre,.int .i64 r.flag,.bool r.cross,.string r.strip,.string r.add,.slice D dl dc] 123);have HB3:=hid hb3;have HBX:=hid (World.alloc_heap_new w2 (.cells #[.bool r.pre,.int .i64 r.flag,.bool r.cross,.string r.strip,.string r.add,.slice D dl dc] 123));clear CR hr hdl hisR hi2 hb2 hb3;obtain⟨rp,rf,rc,rs,ra,rl⟩:=r;dsimp only at HI2 HDL HB3 HBX;dsimp only;go_wp2_with (go_at_call 91;refine(CP.out _ HB3.out).mono ?_);rintro e w4 ⟨hpe,hb4⟩;unfold PairE at hpe;subst hpe;obtain⟨P1,hP1⟩:∃a,a=(po.getD (0,0)).1:=⟨_,rfl⟩;obtain⟨P2,hP2⟩:∃a,a=(po.getD (0,0)).2:=⟨_,rfl⟩;obtain⟨isP,hisP⟩:∃b,b=po.isSome:=⟨_,rfl⟩;rw[←hP1,←hP2,←hisP];have HP:=hid (And.intro hP1 (And.intro hP2 hisP));have hb5:=hb4.alloc hb4.size (.cells #[.int .i64 P1,.int .i64 P2] 118);have HB5:=hid hb5;clear hP1 hP2 hisP hb4 hb5 CP;go_upto_region 4 with fail;obtain⟨wX,hwX⟩:∃wX,wX=w4.alloc (.cells #[.int .i64 P1,.int .i64 P2] 118):=⟨_,rfl⟩;rw[←hwX]at HB5⊢;have HPX:=hid (show wX.heap[w4.heap.size]?=some (.cells #[.int .i64 P1,.int .i64 P2] 118 (0,0))from hwX▸World.alloc_heap_new w4 _);have hbX:Below W1.heap.size W1 wX:=HB3.out.trans (HB5.out.mono HB3.out.size);have hqX:=HL1.out.wide hbX;have hb2X:Below w2.heap.size w2 wX:=((Below.refl w2.heap.size w2).alloc (Nat.le_refl _) (.cells #[.bool rp,.int .i64 rf,.bool rc,.string rs,.string ra,.slice D dl dc] 123)).trans (HB5.out.mono (by rw[World.size_alloc];omega));have hiX:ItemsIn (fun b=>F b∨(W1.heap.size≤b∧b<wX.heap.size)) wX (.slice D rl.length dc) rl:=
  ((HI2.out.isIn.still hb2X.size fun b _ hlt=>hb2X.block b hlt).mono fun b hb=> .inr ⟨hb.1,Nat.lt_of_lt_of_le hb.2 hb2X.size⟩)
 have HQ:=hid hqX;have HI:=hid hiX;have HRX:=hid (box66 HBX.out HB5.out);obtain⟨qr,hqr⟩:∃q,q=w2.heap.size:=⟨_,rfl⟩;obtain⟨qp,hqp⟩:∃q,q=w4.heap.size:=⟨_,rfl⟩;rw[←hqr]at HRX⊢;rw[←hqp]at HPX⊢;obtain⟨F',hF'⟩:∃F':Nat→Prop,F'=fun b=>F b∨(W1.heap.size≤b∧b<wX.heap.size):=⟨_,rfl⟩;rw[←hF']at HQ HI;clear hwX hbX hqX hb2X hiX hqr hqp hF' HB5 HBX HB3 HI2 HB2 HL1 HW1;have hsd:(⟨s.data.toList.toArray⟩:ByteArray)=s:=by cases s;simp
 cases o with
 | some r'=>
   obtain rfl:isR=true:=HISR.out;have HST:=hid (show ds={ d with rules:=d.rules++[⟨rp,rf,rc,rs,ra,rl⟩],at_:=d.at_++[n+1] }from HDS.out.trans (stepA_rule1 (by rw[hsd,←HO.out,HR.out];rfl)));have CA:=hid (wadd_any w0 wX HA F' rv pv xs d ((n:Int)+1) m ⟨rp,rf,rc,rs,ra,rl⟩ D dc (n+1) HQ.out HM.out ha (by omega) hd HI.out);dsimp only at CA;rw[←HDL.out]at CA;obtain⟨c0,c1,c2,c3,c4,c5⟩:=HRX.out;clear hsd HPX;go_wp2_with (go_at_call 92;refine CA.out.mono ?_);rintro e w5 ⟨rfl,rv',xs',hq5⟩;have HQ5:=hid (show LQ w0 w5 HA F' rv' pv xs' ds ((n:Int)+1) (flagA [] ds.rules ds.at_:Nat)by rw[HST.out];exact hq5);have CB:=hid (wbig_any w0 w5 HA F' rv' pv xs' ds _ _ HQ5.out);clear hq5 CA c0 c1 c2 c3 c4 c5;go_wp2_with (go_at_call 94;refine CB.out.mono ?_;rintro e w6 ⟨rfl,rfl⟩);go_ret;exact⟨rfl,F',rv',pv,xs',by have:=HQ5.out;rwa[show ((n:Int)+1)=((n+1:Nat):Int)by omega]at this⟩
 | none=>
   obtain rfl:isR=false:=HISR.out;have hnr:parseR ⟨s.data.toList.toArray⟩=none:=by rw[hsd];exact HO.out.symm
   clear hsd HRX;cases po with
   | some p=>
     obtain⟨g,t⟩:=p;obtain⟨rfl,rfl,rfl⟩:=HP.out;have HST:=hid (show ds={ d with pairs:=d.pairs++[(P1,P2)] }from HDS.out.trans (stepA_pair1 HPO.out.symm));obtain⟨i1,hi1,hz10,hz11,hz12⟩:=info_parts Tryz.infosL118;obtain⟨x0,x1,x2,x3,x4,fz⟩:=HQ.out.boxc;obtain⟨RA,cR,RB,cR',rfl,rfl,-,-⟩:=HQ.out.forms;obtain⟨pn,hpn⟩:∃n,n=d.pairs.length:=⟨_,rfl⟩;obtain⟨rn,hrn⟩:∃n,n=d.rules.length:=⟨_,rfl⟩;have hown:=HQ.out.prow;rw[←hpn]at hown x1 hd';have HPN:=hid (And.intro hpn hrn);have m0:wX.cell? ⟨qp,0,none⟩=some (.int .i64 P1):=by simp[World.cell?,HPX.out]
     have m1:wX.cell? ⟨qp,1,none⟩=some (.int .i64 P2):=by simp[World.cell?,HPX.out]
     have HW:=hid (And.intro HQ.out hown);have HHI:=hid HQ.out.hi;have h1c:=pair_one1 P1 P2;clear hpn hrn hown x0 x2 x3 x4 fz hnr;have hgo:∀(w4:World),((wX.alloc (.cells #[.int .i64 P1,.int .i64 P2] 118)).drew).grownBy w4 (Value.slice RB pn cR').ownBlock→w4.heap[HA]?=some (.cells #[.slice RA d.rules.length cR,.slice RB d.pairs.length cR',.int .i64 ((n:Int)+1),.int .i64 (d.bad:Nat),.int .i64 m] 93 (0,0)):=fun w4 hg=>by
      have hlt:HA<wX.heap.size:=HW.out.1.hi;have hsz:((wX.alloc (.cells #[.int .i64 P1,.int .i64 P2] 118)).drew).heap.size=wX.heap.size+1:=World.size_alloc _ _;refine(hg.block HA (by omega) (fun e=>?_)).trans ((Below.heap_alloc wX _ _ hlt).trans HW.out.1.box);have:=(HW.out.2.lt HA e.symm).1;omega
     have HGO:=hid hgo;clear hgo;have y1:(wX.alloc (.cells #[.int .i64 P1,.int .i64 P2] 118)).cell? ⟨HA,1,none⟩=some (.slice RB pn cR'):=
      (((Below.refl wX.heap.size wX).alloc (Nat.le_refl _) _).cell (p:=⟨HA,1,none⟩) (World.block_lt_of_cell? wX _ x1)).trans x1
     go_upto_region 7 with fail;go_region_law ((refine step_append_lies _ (by rfl) _ _ _ (by rfl) (HA+1) 118 i1 _ 2 16 Tryz.underlying38 hi1 hz10 hz11 hz12 rfl (by omega) (.slice RB pn cR') pn (pCells d.pairs) (by rfl) ((HW.out.2.alloc _).drew) ⟨wX.heap.size,0,none⟩ 1 1 [.int .i64 P1,.int .i64 P2] (by rfl) (by rfl) (World.news_of_block (cs:=#[.int .i64 P1,.int .i64 P2]) (t:=118) (fr:=(0,0)) (World.alloc_heap_new wX _)) h1c (by omega) (by unfold maxLen;omega) (by omega) (by have:=HHI.out;simp;omega) (wX.heap.size+1) (by simp) ?_;intro gg cap4 w4 hown4 hgrow4 hat4 hlt4;have m4:=(show w4.cell? ⟨HA,1,none⟩=some (.slice RB pn cR')by simp[World.cell?,HGO.out _ hgrow4,HPN.out.1]);have f4:=(show w4.frozen? ⟨HA,1,none⟩=false by simp[World.frozen?,HGO.out _ hgrow4])))
     all_goals
      obtain rfl:pn=d.pairs.length:=HPN.out.1;have hbK:Below wX.heap.size wX ((wX.alloc (.cells #[.int .i64 P1,.int .i64 P2] 118)).drew):=((Below.refl _ _).alloc (Nat.le_refl _) _).drew;have hsz:((wX.alloc (.cells #[.int .i64 P1,.int .i64 P2] 118)).drew).heap.size=wX.heap.size+1:=World.size_alloc _ _;have hF:=(HW.out.1.keep hbK).pair (p:=(P1,P2)) hown4 hgrow4 (hat4.imp (fun e=>e.symm) fun e g hg=>by
       simp only[Value.ownBlock,Option.some.injEq]at hg;omega)
      obtain⟨w5,hw5⟩:∃w5,w5=w4.setCell ⟨HA,1,none⟩ (.slice (some ⟨gg,0,none⟩) (d.pairs.length+1) cap4):=⟨_,rfl⟩;rw[←hw5]at hF⊢;rw[HM.out]at hF;have HQ5:=hid (show LQ w0 w5 HA F' (.slice RA d.rules.length cR) (.slice (some ⟨gg,0,none⟩) (d.pairs.length+1) cap4) xs ds ((n:Int)+1) (flagA [] ds.rules ds.at_:Nat)by rw[HST.out];exact hF);have CB:=hid (wbig_any w0 w5 HA F' _ _ xs ds _ _ HQ5.out);clear hF hw5 hown4 hgrow4 hat4 hlt4 m4 f4 hbK hsz m0 m1 y1 x1;go_wp2_with (go_at_call 94;refine CB.out.mono ?_;rintro e w6 ⟨rfl,rfl⟩);go_ret;exact⟨rfl,F',_,_,xs,by have:=HQ5.out;rwa[show ((n:Int)+1)=((n+1:Nat):Int)by omega]at this⟩
   | none=>
     obtain⟨-,-,rfl⟩:=HP.out;have hst:=HDS.out.trans (stepA_none1 hnr HPO.out.symm);have htl:s.toList=s.data.toList:=ByteArray.toList_eq s;clear hnr HPX;by_cases h0:s.data.toList=[]
     ·rw[if_pos (.inl h0)]at hst;have HQ5:=hid (show LQ w0 wX HA F' rv pv xs ds ((n:Int)+1) (flagA [] ds.rules ds.at_:Nat)by rw[hst,←HM.out];exact HQ.out);have CB:=hid (wbig_any w0 wX HA F' _ _ xs ds _ _ HQ5.out);have hnb:s.toList.isEmpty=true:=by rw[htl,h0];rfl
      clear hst htl h0;go_wp2_with (go_at_call 94;refine CB.out.mono ?_;rintro e w6 ⟨rfl,rfl⟩);go_ret;exact⟨rfl,F',_,_,xs,by have:=HQ5.out;rwa[show ((n:Int)+1)=((n+1:Nat):Int)by omega]at this⟩
     ·have hnb:s.toList.isEmpty=false:=by rw[htl,List.isEmpty_eq_false_iff];exact h0
      have CH:=Tryz.strings_HasPrefix s ⟨#[35]⟩;have hhp:Lib.hasPrefix s.data.toList (⟨#[35]⟩:ByteArray).data.toList=decide (s.data.toList.head?=some 35):=by
       show List.isPrefixOf [35] s.data.toList=_;cases hl:s.data.toList with
       | nil=>rfl
       | cons b t=>
         show (35==b&&List.isPrefixOf [] t)=_;rw[List.isPrefixOf_nil_left,Bool.and_true,List.head?_cons];by_cases hb:b=35
         ·subst hb;rfl
         ·rw[decide_eq_false (by simpa using hb)];simpa using fun e=>hb e.symm
      rw[hhp]at CH;by_cases h35:s.data.toList.head?=some 35
      ·rw[if_pos (.inr h35)]at hst;rw[decide_eq_true h35]at CH;have CH:=hid CH;have HQ5:=hid (show LQ w0 wX HA F' rv pv xs ds ((n:Int)+1) (flagA [] ds.rules ds.at_:Nat)by rw[hst,←HM.out];exact HQ.out);have CB:=hid (wbig_any w0 wX HA F' _ _ xs ds _ _ HQ5.out);clear hst htl h0 h35 hhp;go_wp2_with (first
        | (go_at_call 93;refine(CH.out _).mono ?_;rintro e w6 ⟨rfl,rfl⟩)
        | (go_at_call 94;refine CB.out.mono ?_;rintro e w6 ⟨rfl,rfl⟩))
       go_ret;exact⟨rfl,F',_,_,xs,by have:=HQ5.out;rwa[show ((n:Int)+1)=((n+1:Nat):Int)by omega]at this⟩
      ·rw[if_neg (fun h=>h.elim h0 h35)]at hst;rw[decide_eq_false h35]at CH;have CH:=hid CH;obtain⟨x0,x1,x2,x3,x4,fz⟩:=HQ.out.boxc;by_cases hbd:d.bad=0
       ·rw[if_pos hbd]at hst;have hB:=HQ.out.bad (n+1);rw[show ((n+1:Nat):Int)=(n:Int)+1 by omega]at hB;obtain⟨w5,hw5⟩:∃w5,w5=wX.setCell ⟨HA,3,none⟩ (.int .i64 ((n:Int)+1)):=⟨_,rfl⟩;rw[←hw5]at hB;have HW5:=hid hw5;have HQ5:=hid (show LQ w0 w5 HA F' rv pv xs ds ((n:Int)+1) (flagA [] ds.rules ds.at_:Nat)by rw[hst,←HM.out];exact hB);have CB:=hid (wbig_any w0 w5 HA F' _ _ xs ds _ _ HQ5.out);have hb1:((d.bad:Nat):Int)=0:=by omega
        rw[hb1]at x3;clear hst htl h0 h35 hhp hB hw5 hb1 hbd x0 x1 x4;go_wp2_with (first
         | (go_at_call 93;refine(CH.out _).mono ?_;rintro e w6 ⟨rfl,rfl⟩)
         | (go_at_call 94;rw[←HW5.out];refine CB.out.mono ?_;rintro e w6 ⟨rfl,rfl⟩))
        go_ret;exact⟨rfl,F',_,_,xs,by have:=HQ5.out;rwa[show ((n:Int)+1)=((n+1:Nat):Int)by omega]at this⟩
       ·rw[if_neg hbd]at hst;have HQ5:=hid (show LQ w0 wX HA F' rv pv xs ds ((n:Int)+1) (flagA [] ds.rules ds.at_:Nat)by rw[hst,←HM.out];exact HQ.out);have CB:=hid (wbig_any w0 wX HA F' _ _ xs ds _ _ HQ5.out);have hb1:(((d.bad:Nat):Int)==0)=false:=by simp;omega
        clear hst htl h0 h35 hhp hbd x0 x1 x4;go_wp2_with (first
         | (go_at_call 93;refine(CH.out _).mono ?_;rintro e w6 ⟨rfl,rfl⟩)
         | (go_at_call 94;refine CB.out.mono ?_;rintro e w6 ⟨rfl,rfl⟩))
        go_ret;exact⟨rfl,F',_,_,xs,by have:=HQ5.out;rwa[show ((n:Int)+1)=((n+1:Nat):Int)by omega]at this⟩
def CutE (s:ByteArray)(e:Ending):Prop:=∃a b f,e= .returned (.tuple #[.string a,.string b,.bool f])∧a.data.toList=s.data.toList.takeWhile (· ≠10)∧b.data.toList=(s.data.toList.dropWhile (· ≠10)).tail
theorem wcutl_any (s:ByteArray)(w:World)(hs:s.size≤1000000000):
  Calls Tryz.prog 95 #[.string s,.string ⟨#[10]⟩] w fun e w'=>CutE s e∧Below w.heap.size w w':=by
 have CI:=hid (Tryz.stringslite_Index_one s 10);have hsl:s.data.toList.length=s.size:=(Lib.size_eq s).symm;by_cases hm:(10:UInt8)∈s.data.toList
 ·obtain⟨c1,c2,c3⟩:=cut10 hm;rw[idx10_some hm]at CI;obtain⟨k,hk⟩:∃k,k=(s.data.toList.takeWhile (· ≠10)).length:=⟨_,rfl⟩;rw[←hk]at CI c1 c2 c3;have hx:(s.extract 0 k).data.toList=s.data.toList.takeWhile (· ≠10):=by
   rw[ByteArray.data_extract,Array.toList_extract];show (s.data.toList.drop 0).take (k-0)=_;rw[List.drop_zero,Nat.sub_zero,c1]
  have hy:(s.extract (k+1) s.size).data.toList=(s.data.toList.dropWhile (· ≠10)).tail:=by
   rw[ByteArray.data_extract,Array.toList_extract];show (s.data.toList.drop (k+1)).take (s.size-(k+1))=_;rw[List.take_of_length_le (by rw[List.length_drop,Lib.size_eq];exact Nat.le_refl _),c2]
  have HE:=hid (show CutE s (.returned (.tuple #[.string (s.extract 0 k),.string (s.extract (k+1) s.size),.bool true]))from ⟨_,_,_,rfl,hx,hy⟩);have k0:(0:Int)≤k:=by omega
  have k1:(k:Int)≤s.size:=by omega
  have k2:(0:Int)≤(k:Int)+1:=by omega
  have k3:(k:Int)+1≤s.size:=by omega
  have k4:(0:Int)≤((k+1:Nat):Int):=by omega
  have k5:((k+1:Nat):Int)≤s.size:=by omega
  have wk:IntKind.i64.wrap ((k:Int)+1)=((k+1:Nat):Int):=by rw[IntWalk.i64_in _ (by omega)];omega
  have wk0:IntKind.i64.wrap (k:Int)=(k:Int):=by rw[IntWalk.i64_in _ (by omega)]
  clear hm hk c1 c2 c3 hx hy hsl;go_enter Tryz.func95,Tryz.ntmps95;go_upto_region 2 with(go_at_call 149;refine(CI.out _).mono ?_;rintro e w2 ⟨rfl,rfl⟩);go_upto_region 3 with fail;go_quiet (fail);go_wp2_with fail;go_ret3;exact⟨HE.out,below_drewN (Below.refl _ _) _⟩
 ·obtain⟨c1,c2⟩:=all10 hm;rw[idx10_none hm]at CI;have HE:=hid (show CutE s (.returned (.tuple #[.string s,.string ⟨#[]⟩,.bool false]))from ⟨_,_,_,rfl,c1.symm,by rw[c2];rfl⟩);clear hm c1 c2 hsl;go_enter Tryz.func95,Tryz.ntmps95;go_wp2_with (go_at_call 149;refine(CI.out _).mono ?_;rintro e w2 ⟨rfl,rfl⟩);go_ret3;exact⟨HE.out,Below.refl _ _⟩
theorem wcut_any (s:ByteArray)(w:World)(hs:s.size≤1000000000):
  Calls Tryz.prog 52 #[.string s,.string ⟨#[10]⟩] w fun e w'=>CutE s e∧Below w.heap.size w w':=by
 have C:=hid (wcutl_any s w hs);go_enter Tryz.func52,Tryz.ntmps52;go_wp2_with (go_at_call 95;refine C.out.mono ?_);rintro e w1 ⟨⟨a,b,f,rfl,ha,hb⟩,hbw⟩;have HA:=hid (And.intro ha (And.intro hb hbw));clear ha hb hbw C;go_wp2_with fail;go_ret3;exact⟨⟨a,b,f,rfl,HA.out.1,HA.out.2.1⟩,HA.out.2.2⟩
def EachAt (w0 w:World)(HA:Nat)(L:List UInt8):Prop:=∃d k,RdAt w0 w HA d k∧k≤1000000000∧endA d=endA (readA rd0 1 (linesL L))
structure MidE (w0 w:World)(HA:Nat)(L S:List UInt8)(b:Bool):Prop where
 ex:∃d k,RdAt w0 w HA d k∧AtsOk d∧k+S.length≤L.length∧readA rd0 1 (linesL L)=readA d (k+1) (linesL S)∧b= !bigB d
theorem MidE.fin {w0 w:World}{HA:Nat}{L S:List UInt8}{b:Bool}(h:MidE w0 w HA L S b)(hb:b=false∨S=[])(hL:L.length≤1000000000):EachAt w0 w HA L:=by
 obtain⟨d,k,h1,h2,h3,h4,h5⟩:=h.ex;refine⟨d,k,h1,by omega,?_⟩;rw[h4];rcases hb with rfl|rfl
 ·have hbig:bigB d=true:=by cases hc:bigB d with|true=>rfl|false=>rw[hc]at h5;cases h5
  unfold bigB at hbig;rw[decide_eq_true_eq]at hbig;have e1:=endA_big (k+1) (linesL S) hbig;have e2:=endA_big (d:=d) 0 [] hbig;rw[e1];exact e2
 ·rfl
theorem weach_any (w0 w:World)(HA:Nat)(s:ByteArray)(h:RdAt w0 w HA rd0 0)(hs:s.size≤1000000000)(hT:Lib.Utf8Tabs 1 2 w0):
  Calls Tryz.prog 49 #[.string s,.func (.func 50) #[.pointer (some ⟨HA,0,none⟩)] #[]] w fun e w'=>e= .returned (.tuple #[])∧EachAt w0 w' HA s.data.toList:=by
 obtain⟨L,hL⟩:∃L,L=s.data.toList:=⟨_,rfl⟩;have hLs:L.length=s.size:=by rw[hL];exact(Lib.size_eq s).symm
 rw[←hL];have H0:=hid (show MidE w0 w HA L s.data.toList true from ⟨rd0,0,h,⟨rfl,fun n hn=>by simp[rd0]at hn⟩,by rw[←hL];omega,by rw[←hL],by decide⟩);have HT:=hid hT;have HLs:=hid (show L.length≤1000000000 by omega);clear hL hLs h hT;go_enter Tryz.func49,Tryz.ntmps49;go_wp2_with fail;go_loopg [0,4,5,6,7] s.size (fun g sv bv _ _ _ wr=>∃(S:ByteArray) (b:Bool),S.size=g∧sv= .string S∧bv= .bool b∧g≤1000000000∧Hid (MidE w0 wr HA L S.data.toList b))
 case atStart=>exact⟨s,true,rfl,rfl,rfl,hs,H0⟩
 case round=>
  obtain⟨S,b,hSg,rfl,rfl,hg,HM⟩:=hrel;cases b with
  | false=>
    have HF:=hid (HM.out.fin (.inl rfl) HLs.out);clear HM;go_wp2_with fail
    go_end0
    exact⟨rfl,HF.out⟩
  | true=>
    have htl:S.toList=S.data.toList:=ByteArray.toList_eq S;have hsz:S.data.toList.length=S.size:=(Lib.size_eq S).symm;by_cases h0:S.data.toList=[]
    ·have HF:=hid (HM.out.fin (.inr h0) HLs.out);have hnb:S.toList.isEmpty=true:=by rw[htl,h0];rfl
     clear HM htl hsz h0;go_wp2_with fail
     go_end0
     exact⟨rfl,HF.out⟩
    ·have hnb:S.toList.isEmpty=false:=by rw[htl,List.isEmpty_eq_false_iff];exact h0
     have CC:=hid (wcut_any S wr (by omega));have HS:=hid (And.intro h0 (And.intro hsz hSg));have hlp:0<S.data.toList.length:=List.length_pos_iff.2 h0;clear htl h0 hsz;go_wp2_with (go_at_call 52;refine CC.out.mono ?_);rintro e w1 ⟨⟨a,r,f,rfl,ha,hr⟩,hb1⟩;obtain⟨d,k,h1,h2,h3,h4,h5⟩:=HM.out.ex;have hbig:bigB d=false:=by cases hc:bigB d with|false=>rfl|true=>rw[hc]at h5;cases h5
     have hbb:=hbig;unfold bigB at hbb;rw[decide_eq_false_iff_not]at hbb;have hal:a.size≤S.size:=by
      rw[Lib.size_eq,ha,←HS.out.2.1];exact(List.takeWhile_sublist _).length_le
     have hrl:r.size<S.size:=by
      rw[Lib.size_eq,hr,←HS.out.2.1];have:=(List.dropWhile_sublist (fun x:UInt8=>decide (x≠10)) (l:=S.data.toList)).length_le;rw[List.length_tail];omega
     have CD:=hid (wread_any w0 w1 HA d k a (h1.keep hb1) h2 (by omega) (by omega) (by have:=HLs.out;omega) (by omega) HT.out);obtain⟨ds,hds⟩:∃x,x=stepA d (k+1) a.data.toList:=⟨_,rfl⟩;rw[←hds]at CD;have HN:=hid (show∀wx,RdAt w0 wx HA ds (k+1)→MidE w0 wx HA L r.data.toList (!bigB ds)from fun wx hx=>
      ⟨ds,k+1,hx,hds▸h2.step (Nat.succ_pos k),by
       have h6:r.data.toList.length=r.size:=(Lib.size_eq r).symm;have h7:=HS.out.2.1;omega,by
       rw[h4,linesL_split _ HS.out.1,←ha,←hr,hds];rfl,rfl⟩)
     have HZ:=hid (show r.size<gk by have:=HS.out.2.2;omega);obtain⟨bb,hbb2⟩:∃b,b= !bigB ds:=⟨_,rfl⟩;rw[←hbb2]at CD HN;clear ha hr hb1 h1 h2 h3 h4 h5 hbig hbb hal hrl hds hbb2 HM CC hlp;go_wp2_with (go_at_call 50;refine CD.out.mono ?_);rintro e w2 ⟨rfl,h6⟩;have HM2:=hid (HN.out w2 h6);clear h6 CD HN;go_wp2_with fail;go_roundg r.size
     case measure=>have:=HZ.out;omega
     case rel=>exact⟨r,bb,rfl,rfl,rfl,by have:=HZ.out;omega,HM2⟩
def AnsE (w0 w':World)(HA:Nat)(d:Rd)(k:Nat)(e:Ending):Prop:=
 (∃(n:Nat) (c:Int),endA d=(af0,n,c)∧e= .returned (.tuple #[.agg #[.slice none 0 0,.slice none 0 0],.int .i64 n,.int .i64 c])∧RdAt w0 w' HA d k)∨
 (∃F rv pv xs m,LQ w0 w' HA F rv pv xs d (k:Nat) m∧endA d=(⟨d.rules,d.pairs⟩,0,0)∧e= .returned (.tuple #[.agg #[rv,pv],.int .i64 0,.int .i64 0]))
theorem AnsE.no {w0 w':World}{HA:Nat}{d:Rd}{k n:Nat}{c:Int}(h:endA d=(af0,n,c))(hr:RdAt w0 w' HA d k):AnsE w0 w' HA d k (.returned (.tuple #[.agg #[.slice none 0 0,.slice none 0 0],.int .i64 n,.int .i64 c])):= .inl ⟨n,c,h,rfl,hr⟩
theorem wans_any (w0 w:World)(HA:Nat)(d:Rd)(k:Nat)(h:RdAt w0 w HA d k):
  Calls Tryz.prog 51 #[.pointer (some ⟨HA,0,none⟩)] w fun e w'=>AnsE w0 w' HA d k e:=by
 obtain⟨W0,hW0⟩:∃W0,W0=w.alloc (.cells #[.slice none 0 0,.slice none 0 0] 57):=⟨_,rfl⟩;have hb0:Below w.heap.size w W0:=by rw[hW0];exact(Below.refl _ _).alloc (Nat.le_refl _) _
 have HB:=hid hb0;have BX:=show∀wx,Below W0.heap.size W0 wx→_ from fun wx hb=>And.intro (box2 (hW0▸hb)) (box2f (hW0▸hb));obtain⟨⟨x0,x1⟩,fz⟩:=BX W0 (Below.refl _ _);clear BX;obtain⟨F,rv,pv,xs,h⟩:=h;obtain⟨m,hm⟩:∃m:Nat,m=flagA [] d.rules d.at_:=⟨_,rfl⟩;rw[←hm]at h;have HQ:=hid (show∀wx,Below w.heap.size w wx→LQ w0 wx HA F rv pv xs d (k:Nat) (m:Nat)from fun wx hb=>h.keep hb);have HR:=hid (show∀wx,Below w.heap.size w wx→RdAt w0 wx HA d k from fun wx hb=>⟨F,rv,pv,xs,hm▸h.keep hb⟩);have CB:=hid (wbig_any w0 W0 HA F rv pv xs d _ _ (HQ.out W0 hb0));obtain⟨y0,y1,y2,y3,y4,-⟩:=(HQ.out W0 hb0).boxc;have HM:=hid hm;have HW0:=hid hW0;clear h hm hb0;cases hbig:bigB d with
 | true=>
   have HZ:=hid (show endA d=(af0,0,3)by
    unfold bigB at hbig;rw[decide_eq_true_eq]at hbig;exact endA_big (d:=d) 0 [] hbig)
   rw[hbig]at CB;clear hbig y0 y1 y2 y3 y4;go_enter Tryz.func51,Tryz.ntmps51;go_upto_region 1 with fail;rw[←HW0.out];clear hW0;go_wp2_with (go_at_call 94;refine CB.out.mono ?_;rintro e w6 ⟨rfl,rfl⟩);exact bodyPost_ret (v:= .tuple #[.agg #[.slice none 0 0,.slice none 0 0],.int .i64 (0:Nat),.int .i64 3]) (by simp[results,Tryz.results51,go_sem,x0,x1]) rfl (AnsE.no HZ.out (HR.out _ (put2_below HB.out (Nat.le_refl _) _ _)))
 | false=>
   have hnb:¬(200<d.rules.length∨200<d.pairs.length):=by unfold bigB at hbig;rwa[decide_eq_false_iff_not]at hbig
   rw[hbig]at CB;obtain⟨b,hb⟩:∃b,b=d.bad:=⟨_,rfl⟩;rw[←hb]at y3;by_cases h1:0<b
   ·have HZ:=hid (show endA d=(af0,b,5)by
     unfold endA;rw[if_neg hnb,if_pos (by omega),hb])
    have h1':(0:Int)<b:=by omega
    have hbk:b=0∨b≠0:=by omega
    clear hbig hnb hb y0 y1 y2 y4 h1 hbk;go_enter Tryz.func51,Tryz.ntmps51;go_upto_region 1 with fail;rw[←HW0.out];clear hW0;go_upto_region 4 with(go_at_call 94;refine CB.out.mono ?_;rintro e w6 ⟨rfl,rfl⟩);have HD2:=hid HB.out;go_region
    go_wp2_with fail;exact bodyPost_ret (v:= .tuple #[.agg #[.slice none 0 0,.slice none 0 0],.int .i64 b,.int .i64 5]) (by simp[results,Tryz.results51,go_sem,x0,x1]) rfl (AnsE.no HZ.out (HR.out _ (put2_below HD2.out (Nat.le_refl _) _ _).drew))
   ·have hb0:((b:Nat):Int)=0:=by omega
    rw[hb0]at y3;by_cases h2:0<m
    ·have HZ:=hid (show endA d=(af0,m,6)by
      unfold endA;rw[if_neg hnb,if_neg (by omega),←HM.out,if_pos h2])
     have h1':(0:Int)<m:=by omega
     clear hbig hnb hb y0 y1 y2 h1 h2 hb0;go_enter Tryz.func51,Tryz.ntmps51;go_upto_region 1 with fail;rw[←HW0.out];clear hW0;go_upto_region 6 with(go_at_call 94;refine CB.out.mono ?_;rintro e w6 ⟨rfl,rfl⟩);have HD2:=hid HB.out;go_region
     go_wp2_with fail;exact bodyPost_ret (v:= .tuple #[.agg #[.slice none 0 0,.slice none 0 0],.int .i64 m,.int .i64 6]) (by simp[results,Tryz.results51,go_sem,x0,x1]) rfl (AnsE.no HZ.out (HR.out _ (put2_below HD2.out (Nat.le_refl _) _ _).drew))
    ·have HZ:=hid (show endA d=(⟨d.rules,d.pairs⟩,0,0)by
      unfold endA;rw[if_neg hnb,if_neg (by omega),←HM.out,if_neg h2])
     have hm0:((m:Nat):Int)=0:=by omega
     rw[hm0]at y4;obtain⟨RA,cR,RB,cR',rfl,rfl,-,-⟩:=(HQ.out w (Below.refl _ _)).forms;obtain⟨pn,hpn⟩:∃n,n=d.pairs.length:=⟨_,rfl⟩;obtain⟨rn,hrn⟩:∃n,n=d.rules.length:=⟨_,rfl⟩;rw[←hrn,←hpn]at HQ;rw[←hrn]at y0;rw[←hpn]at y1;clear hbig hnb hb y2 h1 h2 hb0 hm0 hpn hrn;go_enter Tryz.func51,Tryz.ntmps51;go_upto_region 1 with fail;rw[←HW0.out];clear hW0;go_wp2_with (go_at_call 94;refine CB.out.mono ?_;rintro e w6 ⟨rfl,rfl⟩);exact bodyPost_ret (v:= .tuple #[.agg #[.slice RA rn cR,.slice RB pn cR'],.int .i64 0,.int .i64 0]) (by simp[results,Tryz.results51,go_sem,x0,x1]) rfl (Or.inr ⟨_,_,_,_,_,HQ.out _ (put2_below HB.out (Nat.le_refl _) _ _),HZ.out,rfl⟩)
theorem LQ.low {w0 w:World}{HA:Nat}{F:Nat→Prop}{rv pv:Value}{xs:List Value}{d:Rd}{k m:Int}(h:LQ w0 w HA F rv pv xs d k m){q o:Nat}{v:Value}(hq:w0.heap.size≤q)(hlt:q<HA):LQ w0 (w.setCell ⟨q,o,none⟩ v) HA F rv pv xs d k m:=by
 refine⟨(set_other _ _ _ _ (by omega)).trans h.box,own_blk h.rrow fun g hg=>set_other _ _ _ _ ?_,h.rules.still (by rw[set_size];exact Nat.le_refl _) fun b hF _=>set_other _ _ _ _ ?_,own_blk h.prow fun g hg=>set_other _ _ _ _ ?_,fun b hF=>by rw[set_size];exact h.foot b hF,h.base,h.below.setCell (p:=⟨q,o,none⟩) hq _⟩
 ·have:=(h.rrow.lt g hg).1;omega
 ·have:=(h.foot b hF).1;omega
 ·have:=(h.prow.lt g hg).1;omega
theorem LQ.start2 (w0 w:World)(hb:Below w0.heap.size w0 w):LQ w0 (w.alloc (.cells #[.slice none 0 0,.slice none 0 0,.int .i64 0,.int .i64 0,.int .i64 0] 93)) w.heap.size (fun _=>False) (.slice none 0 0) (.slice none 0 0) [] rd0 0 0:=
 ⟨World.alloc_heap_new w _,World.ownsRow_nil _ _ _ _,RulesIn.nil _ _,World.ownsRow_nil _ _ _ _,fun _ h=>h.elim,hb.size,hb.alloc hb.size _⟩
def WParseE (w w':World)(o:Af×Nat×Int)(e:Ending):Prop:=∃v,e= .returned (.tuple #[v,.int .i64 (o.2.1:Nat),.int .i64 o.2.2])∧AffAt w' v o.1∧Below w.heap.size w w'
theorem WParseE.no {w w':World}{o:Af×Nat×Int}{n:Nat}{c:Int}(h:o=(af0,n,c))(hb:Below w.heap.size w w'):WParseE w w' o (.returned (.tuple #[.agg #[.slice none 0 0,.slice none 0 0],.int .i64 n,.int .i64 c])):=by
 subst h;exact⟨_,rfl,⟨none,0,none,0,rfl,.inl ⟨rfl,_,_,rfl⟩,.inl ⟨rfl,_,_,rfl⟩⟩,hb⟩
theorem wparse_any (w:World)(s:ByteArray)(hs:s.size≤1000000000)(hT:Lib.Utf8Tabs 1 2 w):
  Calls Tryz.prog 28 #[.string s] w fun e w'=>WParseE w w' (parseA s) e:=by
 obtain⟨W0,hW0⟩:∃W0,W0=w.alloc (.cells #[.slice none 0 0,.slice none 0 0] 57):=⟨_,rfl⟩;have hb0:Below w.heap.size w W0:=by rw[hW0];exact(Below.refl _ _).alloc (Nat.le_refl _) _
 have HB:=hid hb0;have BX:=hid (show∀wx,Below W0.heap.size W0 wx→_ from fun wx hb=>And.intro (box2 (hW0▸hb)) (box2f (hW0▸hb)));have HW0:=hid hW0;have hH0:w.heap.size<W0.heap.size:=by rw[hW0,World.size_alloc];omega
 by_cases hbig:(65536:Int)<s.size
 ·have HZ:=hid (show parseA s=(af0,0,3)by unfold parseA;rw[if_pos (by omega)]);clear hb0 hH0;go_enter Tryz.func28,Tryz.ntmps28;go_upto_region 1 with fail;rw[←HW0.out];clear hW0;obtain⟨⟨x0,x1⟩,fz⟩:=BX.out W0 (Below.refl _ _);go_wp2_with fail;exact bodyPost_ret (v:= .tuple #[.agg #[.slice none 0 0,.slice none 0 0],.int .i64 (0:Nat),.int .i64 3]) (by simp[results,Tryz.results28,go_sem,x0,x1]) rfl (WParseE.no HZ.out (put2_below HB.out (Nat.le_refl _) _ _))
 have HP:=hid (show parseA s=endA (readA rd0 1 (linesL s.data.toList))by unfold parseA;rw[if_neg (by omega)]);have hbW:=(Below.refl W0.heap.size W0).alloc (Nat.le_refl _) (.cells #[.slice none 0 0,.slice none 0 0,.int .i64 0,.int .i64 0,.int .i64 0] 93);have CE:=hid (weach_any W0 (W0.alloc (.cells #[.slice none 0 0,.slice none 0 0,.int .i64 0,.int .i64 0,.int .i64 0] 93)) W0.heap.size s ⟨_,_,_,_,LQ.start2 W0 W0 (Below.refl _ _)⟩ hs (tabs_below hT hb0));have HH:=hid hH0;clear hb0 hH0 hT hbW;go_enter Tryz.func28,Tryz.ntmps28;go_upto_region 1 with fail;rw[←HW0.out];clear hW0;go_wp2_with (go_at_call 49;refine CE.out.mono ?_;rintro e w1 ⟨rfl,hea⟩;have HEA:=hid hea;clear hea CE);obtain⟨d,k,hr,hk,he⟩:=HEA.out;have HE:=hid (show parseA s=endA d from HP.out.trans he.symm);have CA:=hid (wans_any W0 w1 W0.heap.size d k hr);clear hr he hk HEA;go_wp2_with (go_at_call 51;refine CA.out.mono ?_);rintro e w2 hans;rcases hans with ⟨n,c,hz,rfl,hr⟩|⟨F,rv,pv,xs,m,hq,hz,rfl⟩
 ·have HZ:=hid (HE.out.trans hz);have HB2:=hid hr.below;obtain⟨⟨x0,x1⟩,fz⟩:=BX.out w2 hr.below;clear hz hr CA;go_wp2_with fail;exact bodyPost_ret (v:= .tuple #[.agg #[.slice none 0 0,.slice none 0 0],.int .i64 n,.int .i64 c]) (by simp[results,Tryz.results28,go_sem,x0,x1]) rfl (WParseE.no HZ.out (put2_below (HB.out.trans (HB2.out.mono HB.out.size)) (Nat.le_refl _) _ _))
 ·have HZ:=hid (HE.out.trans hz);obtain⟨RA,cR,RB,cR',rfl,rfl,-,-⟩:=hq.forms;obtain⟨⟨x0,x1⟩,fz⟩:=BX.out w2 hq.below;have HQ:=hid hq;obtain⟨pn,hpn⟩:∃n,n=d.pairs.length:=⟨_,rfl⟩;obtain⟨rn,hrn⟩:∃n,n=d.rules.length:=⟨_,rfl⟩;rw[←hrn,←hpn]at HQ⊢;have HB2:=hid (HB.out.trans (hq.below.mono HB.out.size));clear hz hq CA hpn hrn;go_wp2_with fail;refine bodyPost_ret (v:= .tuple #[.agg #[.slice RA rn cR,.slice RB pn cR'],.int .i64 0,.int .i64 0]) (by simp[results,Tryz.results28,go_sem,x0,x1]) rfl ?_;rw[HZ.out];refine⟨_,rfl,?_,put2_below HB2.out (Nat.le_refl _) _ _⟩;have hq:=HQ.out;have hq2:LQ w w2 W0.heap.size F (.slice RA rn cR) (.slice RB pn cR') xs d (k:Nat) m:=⟨hq.box,hq.rrow,hq.rules,hq.prow,hq.foot,Nat.le_of_lt HH.out,HB2.out⟩;exact((hq2.low (q:=w.heap.size) (o:=0) (v:= .slice RA rn cR) (Nat.le_refl _) HH.out).low (q:=w.heap.size) (o:=1) (v:= .slice RB pn cR') (Nat.le_refl _) HH.out).reads
end Go.Proofs.YtfehpcbmdancoaaGreatDoor.Af
