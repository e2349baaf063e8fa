/- The landed reader's add by contract. -/
import Derived.Deep.AppendLies
import Derived.Deep.RegionLaw
import Derived.Deep.CutRange
import Derived.Deep.DeepCutAuto
import Derived.Test.YtfehpcbmdancoaaGreatDoorPbNNew
import Derived.Test.YtfehpcbmdancoaaGreatDoorPbORows
import Derived.Test.YtfehpcbmdancoaaGreatDoorPbPlain
namespace Go.Proofs.YtfehpcbmdancoaaGreatDoor.Af
open Go Go.RowKit Go.Lib
theorem Tryz.infosL123:(Tryz.prog.info? 123).map (fun i=>(i.zero,i.size,i.bytes))=some (some (.agg #[.bool false,.int .i64 0,.bool false,.string ⟨#[]⟩,.string ⟨#[]⟩,.slice none 0 0]),6,80):=by kernel_rfl
theorem Tryz.infosL118:(Tryz.prog.info? 118).map (fun i=>(i.zero,i.size,i.bytes))=some (some (.agg #[.int .i64 0,.int .i64 0]),2,16):=by kernel_rfl
set_option maxRecDepth 100000 in
set_option maxHeartbeats 1000000 in
theorem wa1_any (w:World)(q:Nat)(p:Ru)(sv:Value)(b:Bool)(f:Int)(hlt:q<w.heap.size)(h0:w.cell? ⟨q,0,none⟩=some (.bool b))(h1:w.cell? ⟨q,1,none⟩=some (.int .i64 f))(hsv:∃A n c,sv= .slice A n c):
  Calls Tryz.prog 146 #[.agg #[.bool p.pre,.int .i64 p.flag,.bool p.cross,.string p.strip,.string p.add,sv],.pointer (some ⟨q,0,none⟩)] w fun e w'=>e= .returned (.bool (p.flag==f&& !(p.pre==b)))∧Below w.heap.size w w':=by
 obtain⟨A,n,c,rfl⟩:=hsv
 have HB:=Lib.hid ((Below.refl w.heap.size w).alloc (Nat.le_refl _) (.cells #[.bool p.pre,.int .i64 p.flag,.bool p.cross,.string p.strip,.string p.add,.slice A n c] 123))
 have z0:=(HB.out.cell (p:=⟨q,0,none⟩) hlt).trans h0
 have z1:=(HB.out.cell (p:=⟨q,1,none⟩) hlt).trans h1
 obtain⟨pp,pf,pc,ps,pa,pl⟩:=p
 dsimp only at HB z0 z1⊢
 clear h0 h1
 by_cases hf:pf=f
 ·subst hf
  have d1:(pf==pf)=true:=by simp
  rw[d1,Bool.true_and]
  by_cases hp:pp=b
  ·subst hp
   have d2:(pp==pp)=true:=by simp
   rw[d2]
   go_enter Tryz.func146,Tryz.ntmps146
   go_wp2_with fail
   go_ret
   exact⟨rfl,HB.out⟩
  ·have d2:(pp==b)=false:=by simpa using hp
   have d3:(pp != b)=true:=by simpa using hp
   rw[d2]
   clear hp
   go_enter Tryz.func146,Tryz.ntmps146
   go_wp2_with fail
   go_ret
   exact⟨rfl,HB.out⟩
 ·have d1:(pf==f)=false:=by simpa using hf
  have d3:decide (pf=f)=false:=decide_eq_false hf
  rw[d1,Bool.false_and]
  clear hf
  go_enter Tryz.func146,Tryz.ntmps146
  go_wp2_with fail
  go_ret
  exact⟨rfl,HB.out⟩
theorem clash_take {rs:List Ru}{k:Nat}{p r:Ru}(h:rs[k]?=some p):clash (rs.take (k+1)) r=(clash (rs.take k) r||(p.flag==r.flag&& !(p.pre==r.pre))):=by
 obtain⟨hlt,he⟩:=List.getElem?_eq_some_iff.1 h
 unfold clash
 rw[List.take_succ_eq_append_getElem hlt,he,List.any_append]
 simp
theorem clash_in {rs:List Ru}{k:Nat}{p r:Ru}(h:rs[k]?=some p)(hc:(p.flag==r.flag&& !(p.pre==r.pre))=true):clash rs r=true:=by
 unfold clash
 rw[List.any_eq_true]
 exact⟨p,List.mem_of_getElem? h,hc⟩
set_option maxRecDepth 100000 in
set_option maxHeartbeats 1000000 in
theorem wir_any (w:World)(v:Value)(rs:List Ru)(q:Nat)(r:Ru)(h:RulesAt w v rs)(hlt:q<w.heap.size)(h0:w.cell? ⟨q,0,none⟩=some (.bool r.pre))(h1:w.cell? ⟨q,1,none⟩=some (.int .i64 r.flag)):
  Calls Tryz.prog 198 #[v,.func (.func 146) #[] #[.pointer (some ⟨q,0,none⟩)]] w fun e w'=>(∃x:Int,e= .returned (.int .i64 x)∧decide (0≤x)=clash rs r)∧Below w.heap.size w w':=by
 obtain⟨B,m,cB,rfl,hm⟩:∃B m cB,v= .slice B m cB∧m=rs.length:=by
  rcases h with ⟨rfl,a,c,rfl⟩|⟨b,off,c,rfl,_⟩
  ·exact⟨_,_,_,rfl,rfl⟩
  ·exact⟨_,_,_,rfl,rfl⟩
 have l2:=h.bd.1
 unfold maxLen at l2
 rw[←hm]at l2
 have HP:=Lib.hid (rules_open h)
 have HM:=Lib.hid hm
 have CT:=Lib.hid (fun wx (hb:Below w.heap.size w wx) p A n c=>wa1_any wx q p (.slice A n c) r.pre r.flag (Nat.lt_of_lt_of_le hlt hb.size) ((hb.cell (p:=⟨q,0,none⟩) hlt).trans h0) ((hb.cell (p:=⟨q,1,none⟩) hlt).trans h1) ⟨A,n,c,rfl⟩)
 clear h hm hlt h0 h1
 go_enter Tryz.func198,Tryz.ntmps198
 go_wp2_with fail
 go_loopg [5,8] m (fun g _s5 i wr=>∃k:Nat,k+g=m∧i= .int .i64 k∧Hid (Below w.heap.size w wr∧clash (rs.take k) r=false))
 case atStart=>exact⟨0,by omega,rfl,Lib.hid ⟨Below.refl _ _,by simp[clash]⟩⟩
 case round=>
  obtain⟨k,hk,rfl,HK⟩:=hrel
  have hk0:(0:Int)≤k:=by omega
  rcases Nat.eq_zero_or_pos gk with h0|h0
  ·have hkm:¬(k:Int)<m:=by omega
   have HF:=Lib.hid (show clash rs r=false by
    have h:=HK.out.2
    rwa[List.take_of_length_le (by have:=HM.out;omega)]at h)
   go_wp2_with fail
   go_ret
   exact⟨⟨_,rfl,by rw[HF.out];rfl⟩,HK.out.1⟩
  ·have hkm:(k:Int)<m:=by omega
   obtain⟨p,hp⟩:∃p,rs[k]?=some p:=⟨_,List.getElem?_eq_getElem (by have:=HM.out;omega)⟩
   obtain⟨b,off,rfl,hb,hc,hRU⟩:=HP.out k p hp
   obtain⟨D,dc,e0,e1,e2,e3,e4,e5,-⟩:=(hRU.keep HK.out.1 hb).at_
   have hm1:(m:Int)≤cB:=by omega
   obtain⟨dn,hdn⟩:∃d,d=p.cond.length:=⟨_,rfl⟩
   rw[←hdn]at e5
   have C1:=Lib.hid (CT.out wr HK.out.1 p D dn dc)
   have HU:=Lib.hid (clash_take (r:=r) hp)
   have HI:=Lib.hid (clash_in (r:=r) hp)
   clear hRU hb hc hp hdn
   obtain⟨pp,pf,pc,ps,pa,pl⟩:=p
   dsimp only at e0 e1 e2 e3 e4 C1 HU HI
   cases hz:(pf==r.flag&& !(pp==r.pre))with
   | true=>
     rw[hz]at C1 HI
     have HI2:=Lib.hid (HI.out rfl)
     clear hz HU HI
     go_wp2_with (go_at_call 146;refine C1.out.mono ?_)
     rintro e w2 ⟨rfl,hb2⟩
     have HB2:=Lib.hid (HK.out.1.trans (hb2.mono HK.out.1.size))
     clear hb2
     go_wp2_with fail
     go_ret
     exact⟨⟨_,rfl,by rw[HI2.out];exact decide_eq_true (by omega)⟩,HB2.out⟩
   | false=>
     rw[hz]at C1 HU
     have HU2:=Lib.hid (show clash (rs.take (k+1)) r=false by rw[HU.out,HK.out.2];rfl)
     clear hz HU HI
     go_wp2_with (go_at_call 146;refine C1.out.mono ?_)
     rintro e w2 ⟨rfl,hb2⟩
     have HB2:=Lib.hid (HK.out.1.trans (hb2.mono HK.out.1.size))
     clear hb2
     go_wp2_with fail
     go_roundg (gk-1)
     case measure=>omega
     case rel=>exact⟨k+1,by omega,by go_num,Lib.hid ⟨HB2.out,HU2.out⟩⟩
set_option maxHeartbeats 1000000 in
theorem wcr_any (w:World)(v:Value)(rs:List Ru)(q:Nat)(r:Ru)(h:RulesAt w v rs)(hlt:q<w.heap.size)(h0:w.cell? ⟨q,0,none⟩=some (.bool r.pre))(h1:w.cell? ⟨q,1,none⟩=some (.int .i64 r.flag)):
  Calls Tryz.prog 147 #[v,.func (.func 146) #[] #[.pointer (some ⟨q,0,none⟩)]] w fun e w'=>e= .returned (.bool (clash rs r))∧Below w.heap.size w w':=by
 have C:=Lib.hid (wir_any w v rs q r h hlt h0 h1)
 obtain⟨B,m,cB,rfl⟩:∃B m cB,v= .slice B m cB:=by
  rcases h with ⟨rfl,a,c,rfl⟩|⟨b,off,c,rfl,_⟩
  ·exact⟨_,_,_,rfl⟩
  ·exact⟨_,_,_,rfl⟩
 clear h hlt h0 h1
 go_enter Tryz.func147,Tryz.ntmps147
 go_wp2_with (go_at_call 198;refine C.out.mono ?_;rintro e w1 ⟨⟨x,rfl,hx⟩,hb⟩;have HR:=Lib.hid hx;have HB:=Lib.hid hb;clear hx hb)
 go_ret
 exact⟨ret_bool HR.out,HB.out⟩
structure AddAt (w0 wx:World)(HA:Nat)(F:Nat→Prop)(rv pv:Value)(xs:List Value)(d:Rd)(k m:Int)(q:Nat)(r:Ru)(A:Option Addr)(cap:Nat):Prop where
 lq:LQ w0 wx HA F rv pv xs d k m
 bx:wx.heap[q]?=some (.cells #[.bool r.pre,.int .i64 r.flag,.bool r.cross,.string r.strip,.string r.add,.slice A r.cond.length cap] 123 (0,0))
 it:ItemsIn F wx (.slice A r.cond.length cap) r.cond
 ne:HA<q
theorem AddAt.keep {w0 w w':World}{HA:Nat}{F:Nat→Prop}{rv pv:Value}{xs:List Value}{d:Rd}{k m:Int}{q:Nat}{r:Ru}{A:Option Addr}{cap:Nat}(h:AddAt w0 w HA F rv pv xs d k m q r A cap)(hb:Below w.heap.size w w'):AddAt w0 w' HA F rv pv xs d k m q r A cap:=
 ⟨h.lq.keep hb,(hb.block q (Array.getElem?_eq_some_iff.1 h.bx).1).trans h.bx,h.it.still hb.size fun b _ hlt=>hb.block b hlt,h.ne⟩
theorem AddAt.mixed {w0 w:World}{HA:Nat}{F:Nat→Prop}{rv pv:Value}{xs:List Value}{d:Rd}{k m:Int}{q:Nat}{r:Ru}{A:Option Addr}{cap:Nat}(h:AddAt w0 w HA F rv pv xs d k m q r A cap)(m':Int):AddAt w0 (w.setCell ⟨HA,4,none⟩ (.int .i64 m')) HA F rv pv xs d k m' q r A cap:=
 ⟨h.lq.mixed m',(set_other _ _ _ _ (by have:=h.ne;omega)).trans h.bx,h.it.still (by rw[set_size];exact Nat.le_refl _) fun b hF _=>set_other _ _ _ _ (by have:=(h.lq.foot b hF).1;omega),h.ne⟩
theorem AddAt.cells {w0 w:World}{HA:Nat}{F:Nat→Prop}{rv pv:Value}{xs:List Value}{d:Rd}{k m:Int}{q:Nat}{r:Ru}{A:Option Addr}{cap:Nat}(h:AddAt w0 w HA F rv pv xs d k m q r A cap):
  w.cell? ⟨q,0,none⟩=some (.bool r.pre)∧w.cell? ⟨q,1,none⟩=some (.int .i64 r.flag)∧w.cell? ⟨q,2,none⟩=some (.bool r.cross)∧w.cell? ⟨q,3,none⟩=some (.string r.strip)∧w.cell? ⟨q,4,none⟩=some (.string r.add)∧w.cell? ⟨q,5,none⟩=some (.slice A r.cond.length cap):=by
 refine⟨?_,?_,?_,?_,?_,?_⟩<;>simp[World.cell?,h.bx]
theorem AddAt.start {w0 w:World}{HA:Nat}{F:Nat→Prop}{rv pv:Value}{xs:List Value}{d:Rd}{k m:Int}{r:Ru}{A:Option Addr}{cap:Nat}(h:LQ w0 w HA F rv pv xs d k m)(hi:ItemsIn F w (.slice A r.cond.length cap) r.cond):
  AddAt w0 (w.alloc (.cells #[.bool r.pre,.int .i64 r.flag,.bool r.cross,.string r.strip,.string r.add,.slice A r.cond.length cap] 123)) HA F rv pv xs d k m w.heap.size r A cap:=
 have hb:=(Below.refl w.heap.size w).alloc (Nat.le_refl _) (.cells #[.bool r.pre,.int .i64 r.flag,.bool r.cross,.string r.strip,.string r.add,.slice A r.cond.length cap] 123)
 ⟨h.keep hb,World.alloc_heap_new w _,hi.still hb.size fun b _ hlt=>hb.block b hlt,h.hi⟩
theorem rule_one1 (a:Bool)(b:Int)(c:Bool)(x y:ByteArray)(A:Option Addr)(n cp:Nat):∀u∈[Value.bool a,.int .i64 b,.bool c,.string x,.string y,.slice A n cp],u.oneCell'=true:=by
 intro u hu
 simp only[List.mem_cons,List.not_mem_nil,or_false]at hu
 rcases hu with rfl|rfl|rfl|rfl|rfl|rfl<;>rfl
set_option maxRecDepth 100000 in
set_option maxHeartbeats 2000000 in
theorem wadd_any (w0 w:World)(HA:Nat)(F:Nat→Prop)(rv pv:Value)(xs:List Value)(d:Rd)(k m:Int)(r:Ru)(A:Option Addr)(cap n:Nat)(h:LQ w0 w HA F rv pv xs d k m)
  (hm:m=(flagA [] d.rules d.at_:Nat)) (ha:AtsOk d) (hk:k=(n:Nat)) (hn:d.rules.length≤100000) (hi:ItemsIn F w (.slice A r.cond.length cap) r.cond):
  Calls Tryz.prog 92 #[.pointer (some ⟨HA,0,none⟩),.agg #[.bool r.pre,.int .i64 r.flag,.bool r.cross,.string r.strip,.string r.add,.slice A r.cond.length cap]] w fun e w'=>e= .returned (.tuple #[])∧
   ∃rv' xs',LQ w0 w' HA F rv' pv xs' { d with rules:=d.rules++[r],at_:=d.at_++[n] } k (flagA [] (d.rules++[r]) (d.at_++[n]):Nat):=by
 obtain⟨i1,hi1,hz10,hz11,hz12⟩:=info_parts Tryz.infosL123
 have hS:=AddAt.start h hi
 obtain⟨W1,hW1⟩:∃W1,W1=w.alloc (.cells #[.bool r.pre,.int .i64 r.flag,.bool r.cross,.string r.strip,.string r.add,.slice A r.cond.length cap] 123):=⟨_,rfl⟩
 rw[←hW1]at hS
 obtain⟨q,hq⟩:∃q,q=w.heap.size:=⟨_,rfl⟩
 rw[←hq]at hS
 have HS:=Lib.hid hS
 obtain⟨RA,cR,RB,cR',rfl,rfl,hRA,-⟩:=hS.lq.forms
 have hfl:=flagA_snoc d.rules [] d.at_ r n ha.1 ha.2
 rw[List.nil_append]at hfl
 have HFL:=Lib.hid hfl
 have HMK:=Lib.hid (And.intro hm hk)
 have hqlt:q<W1.heap.size:=(Array.getElem?_eq_some_iff.1 hS.bx).1
 have CC:=Lib.hid (wcr_any W1 _ d.rules q r hRA hqlt hS.cells.1 hS.cells.2.1)
 obtain⟨x0,x1,x2,x3,x4,fz⟩:=hS.lq.boxc
 obtain⟨rn,hrn⟩:∃n,n=d.rules.length:=⟨_,rfl⟩
 obtain⟨pn,hpn⟩:∃n,n=d.pairs.length:=⟨_,rfl⟩
 have HRN:=Lib.hid (And.intro hrn hpn)
 rw[←hrn,←hpn]at HS
 rw[←hpn]at x1⊢
 rw[←hrn]at CC x0 hn
 obtain⟨dl,hdl⟩:∃n,n=r.cond.length:=⟨_,rfl⟩
 have HDL:=Lib.hid hdl
 have HW1:=Lib.hid hW1
 have HQ:=Lib.hid hq
 obtain⟨rp,rf,rc,rs,ra,rl⟩:=r
 dsimp only at hW1 HW1 hdl HDL⊢
 rw[←hdl]at hW1 HW1⊢
 clear h hm ha hk hi hS hfl hRA hrn hpn hdl hqlt
 go_enter Tryz.func92,Tryz.ntmps92
 go_upto_region 1 with fail
 rw[←HW1.out,←HQ.out]
 clear hW1 hq
 go_upto_region 2 with fail
 obtain⟨cb,hcb⟩:∃b,b=clash d.rules ⟨rp,rf,rc,rs,ra,rl⟩:=⟨_,rfl⟩
 rw[←hcb]at CC HFL
 clear hcb
 go_cut [19] (fun t wx=>∃b:Bool,t= .bool b∧Hid ((AddAt w0 wx HA F (.slice RA rn cR) (.slice RB pn cR') xs d k m q ⟨rp,rf,rc,rs,ra,rl⟩ A cap)∧b=(decide (m=0)&&cb)))
 case first=>
  by_cases hm0:m=0
  ·subst hm0
   go_wp2_with (go_at_call 147;refine CC.out.mono ?_;rintro e w2 ⟨rfl,hb⟩;have HS2:=Lib.hid (HS.out.keep hb);clear hb)
   go_meet
   exact⟨cb,rfl,Lib.hid ⟨HS2.out,by simp⟩⟩
  ·have d0:(m==0)=false:=by simpa using hm0
   have d1:decide (m=0)=false:=decide_eq_false hm0
   have HD:=Lib.hid d1
   clear hm0
   go_wp2_with fail
   go_meet
   exact⟨false,rfl,Lib.hid ⟨HS.out,by rw[HD.out];rfl⟩⟩
 case rest=>
 obtain⟨b,rfl,HX⟩:=hcut
 clear CC x0 x1 x2 x3 x4 fz
 go_upto_if 19 with fail
 go_cut [] (fun wx=>Hid (∃m':Int,(AddAt w0 wx HA F (.slice RA rn cR) (.slice RB pn cR') xs d k m' q ⟨rp,rf,rc,rs,ra,rl⟩ A cap)∧m'=(flagA [] (d.rules++[⟨rp,rf,rc,rs,ra,rl⟩]) (d.at_++[n]):Nat)))
 case first=>
  obtain⟨x0,x1,x2,x3,x4,fz⟩:=HX.out.1.lq.boxc
  cases b with
  | true=>
    have HN:=Lib.hid (show k=(flagA [] (d.rules++[⟨rp,rf,rc,rs,ra,rl⟩]) (d.at_++[n]):Nat)by
     have h1:=HX.out.2
     have hm0:m=0:=by
      rcases Decidable.em (m=0)with h|h
      ·exact h
      ·rw[decide_eq_false h]at h1;cases h1
     rw[hm0]at h1
     have hcb:cb=true:=by simpa using h1.symm
     rw[HFL.out,if_pos (by have:=HMK.out.1;omega),if_pos hcb]
     exact HMK.out.2)
    go_wp2_with fail
    go_meet
    exact Lib.hid ⟨k,HX.out.1.mixed k,HN.out⟩
  | false=>
    have HN:=Lib.hid (show m=(flagA [] (d.rules++[⟨rp,rf,rc,rs,ra,rl⟩]) (d.at_++[n]):Nat)by
     have h1:=HX.out.2
     rw[HFL.out]
     by_cases hm0:m=0
     ·rw[decide_eq_true hm0]at h1
      have hcb:cb=false:=by simpa using h1.symm
      rw[if_pos (by have:=HMK.out.1;omega),if_neg (by rw[hcb];decide)]
      exact hm0
     ·rw[if_neg (by have:=HMK.out.1;omega)]
      exact HMK.out.1)
    go_wp2_with fail
    go_meet
    exact Lib.hid ⟨m,HX.out.1,HN.out⟩
 case rest=>
 obtain⟨m',hA,hm'⟩:=hcut.out
 clear hcut HX
 obtain⟨x0,x1,x2,x3,x4,fz⟩:=hA.lq.boxc
 obtain⟨p0,p1,p2,p3,p4,p5⟩:=hA.cells
 dsimp only at p0 p1 p2 p3 p4 p5
 rw[←HDL.out]at p5
 have hown:=hA.lq.rrow
 rw[←HRN.out.1]at hown
 have HW:=Lib.hid (And.intro hA hown)
 have HM':=Lib.hid hm'
 clear x1 x2 x3 x4 fz hA hown hm'
 obtain⟨nw,hnw⟩:∃l:List Value,l=[.bool rp,.int .i64 rf,.bool rc,.string rs,.string ra,.slice A dl cap]:=⟨_,rfl⟩
 have h1c:=rule_one1 rp rf rc rs ra A dl cap
 have hgo:∀(w4:World),((wc.alloc (.cells #[.bool rp,.int .i64 rf,.bool rc,.string rs,.string ra,.slice A dl cap] 123)).drew).grownBy w4 (Value.slice RA rn cR).ownBlock→w4.heap[HA]?=some (.cells #[.slice RA rn cR,.slice RB pn cR',.int .i64 k,.int .i64 (d.bad:Nat),.int .i64 m'] 93 (0,0)):=fun w4 hg=>by
  have hlt:HA<wc.heap.size:=HW.out.1.lq.hi
  have hsz:((wc.alloc (.cells #[.bool rp,.int .i64 rf,.bool rc,.string rs,.string ra,.slice A dl cap] 123)).drew).heap.size=wc.heap.size+1:=World.size_alloc _ _
  refine(hg.block HA (by omega) (fun e=>?_)).trans ((Below.heap_alloc wc _ _ hlt).trans HW.out.1.lq.box)
  have:=(HW.out.2.lt HA e.symm).1
  omega
 have HGO:=Lib.hid hgo
 clear hgo hnw
 have old:∀(k o:Nat) v,wc.cell? ⟨k,o,none⟩=some v→(wc.alloc (.cells #[.bool rp,.int .i64 rf,.bool rc,.string rs,.string ra,.slice A dl cap] 123)).cell? ⟨k,o,none⟩=some v:=fun k o v hv=>
  (((Below.refl wc.heap.size wc).alloc (Nat.le_refl _) _).cell (p:=⟨k,o,none⟩) (World.block_lt_of_cell? wc _ hv)).trans hv
 have y0:=old _ _ _ x0
 clear old
 have HHI:=Lib.hid HW.out.1.lq.hi
 go_upto_region 4 with fail
 go_region_law ((refine step_append_lies _ (by rfl) _ _ _ (by rfl) (HA+1) 123 i1 _ 6 80 Tryz.underlying55 hi1 hz10 hz11 hz12 rfl (by omega) (.slice RA rn cR) rn xs (by rfl) ((HW.out.2.alloc _).drew) ⟨wc.heap.size,0,none⟩ 1 1 [.bool rp,.int .i64 rf,.bool rc,.string rs,.string ra,.slice A dl cap] (by rfl) (by rfl) (World.news_of_block (cs:=#[.bool rp,.int .i64 rf,.bool rc,.string rs,.string ra,.slice A dl cap]) (t:=123) (fr:=(0,0)) (World.alloc_heap_new wc _)) h1c (by omega) (by unfold maxLen;omega) (by omega) (by have:=HHI.out;simp;omega) (wc.heap.size+1) (by simp) ?_;intro gg cap4 w4 hown4 hgrow4 hat4 hlt4;have m4:=(show w4.cell? ⟨HA,0,none⟩=some (.slice RA rn cR)by simp[World.cell?,HGO.out _ hgrow4]);have f4:=(show w4.frozen? ⟨HA,0,none⟩=false by simp[World.frozen?,HGO.out _ hgrow4])))
 all_goals
  obtain rfl:rn=d.rules.length:=HRN.out.1
  obtain rfl:dl=rl.length:=HDL.out
  have hbK:Below wc.heap.size wc ((wc.alloc (.cells #[.bool rp,.int .i64 rf,.bool rc,.string rs,.string ra,.slice A rl.length cap] 123)).drew):=((Below.refl _ _).alloc (Nat.le_refl _) _).drew
  have hK:=HW.out.1.keep hbK
  have hsz:((wc.alloc (.cells #[.bool rp,.int .i64 rf,.bool rc,.string rs,.string ra,.slice A rl.length cap] 123)).drew).heap.size=wc.heap.size+1:=World.size_alloc _ _
  have HF:=Lib.hid (hK.lq.rule (n:=n) hK.it hown4 hgrow4 (hat4.imp (fun e=>e.symm) fun e g hg=>by
   simp only[Value.ownBlock,Option.some.injEq]at hg
   omega))
  clear hown4 hgrow4 hat4 hlt4 m4 f4 x0 p0 p1 p2 p3 p4 p5 y0 hbK hK hsz
  go_end0
  have hF:=HF.out
  rw[HM'.out]at hF
  exact⟨rfl,_,_,hF⟩
end Go.Proofs.YtfehpcbmdancoaaGreatDoor.Af
