/- dict.Forms and its own function by contract: all words of a state, behind a head. -/
import Derived.Deep.CutRange
import Derived.Deep.DeepCutAuto
import Derived.Laws.EntriesVeiled
import Derived.Deep.RegionWith
import Derived.Test.YtfehpcbmdancoaaGreatDoorPdPbXRow
set_option maxRecDepth 100000
set_option maxHeartbeats 1000000
namespace Go.Proofs.YtfehpcbmdancoaaGreatDoor.Dw
open Go Go.RowKit Go.Lib
def hB (hs:List UInt8)(x:Bs):ByteArray:=⟨(hs++x).toArray⟩
theorem hB_nil (hs:List UInt8):hB hs []=⟨hs.toArray⟩:=by unfold hB;simp
theorem hB_cons (hs:List UInt8)(c:UInt8)(x:Bs):hB (hs++[c]) x=hB hs (c::x):=by unfold hB;simp
theorem leads_take (N:List (List Bs)){ch:List (UInt8×Nat×Nat)}{j:Nat}{c:UInt8}{t n:Nat}{M:List Bs}(hj:ch[j]?=some (c,t,n))(ht:N[t]?=some M):leads N (ch.take (j+1))=leads N (ch.take j)++M.map (c:: ·):=by
 rw[List.take_add_one,hj];unfold leads;rw[List.flatMap_append];congr 1;simp[List.getD_eq_getElem?_getD,ht]
theorem pwD {ch:List (UInt8×Nat×Nat)}(h:ch.Pairwise (fun x y=>x.1<y.1)){i j:Nat}{x y:UInt8×Nat×Nat}(hij:i<j)(hx:ch[i]?=some x)(hy:ch[j]?=some y):x.1<y.1:=by
 obtain⟨h1,rfl⟩:=List.getElem?_eq_some_iff.1 hx;obtain⟨h2,rfl⟩:=List.getElem?_eq_some_iff.1 hy;exact List.pairwise_iff_getElem.1 h i j h1 h2 hij
theorem goes_at {N:List (List Bs)}{ch:List (UInt8×Nat×Nat)}(h:ChainOk N ch){j:Nat}{x:UInt8×Nat×Nat}(hj:ch[j]?=some x):goes ch x.1=some x.2.1:=by
 refine goes_hit (pre:=ch.take j) (x:=x) (fun y hy e=>?_) rfl ⟨ch.drop (j+1),?_⟩
 ·obtain⟨i,hi⟩:=List.getElem?_of_mem hy;rw[List.getElem?_take]at hi;split at hi
  ·have:=pwD h.rise (by omega) hi hj;rw[e]at this;exact UInt8.lt_irrefl _ this
  ·cases hi
 ·rw[List.append_assoc];have: [x]++ch.drop (j+1)=ch.drop j:=by
   obtain⟨hlt,e⟩:=List.getElem?_eq_some_iff.1 hj;rw[List.drop_eq_getElem_cons hlt,e];rfl
  rw[this,List.take_append_drop]
def FromSays (w0:World)(N p:Nat)(g:GA)(k:Nat):Prop:=∀(w:World) (t:Nat) (V:List Bs) (hv:Value) (hs:List UInt8) (v:Value) (o:List ByteArray),Fq w0 w N p v o→HeadQ w (N+3) hv hs→g.N[t]?=some V→(∀x∈V,x.length≤k)→o.length+V.length≤1000000→hs.length+k≤1000000→
 Calls Tryz.prog 38 #[.int .i64 t,hv,.pointer (some ⟨N,0,none⟩),.pointer (some ⟨N+1,0,none⟩),.pointer (some ⟨N+2,0,none⟩)] w fun e w'=>e= .returned (.tuple #[])∧∃v',Fq w0 w' N p v' (o++V.map (hB hs))∧HeadQ w' (N+3) hv hs∧Fg w w' N v v' hv
theorem Tryz.infosX9:(Tryz.prog.info? 9).map (fun i=>(i.zero,i.size,i.bytes))=some (some (.string ⟨#[]⟩),1,16):=by kernel_rfl
theorem from_step (w0:World)(N p q:Nat)(g:GA)(st:Nat)(hN:w0.heap.size=N)(hp:w0.cell? ⟨p,0,none⟩=some (.pointer (some ⟨q,0,none⟩)))(h:AutoAt w0 q g st)(k:Nat)(IH:∀k',k'+1=k→FromSays w0 N p g k'):FromSays w0 N p g k:=by
 intro w t V hv hs v o hq hh hNV hV hlen hhead;obtain⟨i0,hi,hz0,hz1,hz2⟩:=info_parts Tryz.infosX9;have hbel:∀wx vx ox,Fq w0 wx N p vx ox→Below w0.heap.size w0 wx:=fun wx vx ox hx=>by rw[hN];exact hx.below
 have hA:=h.keep (hbel _ _ _ hq);obtain⟨hw,hch⟩:=words_out h.ok hNV;obtain⟨f,hf⟩:∃f,f=g.fin (t:Int):=⟨_,rfl⟩;obtain⟨ch,hchn⟩:∃ch,ch=g.out (t:Int):=⟨_,rfl⟩;rw[←hf,←hchn]at hw;rw[←hchn]at hch;have CF:=hid (show Calls Tryz.prog 39 #[.pointer (some ⟨q,0,none⟩),.int .i64 t] w fun e w'=>e= .returned (.bool f)∧w'=w from by
  rw[hf];exact final_any w q g st hA t)
 obtain⟨z0,z1,z2,zp,z1f⟩:=hq.cells hN hp;have hcv:=conv_head hh;have HCL:=hid (fun wx vx ox (hx:Fq w0 wx N p vx ox)=>hx.cells hN hp);have HH:=hid (And.intro hV (And.intro hw (And.intro hch (And.intro hlen hhead))));have HA:=hid (fun wx vx ox (hx:Fq w0 wx N p vx ox)=>h.keep (hbel wx vx ox hx));have HIH:=hid IH;have HCH:=hid hchn;have HQ:=hid (And.intro hq (And.intro hh (And.intro hq.lt hN)));have hhf:=hh.form;clear hq hh hNV hV hw hch hlen hhead h IH hA hchn hf hbel hN hp;obtain⟨HA1,hcp,rfl⟩:=hhf;obtain⟨hn,hhn⟩:∃n,n=hs.length:=⟨_,rfl⟩;rw[←hhn]at HQ hcv⊢;have HHN:=hid hhn;clear hhn;go_enter Tryz.func38,Tryz.ntmps38;go_upto_region 0 with fail;go_cut [16] (fun b wx=>b= .bool f∧w=wx)
 case first=>
  go_wp2_with (go_at_call 39;refine CF.out.mono ?_;rintro e w1 ⟨rfl,rfl⟩);go_meet;exact⟨rfl,rfl⟩
 case rest=>
 obtain⟨rfl,rfl⟩:=hcut;go_step;obtain⟨o1,ho1⟩:∃o1,o1=o++(fins f).map (hB hs):=⟨_,rfl⟩;have HO1:=hid ho1;go_cut [17] (fun _s wx=>∃v1,Hid (Fq w0 wx N p v1 o1∧HeadQ wx (N+3) (.slice HA1 hn hcp) hs∧Fg w wx N v v1 (.slice HA1 hn hcp)))
 case first=>
  have hol:=HH.out.2.2.2.1;cases f with
  | false=>
    have e1:o1=o:=by rw[ho1];simp[fins]
    subst e1;go_wp2_with fail;go_meet;exact⟨_,hid ⟨HQ.out.1,HQ.out.2.1,Fg.refl _ _ _ _⟩⟩
  | true=>
    have e1:o1=o++[⟨hs.toArray⟩]:=by rw[ho1];simp[fins,hB_nil]
    have hol':o.length≤1000000:=by omega
    clear ho1 hol;go_wp2_with (at_builtin;refine wpList_append_where _ rfl _ _ 24 rfl (N+3) 9 i0 (.string ⟨#[]⟩) 1 16 Tryz.underlying24 hi hz0 hz1 hz2 rfl (by decide) _ o.length (o.map Value.string) rfl (HQ.out.1.row.alloc _) ⟨w.heap.size,0,none⟩ 1 1 [.string ⟨hs.toArray⟩] rfl rfl (news_row _ _ _) (fun u hu=>by simp at hu;subst hu;rfl) (by unfold maxLen;omega) (by omega) (by have:=HQ.out.2.2.1;simp;omega) ?_;intro v' w4 hown4 hgrow4 hwh4;have m4:=HQ.out.1.grown hgrow4;have HX4:=hid (HQ.out.1.push HQ.out.2.1 hown4 hgrow4 hwh4);obtain⟨m4,m4f⟩:=m4;obtain⟨A4,cap4,rfl⟩:=row_shape hown4;clear hown4 hgrow4 hwh4);go_meet;exact⟨_,hid ⟨by rw[e1];exact HX4.out.1,HX4.out.2.1,HX4.out.2.2⟩⟩
 case rest=>
 obtain⟨v1,H1⟩:=hcut;obtain⟨y0,y1,y2,yp,-⟩:=HCL.out _ _ _ H1.out.1;obtain⟨m,hm⟩:∃m,m=ch.length:=⟨_,rfl⟩;have CO:=hid (show Calls Tryz.prog 40 #[.pointer (some ⟨q,0,none⟩),.int .i64 t] wc fun e w'=>∃B cb,e= .returned (.slice B m cb)∧Hid (w'.ownsRow wc.heap.size 5 1 (.slice B m cb) m ((ch.map fun x=>x.1).map u8V)∧Below wc.heap.size wc w')from by
  refine(out_any wc q g st (HA.out _ _ _ H1.out.1) t).mono ?_;rintro e w' ⟨v9,rfl,hr,hb⟩;rw[←HCH.out]at hr;obtain⟨B,cb,rfl⟩:=row_shape hr;rw[List.length_map,←hm]at hr⊢;exact⟨B,cb,rfl,hid ⟨hr,hb⟩⟩)
 have HM:=hid hm;clear ho1 hm z0 z1 z2 zp z1f hcv CF;go_wp2_with (go_at_call 40;refine CO.out.mono ?_;rintro e w2 ⟨B,cb,rfl,H2⟩);have HQ0:=hid (show Fq w0 w2 N p v1 o1∧HeadQ w2 (N+3) (.slice HA1 hn hcp) hs∧Fg w w2 N v v1 (.slice HA1 hn hcp)from ⟨H1.out.1.below_ H2.out.2,H1.out.2.1.below_ H2.out.2,H1.out.2.2.trans (by have:=HQ.out.2.2.1;omega) (Fg.of_below N v1 _ H2.out.2) (.inl rfl)⟩);clear y0 y1 y2 yp CO;go_loopg [29] m (fun gh y wr=>∃(j:Nat) (vj:Value),j+gh=m∧y= .int .i64 j∧Hid (Fq w0 wr N p vj (o1++(leads g.N (ch.take j)).map (hB hs))∧HeadQ wr (N+3) (.slice HA1 hn hcp) hs∧Fg w2 wr N v1 vj (.slice HA1 hn hcp)))
 case atStart=>exact⟨0,v1,by omega,rfl,hid ⟨by simpa[leads]using HQ0.out.1,HQ0.out.2.1,Fg.refl _ _ _ _⟩⟩
 case round=>
  obtain⟨j,vj,hj,rfl,HP⟩:=hrel;have j0:(0:Int)≤j:=by omega
  rcases Nat.eq_zero_or_pos gk with h0|h0
  ·have d1:¬(j:Int)<m:=by omega
   have HE:=hid (show o++V.map (hB hs)=o1++(leads g.N (ch.take j)).map (hB hs)by
    rw[List.take_of_length_le (by have:=HM.out;omega),HO1.out,HH.out.2.1,List.map_append,List.append_assoc])
   go_wp2_with fail
   go_end0
   refine⟨rfl,vj,?_,HP.out.2.1,HQ0.out.2.2.trans (by have:=HQ.out.2.2.1;omega) HP.out.2.2 (.inl rfl)⟩;rw[HE.out];exact HP.out.1
  ·have d1:(j:Int)<m:=by omega
   obtain⟨⟨c,t',nx⟩,hx⟩:∃x,ch[j]?=some x:=⟨_,List.getElem?_eq_getElem (by have:=HM.out;omega)⟩;obtain⟨M,hM1,hM2⟩:=HH.out.2.2.1.there _ (List.mem_of_getElem? hx);dsimp only at hM1;have hgo:=goes_at HH.out.2.2.1 hx;dsimp only at hgo;have htk:=leads_take g.N hx hM1;have hnx:=next_any wr q g st (HA.out _ _ _ HP.out.1) t c;rw[←HCH.out,hgo]at hnx;dsimp only at hnx;obtain⟨qb,cbq,hqe,hq1,hq2,hq3,hcells⟩:=own_open9 H2.out.1 (by omega:0<m);injection hqe with e1 e2 e3;subst e1 e3;have hq4:m≤9223372036854775807:=by unfold maxLen at hq3;omega
   have hqw:wc.heap.size≤qb:=(H2.out.1.lt qb rfl).1;have hcell:wr.cell? ⟨qb,j,none⟩=some (.int .u8 c.toNat):=by
    have h1:w2.cell? ⟨qb,j,none⟩=some (.int .u8 c.toNat):=hcells j _ (by rw[List.map_map,List.getElem?_map,hx];rfl);refine Eq.trans ?_ h1;unfold World.cell?;dsimp only;rw[HP.out.2.2.only.block qb hq1 ?_];rintro (e|e|e)
    ·have:=H1.out.1.lt;omega
    ·have:=(H1.out.1.row.lt qb e).2;omega
    ·have:=(H1.out.2.1.lt qb e).2;omega
   have hlt1:(leads g.N (ch.take (j+1))).length≤(leads g.N ch).length:=by
    unfold leads
    conv=>rhs;rw[←List.take_append_drop (j+1) ch,List.flatMap_append,List.length_append]
    exact Nat.le_add_right _ _
   have hMx:∀x∈M,x.length+1≤k:=fun x hx'=>by
    have h9:=HH.out.1 (c::x) (by
     rw[HH.out.2.1];refine List.mem_append_right _ (List.mem_flatMap.2 ⟨_,List.mem_of_getElem? hx,?_⟩);dsimp only;rw[List.getD_eq_getElem?_getD,hM1];exact List.mem_map.2 ⟨x,hx',rfl⟩)
    simpa using h9
   obtain⟨k',rfl⟩:∃k',k=k'+1:=by
    obtain⟨x,hx'⟩:=List.exists_mem_of_ne_nil _ hM2;have:=hMx x hx';exact⟨k-1,by omega⟩
   have hbd:(o1++(leads g.N (ch.take j)).map (hB hs)).length+M.length≤1000000:=by
    have h4:=HH.out.2.2.2.1;rw[HH.out.2.1,List.length_append]at h4;rw[htk,List.length_append,List.length_map]at hlt1;rw[HO1.out,List.length_append,List.length_append,List.length_map,List.length_map];omega
   obtain⟨y0,y1,y2,yp,-⟩:=HCL.out _ _ _ HP.out.1;have CX:=hid hnx;have HT:=hid (And.intro hM1 (And.intro (fun x hx'=>Nat.le_of_succ_le_succ (hMx x hx')) (And.intro hbd htk)));clear hx hM1 hM2 hgo htk hnx hcells hlt1 hMx hbd hq1 hqw;go_upto_region 6 with(go_at_call 41;refine CX.out.mono ?_;rintro e wn ⟨rfl,hbn⟩;have HBN:=hid hbn;clear hbn);have hqn:=HP.out.1.below_ HBN.out;have hhn':=HP.out.2.1.below_ HBN.out;obtain⟨x0,x1,x2,xp,-⟩:=HCL.out _ _ _ hqn;obtain⟨oj,hoj⟩:∃oj,oj=o1++(leads g.N (ch.take j)).map (hB hs):=⟨_,rfl⟩;have HB1:=hid (show Below wn.heap.size wn (wn.drew.alloc (.cells #[.int .u8 c.toNat] 5))from(Below.refl _ _).drew.alloc (Nat.le_refl _) _);have HB2:=hid (show Below wn.heap.size wn (wn.alloc (.cells #[.int .u8 c.toNat] 5)).drew from((Below.refl _ _).alloc (Nat.le_refl _) _).drew);have HQ1:=hid (And.intro (hqn.below_ HB1.out) (hhn'.below_ HB1.out));have HQ2:=hid (And.intro (hqn.below_ HB2.out) (hhn'.below_ HB2.out));obtain⟨-,-,xa,-,-⟩:=HCL.out _ _ _ HQ1.out.1;obtain⟨-,-,xb,-,-⟩:=HCL.out _ _ _ HQ2.out.1;have xc:wn.drew.cell? ⟨N+2,0,none⟩=some (.func (.func 38) #[] #[.pointer (some ⟨N,0,none⟩),.pointer (some ⟨N+1,0,none⟩),.pointer (some ⟨N+2,0,none⟩)]):=x2;have xd:(wn.alloc (.cells #[.int .u8 c.toNat] 5)).cell? ⟨N+2,0,none⟩=some (.func (.func 38) #[] #[.pointer (some ⟨N,0,none⟩),.pointer (some ⟨N+1,0,none⟩),.pointer (some ⟨N+2,0,none⟩)]):=xb;have HC1:=hid (show (wn.drew.alloc (.cells #[.int .u8 c.toNat] 5)).cell? ⟨wn.heap.size,0,none⟩=some (.int .u8 c.toNat)from new_cell wn.drew #[.int .u8 c.toNat] 5 0);have HC2:=hid (show (wn.alloc (.cells #[.int .u8 c.toNat] 5)).drew.cell? ⟨wn.heap.size,0,none⟩=some (.int .u8 c.toNat)from new_cell wn #[.int .u8 c.toNat] 5 0);have HSB:=hid (show N+3≤wn.heap.size from by have:=hqn.lt;omega);have HLB:=hid (show hs.length≤1000000000 from by have:=HH.out.2.2.2.2;omega);have HST:=hid (show∀wa w3 v3,Below wn.heap.size wn wa→HeadQ w3 (N+3) v3 (hs++[c])→HeadQ w3 (N+3) (.slice HA1 hn hcp) hs→wa.grownBy w3 (Value.slice HA1 hn hcp).ownBlock→(v3.ownBlock=(Value.slice HA1 hn hcp).ownBlock∨∀g,v3.ownBlock=some g→wa.heap.size≤g)→
     w3.cell? ⟨N+2,0,none⟩=some (.func (.func 38) #[] #[.pointer (some ⟨N,0,none⟩),.pointer (some ⟨N+1,0,none⟩),.pointer (some ⟨N+2,0,none⟩)])∧
     Calls Tryz.prog 38 #[.int .i64 t',v3,.pointer (some ⟨N,0,none⟩),.pointer (some ⟨N+1,0,none⟩),.pointer (some ⟨N+2,0,none⟩)] w3 fun e w5=>e= .returned (.tuple #[])∧∃v5,Fq w0 w5 N p v5 (o1++(leads g.N (ch.take (j+1))).map (hB hs))∧HeadQ w5 (N+3) (.slice HA1 hn hcp) hs∧Fg w2 w5 N v1 v5 (.slice HA1 hn hcp)from by
    intro wa w3 v3 b1 k1 k2 k3 k4;have hqa:=hqn.below_ b1;have hha:=hhn'.below_ b1;have hq3:=hqa.head hha k3;refine⟨(HCL.out _ _ _ hq3).2.2.1,?_⟩;refine(HIH.out k' rfl w3 t' M v3 (hs++[c]) vj _ hq3 k1 HT.out.1 HT.out.2.1 HT.out.2.2.1 (by rw[List.length_append];have:=HH.out.2.2.2.2;simp;omega)).mono ?_;rintro e w5 ⟨rfl,v5,r1,r2,r3⟩;obtain⟨s1,s2⟩:=from_turn HP.out.1 HP.out.2.1 HBN.out b1 k1 k2 k3 k4 r1 r2 r3;refine⟨rfl,v5,?_,s1,HP.out.2.2.trans (by have:=HQ0.out.1.lt;omega) s2 (.inl rfl)⟩;rw[HT.out.2.2.2,List.map_append,List.map_map,←List.append_assoc];have he:(hB hs∘fun x=>c::x)=hB (hs++[c]):=by funext x;exact(hB_cons hs c x).symm
    rw[he];exact r1)
   clear hoj oj hqn hhn' x0 x1 xp y0 y1 y2 yp hcell;go_region_law (first
    | (refine step_append_byte (by rfl) _ _ (by rfl) (N+3) (.slice HA1 hn hcp) hs wn.heap.size c (by rfl) HQ1.out.2 (by rfl) HC1.out HLB.out (Nat.le_trans HSB.out HB1.out.size) ?_;intro v3 w3 k1 k2 k3 k4;obtain⟨A3,c3,rfl⟩:=k1.form1;obtain⟨m2,hcall⟩:=HST.out _ _ _ HB1.out k1 k2 k3 k4;have CK:=hid hcall;clear k1 k2 k3 k4 hcall)
    | (refine step_append_byte (by rfl) _ _ (by rfl) (N+3) (.slice HA1 hn hcp) hs wn.heap.size c (by rfl) HQ2.out.2 (by rfl) HC2.out HLB.out (Nat.le_trans HSB.out HB2.out.size) ?_;intro v3 w3 k1 k2 k3 k4;obtain⟨A3,c3,rfl⟩:=k1.form1;obtain⟨m2,hcall⟩:=HST.out _ _ _ HB2.out k1 k2 k3 k4;have CK:=hid hcall;clear k1 k2 k3 k4 hcall)
    | (go_simp;go_at_call 38;with_reducible refine CK.out.mono ?_;rintro e w5 ⟨rfl,v5,hr⟩;have H5:=hid hr;clear hr))
   all_goals
    go_wp2_with fail;go_roundg (gk-1)
   all_goals first
    | omega
    | exact⟨j+1,v5,by omega,by go_num,hid H5.out⟩
theorem from_all (w0:World)(N p q:Nat)(g:GA)(st:Nat)(hN:w0.heap.size=N)(hp:w0.cell? ⟨p,0,none⟩=some (.pointer (some ⟨q,0,none⟩)))(h:AutoAt w0 q g st):∀k,FromSays w0 N p g k
 | 0=>from_step w0 N p q g st hN hp h 0 fun k' hk=>by omega
 | k+1=>from_step w0 N p q g st hN hp h (k+1) fun k' hk=>by
   obtain rfl:k'=k:=by omega
   exact from_all w0 N p q g st hN hp h k'
def boxes3 (w:World)(p:Nat):World:=
 ((w.alloc (.cells #[.pointer (some ⟨p,0,none⟩)] 27)).alloc (.cells #[.slice none 0 0] 24)).alloc (.cells #[.func (.func 38) #[] #[.pointer (some ⟨w.heap.size,0,none⟩),.pointer (some ⟨w.heap.size+1,0,none⟩),.pointer (some ⟨w.heap.size+2,0,none⟩)]] 71)
theorem boxes3_q (w:World)(p:Nat):Fq w (boxes3 w p) w.heap.size p (.slice none 0 0) []:=by
 unfold boxes3;refine⟨?_,?_,?_,World.ownsRow_nil _ _ _ _,(((Below.refl _ _).alloc (Nat.le_refl _) _).alloc (by simp) _).alloc (by simp;omega) _⟩
 ·exact heap_up (heap_up (heap_top _ _ rfl) _) _
 ·exact heap_up (heap_top _ _ (by rw[World.size_alloc])) _
 ·exact heap_top _ _ (by simp only[World.size_alloc])
theorem forms_dict (w:World)(p q:Nat)(g:GA)(st:Nat)(V:List Bs)(hp:w.cell? ⟨p,0,none⟩=some (.pointer (some ⟨q,0,none⟩)))(h:AutoAt w q g st)(hV:g.N[st]?=some V)(hk:∀x∈V,x.length≤1000)(hl:V.length≤1000000):
  Calls Tryz.prog 19 #[.pointer (some ⟨p,0,none⟩)] w fun e w'=>∃v,e= .returned v∧w'.ownsRow w.heap.size 9 1 v V.length ((V.map fun x=>(⟨x.toArray⟩:ByteArray)).map Value.string)∧Below w.heap.size w w':=by
 have hq0:=boxes3_q w p;obtain⟨W3,hW3⟩:∃W3,W3=boxes3 w p:=⟨_,rfl⟩;rw[←hW3]at hq0;unfold boxes3 at hW3;have hqd:=hq0.below_ ((Below.refl W3.heap.size W3).drew);have HSA:=hid (start_any W3.drew q g st (h.keep hqd.below));have HSF:=hid (show Calls Tryz.prog 38 #[.int .i64 st,.slice none 0 0,.pointer (some ⟨w.heap.size,0,none⟩),.pointer (some ⟨w.heap.size+1,0,none⟩),.pointer (some ⟨w.heap.size+1+1,0,none⟩)] W3.drew fun e w'=>e= .returned (.tuple #[])∧∃v',Fq w w' w.heap.size p v' ([]++V.map (hB []))from
  (from_all w w.heap.size p q g st rfl hp h 1000 W3.drew st V (.slice none 0 0) [] (.slice none 0 0) [] hqd (head_nil _ _) hV hk (by simpa using hl) (by simp)).mono fun e w' ⟨a1,v',a2,_⟩=>⟨a1,v',a2⟩)
 have HPP:=hid (And.intro (show w.heap.size=w.heap.size from rfl) hp);obtain⟨z0,z1,z2,zp,-⟩:=hq0.cells rfl hp;have z2':W3.drew.cell? ⟨w.heap.size+1+1,0,none⟩=some (.func (.func 38) #[] #[.pointer (some ⟨w.heap.size,0,none⟩),.pointer (some ⟨w.heap.size+1,0,none⟩),.pointer (some ⟨w.heap.size+1+1,0,none⟩)]):=z2;obtain⟨W2,hW2⟩:∃W2,W2=(w.alloc (.cells #[.pointer (some ⟨p,0,none⟩)] 27)).alloc (.cells #[.slice none 0 0] 24):=⟨_,rfl⟩;have hs2:W2.heap.size=w.heap.size+1+1:=by rw[hW2];simp
 have n0:(W2.alloc (.cells #[.nilFunc] 71)).cell? ⟨w.heap.size+1+1,0,none⟩=some .nilFunc:=by rw[←hs2];exact new_cell W2 #[.nilFunc] _ 0
 have n1:(W2.alloc (.cells #[.nilFunc] 71)).frozen? ⟨w.heap.size+1+1,0,none⟩=false:=by
  rw[←hs2];unfold World.frozen?;rw[World.alloc_heap_new];rfl
 have n2:(W2.alloc (.cells #[.nilFunc] 71)).setCell ⟨w.heap.size+1+1,0,none⟩ (.func (.func 38) #[] #[.pointer (some ⟨w.heap.size,0,none⟩),.pointer (some ⟨w.heap.size+1,0,none⟩),.pointer (some ⟨w.heap.size+1+1,0,none⟩)])=W3:=by
  rw[←hs2,alloc_set,hW3,←hW2,hs2];rfl
 rw[hW2]at n0 n1 n2;have HQ:=hid hq0;have HE:=hid (show []++V.map (hB [])=V.map fun x:Bs=>(⟨x.toArray⟩:ByteArray)by
  rw[List.nil_append,show hB []=fun x:Bs=>(⟨x.toArray⟩:ByteArray)by funext x;simp[hB]])
 clear hq0 hqd h hV hk hl hp hW3 hW2 hs2 z2;go_enter Tryz.func19,Tryz.ntmps19;go_upto_region 4 with fail;have CS':=hid (show Calls Tryz.prog 42 #[.pointer (some ⟨q,0,none⟩)] W3.drew fun e w'=>e= .returned (.int .i64 st)∧w'=W3.drew from HSA.out);have CF':=hid (show Calls Tryz.prog 38 #[.int .i64 st,.slice none 0 0,.pointer (some ⟨w.heap.size,0,none⟩),.pointer (some ⟨w.heap.size+1,0,none⟩),.pointer (some ⟨w.heap.size+1+1,0,none⟩)] W3.drew fun e w'=>e= .returned (.tuple #[])∧∃v',Fq w w' w.heap.size p v' ([]++V.map (hB []))from HSF.out);clear n0 n1 n2;go_region_with (first
  | (go_at_call 42;refine CS'.out.mono ?_;rintro e w1 ⟨rfl,rfl⟩)
  | (go_at_call 38;refine CF'.out.mono ?_;rintro e w5 ⟨rfl,v5,hr⟩;have H5:=hid hr;clear hr))
 all_goals
  have x1:=(H5.out.cells rfl HPP.out.2).2.1;go_wp2_with fail;go_ret;refine⟨v5,rfl,?_,H5.out.below⟩;have hrow:=H5.out.row;rw[HE.out,List.length_map]at hrow;refine⟨hrow.1,?_⟩;rcases hrow.2 with hh|⟨g9,cap,cur,e1,e2,e3⟩
  ·exact .inl hh
  ·exact .inr ⟨g9,cap,cur,e1,by omega,e3⟩
end Go.Proofs.YtfehpcbmdancoaaGreatDoor.Dw
