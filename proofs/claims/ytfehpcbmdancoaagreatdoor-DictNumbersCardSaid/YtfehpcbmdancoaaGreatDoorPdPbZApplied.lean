/- closure.applied: an iterator over the rules that apply to an entry, by its contract. -/
import Derived.Sort.MapsRangeIn
import Derived.Test.YtfehpcbmdancoaaGreatDoorPdPbOFun
import Derived.Test.YtfehpcbmdancoaaGreatDoorPdPbQFrame
import Derived.Test.YtfehpcbmdancoaaGreatDoorPdPbYState
import Derived.Test.YtfehpcbmdancoaaGreatDoorPdPbZOnce
set_option maxRecDepth 100000
set_option maxHeartbeats 4000000
namespace Go.Proofs.YtfehpcbmdancoaaGreatDoor
open Go Go.RowKit Go.Lib Go.Shelf Go.Maps
attribute [local go_sem] Oper.semAt_some alloc_set
theorem KeepsAt.only {R T:Nat→Prop}{A B C:World}(h:KeepsAt R A B)(k:OnlyAt T B C)(hd:∀j,R j→¬T j):KeepsAt R A C:=
 h.trans (KeepsAt.of_only k hd)
theorem tabs_sub {w w':World}(h:Tabs9 w)(hs:Sub w w'):Tabs9 w':=
 ⟨fun c hc=>hs.2 _ _ (h.1 c hc),fun i hi=>⟨hs.2 _ _ (h.2 i hi).1,hs.2 _ _ (h.2 i hi).2⟩⟩
structure AP where
 rv:Value
 r:Ru
def apEnc (wd:ByteArray)(x:AP):Array Value:=#[x.rv,.string (applyR x.r wd)]
def ApAdm (Wb:World)(rs:List Ru)(fl:List Int)(wd:ByteArray)(pre:List AP)(x:AP):Prop:=
 (x.r∈rs∧x.r.flag∈fl∧(applyR x.r wd).size≠0∧RuAt Wb x.rv x.r)∧pre.length<fl.length*rs.length
def ApAll (rs:List Ru)(fl:List Int)(wd:ByteArray)(xs:List AP):Prop:=∀r∈rs,r.flag∈fl→(applyR r wd).size≠0→∃x∈xs,x.r=r
structure TabFix (Wb W:World)(b:Nat)(rs:List Ru)(D:DataW Value)(U:Int→Value):Prop where
 map:∃n,W.ownsMap Tryz.prog 3 heldR b n D
 at_:∀f,D.atKey (.int .i64 f) (.held (.slice none 0 0))= .held (U f)
 rows:∀f,RulesOn Wb W (U f) (ofFlag rs f)
theorem TabAt.named {Wb W:World}{b:Nat}{rs:List Ru}(h:TabAt Wb W b rs):∃D U,TabFix Wb W b rs D U:=by
 obtain⟨n,D,U,h1,h2,h3⟩:=h;exact⟨D,U,⟨n,h1⟩,h2,h3⟩
theorem TabFix.on {Wb W W':World}{b:Nat}{rs:List Ru}{D:DataW Value}{U:Int→Value}(h:TabFix Wb W b rs D U)(hs:Sub W W')(hb:W'.heap[b]?=W.heap[b]?):TabFix Wb W' b rs D U:=by
 obtain⟨⟨n,h1⟩,h2,h3⟩:=h;exact⟨⟨n,omap_same h1 hb⟩,h2,fun f=>(h3 f).sub hs⟩
structure AData (Wb:World)(be bt b:Nat)(rs:List Ru)(D:DataW Value)(U:Int→Value)(wd:ByteArray)(A:Option Addr)(n cap:Nat)(W:World):Prop where
 sub:Sub Wb W
 tab:TabFix Wb W b rs D U
 word:W.cell? ⟨be,0,none⟩=some (.string wd)
 flags:W.cell? ⟨be,1,none⟩=some (.slice A n cap)
 table:W.cell? ⟨bt,0,none⟩=some (.map (some b))
structure AFix (Wb:World)(rs:List Ru)(fl:List Int)(wd:ByteArray)(A:Option Addr)(n cap:Nat):Prop where
 ints:IntsAt Wb (.slice A n cap) fl
 tabs:Tabs9 Wb
 fit:∀r∈rs,FitR r
 rin:∀r∈rs,In64 r.flag
 fin:∀f∈fl,In64 f
 word:wd.size≤1000000000
 nr:rs.length≤1000
 nf:fl.length≤1000
def ApMid (rs:List Ru)(ol:List Int)(wd:ByteArray)(lf:List Ru)(k j:Nat)(pre:List AP):Prop:=
 pre.length≤k*rs.length+j∧(∀r∈rs,r.flag∈ol.take k→(applyR r wd).size≠0→∃x∈pre,x.r=r)∧∀r∈lf.take j,(applyR r wd).size≠0→∃x∈pre,x.r=r
theorem ApMid.skip {rs:List Ru}{ol:List Int}{wd:ByteArray}{lf:List Ru}{k j:Nat}{pre:List AP}(h:ApMid rs ol wd lf k j pre){r:Ru}(hr:lf[j]?=some r)(h0:(applyR r wd).size=0):ApMid rs ol wd lf k (j+1) pre:=by
 refine⟨by have:=h.1;omega,h.2.1,fun x hx hok=>?_⟩;rw[List.take_add_one,hr]at hx;rcases List.mem_append.1 hx with hx|hx
 ·exact h.2.2 x hx hok
 ·simp at hx;subst hx;exact absurd h0 hok
theorem ApMid.push {rs:List Ru}{ol:List Int}{wd:ByteArray}{lf:List Ru}{k j:Nat}{pre:List AP}(h:ApMid rs ol wd lf k j pre){x:AP}(hr:lf[j]?=some x.r):ApMid rs ol wd lf k (j+1) (pre++[x]):=by
 have old:∀{r:Ru},(∃y∈pre,y.r=r)→∃y∈pre++[x],y.r=r:=fun ⟨y,hy,e⟩=>⟨y,List.mem_append_left _ hy,e⟩;refine⟨by rw[List.length_append];have:=h.1;simp;omega,fun r hr' hf hok=>old (h.2.1 r hr' hf hok),fun r hx hok=>?_⟩;rw[List.take_add_one,hr]at hx;rcases List.mem_append.1 hx with hx|hx
 ·exact old (h.2.2 r hx hok)
 ·simp at hx;subst hx;exact⟨x,by simp,rfl⟩
theorem ApMid.next {rs:List Ru}{ol:List Int}{wd:ByteArray}{f:Int}{k j:Nat}{pre:List AP}(h:ApMid rs ol wd (ofFlag rs f) k j pre)(hj:(ofFlag rs f).length=j)(hf:ol[k]?=some f):ApMid rs ol wd [] (k+1) 0 pre:=by
 have hl:=ofFlag_len rs f;refine⟨?_,fun r hr hfl hok=>?_,fun r hr=>by simp at hr⟩
 ·have:=h.1;rw[Nat.add_mul,Nat.one_mul];omega
 ·rw[List.take_add_one,hf]at hfl;rcases List.mem_append.1 hfl with hx|hx
  ·exact h.2.1 r hr hx hok
  ·simp at hx;exact h.2.2 r (by rw[←hj,List.take_length];exact List.mem_filter.2 ⟨hr,decide_eq_true hx⟩) hok
theorem ApMid.enter {rs:List Ru}{ol:List Int}{wd:ByteArray}{lf lf':List Ru}{k:Nat}{pre:List AP}(h:ApMid rs ol wd lf k 0 pre):ApMid rs ol wd lf' k 0 pre:=⟨h.1,h.2.1,fun r hr=>by simp at hr⟩
theorem cell_keeps {R:Nat→Prop}{A B:World}(h:KeepsAt R A B){p:Addr}{v:Value}(hc:A.cell? p=some v)(hp:R p.block):B.cell? p=some v:=by
 have hlt:=World.block_lt_of_cell? _ _ hc;unfold World.cell? at hc⊢;rw[h.block _ hlt hp];exact hc
theorem keeps_below {R:Nat→Prop}{A B:World}(h:Below A.heap.size A B):KeepsAt R A B:=⟨h.size,fun k hk _=>h.block k hk⟩
structure ApNow (J:(Nat→Prop)→List AP→World→Prop)(R T:Nat→Prop)(W w1:World)(rs:List Ru)(ol:List Int)(wd:ByteArray)(lf:List Ru)(k j:Nat)(pre:List AP)(wr:World):Prop where
 inv:J T pre wr
 old:KeepsAt R W wr
 own:KeepsAt T w1 wr
 mid:ApMid rs ol wd lf k j pre
theorem applied_stops (Wb:World)(be bt b:Nat)(rs:List Ru)(D:DataW Value)(U:Int→Value)(fl:List Int)(wd:ByteArray)(A:Option Addr)(n cap:Nat)(hF:AFix Wb rs fl wd A n cap)(R:Nat→Prop)(W:World)(hstab:∀W',KeepsAt R W W'→AData Wb be bt b rs D U wd A n cap W')(hRlt:∀k,R k→k<W.heap.size):
  Stops Tryz.prog 160 #[.pointer (some ⟨be,0,none⟩),.pointer (some ⟨bt,0,none⟩)] (apEnc wd) (ApAdm Wb rs fl wd) (ApAll rs fl wd) R W:=by
 intro l J Jx hJ hJx hY hJ0;have hd0:=hstab W (KeepsAt.refl _ _);have hfl:=hd0.flags;have CO:=hid (once_any W A n cap fl (hF.ints.sub hd0.sub) (by have:=hF.nf;omega));obtain⟨ol,hol⟩:∃ol,ol=onceL fl:=⟨_,rfl⟩;have hom:∀x,x∈ol↔x∈fl:=fun x=>by rw[hol];exact onceL_mem fl x
 have hon:ol.length≤fl.length:=by rw[hol];exact onceL_len fl
 rw[←hol]at CO;obtain⟨m,hm⟩:∃m,m=ol.length:=⟨_,rfl⟩;rw[←hm]at CO;have hm1:m≤1000:=by have:=hF.nf;omega
 have HOL:=hid (And.intro hom (And.intro hon hm));have HF:=hid hF;have HS:=hid hstab;have HRlt:=hid hRlt;have HY:=hid hY;have HJ:=hid hJ;have HJX:=hid hJx;have HJ0:=hid hJ0;clear hF hstab hRlt hY hJ hJ0 hd0 hol hom hon hm hJx;refine(callsIn_wide (n:=1)).1 ?_;refine callsIn_of_wp Tryz.func160 rfl trivial ?_ rfl;simp only[Tryz.ntmps160,List.size_toArray,List.length_cons,List.length_nil,Nat.reduceAdd,Nat.reduceSub,Array.replicate_succ,Array.replicate_zero,List.push_toArray,List.append_toArray,List.nil_append,List.cons_append];gi_wp2_with (refine ⟨trivial,?_⟩;gi_at_call 99;refine(callsIn_wide.2 CO.out).mono ?_;rintro e w1 ⟨v,rfl,hown,hb1⟩;obtain⟨OA,oc,rfl⟩:=own_shape hown);have hcl:∀(k:Nat) f,ol[k]?=some f→∃q o,OA=some ⟨q,o,none⟩∧(W.heap.size≤q∧q<w1.heap.size)∧m≤oc∧w1.cell? ⟨q,o+k,none⟩=some (.int .i64 f):=fun k f hk=>by
  have hml:k<m:=by rw[HOL.out.2.2];exact(List.getElem?_eq_some_iff.1 hk).1
  obtain⟨g,c,e,hg,hnc,_,hc⟩:=own_open9 hown (by omega);injection e with e1 e2 e3;subst e1 e3;refine⟨g,0,rfl,⟨(hown.lt g rfl).1,hg⟩,hnc,?_⟩;rw[Nat.zero_add];exact hc k _ (by rw[List.getElem?_map,hk];rfl)
 have HC:=hid hcl;obtain⟨T,hT⟩:∃T:Nat→Prop,T=fun k=>W.heap.size≤k∧k<w1.heap.size:=⟨_,rfl⟩;have HT:=hid hT;have HN0:Hid (ApNow J R T W w1 rs ol wd [] 0 0 [] w1):=hid
  ⟨HJ.out _ _ _ _ _ HJ0.out (OnlyAt.of_below hb1) (fun k hk=>by rw[hT]at hk;exact .inr hk),keeps_below hb1,KeepsAt.refl _ _,by simp,fun r hr hf=>by simp at hf,fun r hr=>by simp at hr⟩
 have HTR:=hid (show∀k,R k→¬T k from fun k hk hh=>by rw[hT]at hh;have:=HRlt.out k hk;omega);clear hown hb1 hcl hT CO HJ0 hfl
 gi_loopw [14] (fun i wr=>∃k:Nat,k≤m∧i= .int .i64 k∧Hid (∃pre,ApNow J R T W w1 rs ol wd [] k 0 pre wr))
  (fun i _=>m-(RowKit.intOf i).toNat)
 case atStart=>exact⟨0,Nat.zero_le _,rfl,hid ⟨[],HN0.out⟩⟩
 case round=>
  obtain⟨k,hk,rfl,HI⟩:=hrel;by_cases hlt:k<m
  ·obtain⟨f,hf⟩:∃f,ol[k]?=some f:=⟨_,List.getElem?_eq_getElem (by have:=HOL.out.2.2;omega)⟩;obtain⟨pre0,hnow⟩:=HI.out;have hd:=HS.out wr hnow.old;obtain⟨q0,o0,rfl,hq0,hmc,hcell⟩:=HC.out k f hf;have cf:=cell_keeps hnow.own hcell (by rw[HT.out];exact hq0);have ct:=hd.table;have hfin:In64 f:=HF.out.fin f ((HOL.out.1 f).1 (List.mem_of_getElem? hf));obtain⟨UA,uc,hU⟩:=ruon_form (hd.tab.rows f);obtain⟨q,hq⟩:∃q,q=(ofFlag rs f).length:=⟨_,rfl⟩;rw[←hq]at hU;have hql:q≤rs.length:=by rw[hq];exact ofFlag_len rs f
   have hq1:q≤1000:=by have:=HF.out.nr;omega
   have lk:=look_tab (W:=wr) hd.tab.map.choose_spec (hU▸hd.tab.at_ f) hfin;have HK:=hid (And.intro hf (And.intro hU (And.intro hq hql)));have HN:=hid hnow;clear hf hnow hd hcell hq0 hU hq hfin hql HI;gi_wp2
   gi_loopw [22] (fun i wy=>∃j:Nat,j≤q∧i= .int .i64 j∧Hid (∃pre,ApNow J R T W w1 rs ol wd (ofFlag rs f) k j pre wy))
    (fun i _=>q-(RowKit.intOf i).toNat)
   case atStart=>exact⟨0,Nat.zero_le _,rfl,hid ⟨pre0,⟨HN.out.inv,HN.out.old,HN.out.own,HN.out.mid.enter⟩⟩⟩
   case round=>
    clear lk cf ct;obtain⟨j,hj,rfl,HI2⟩:=hrel;by_cases hjq:j<q
    ·obtain⟨r,hr⟩:∃r,(ofFlag rs f)[j]?=some r:=⟨_,List.getElem?_eq_getElem (by have:=HK.out.2.2.1;omega)⟩;obtain⟨pre,hnow⟩:=HI2.out;have hd:=HS.out wr hnow.old;have hrow:=hd.tab.rows f;rw[HK.out.2.1]at hrow;obtain⟨rb,ro,rfl,hrb,hqc,c0,c1,c2,c3,c4,B,bc,c5,hit⟩:=ruon_open hrow j r hr;have hmem:r∈rs∧r.flag=f:=by
      have:=List.mem_filter.1 (List.mem_of_getElem? hr);exact⟨this.1,of_decide_eq_true this.2⟩
     have cw:=hd.word;have hb1:Below wr.heap.size wr (wr.alloc (.cells #[.bool r.pre,.int .i64 r.flag,.bool r.cross,.string r.strip,.string r.add,.slice B r.cond.length bc] 123)):=(Below.refl _ _).alloc (Nat.le_refl _) _;have hcw:=(hb1.cell (p:=⟨be,0,none⟩) (World.block_lt_of_cell? _ _ cw)).trans cw;have hru:RuAt Wb (.agg #[.bool r.pre,.int .i64 r.flag,.bool r.cross,.string r.strip,.string r.add,.slice B r.cond.length bc]) r:=⟨B,bc,rfl,hit⟩;have CA:=hid (rapp_any (wr.alloc (.cells #[.bool r.pre,.int .i64 r.flag,.bool r.cross,.string r.strip,.string r.add,.slice B r.cond.length bc] 123)) _ r wd ((hru.sub hd.sub).keep hb1) (HF.out.fit r hmem.1) HF.out.word (tabs_below (tabs_sub HF.out.tabs hd.sub) hb1));have HX:=hid (show∀wx,Below (wr.alloc (.cells #[.bool r.pre,.int .i64 r.flag,.bool r.cross,.string r.strip,.string r.add,.slice B r.cond.length bc] 123)).heap.size (wr.alloc (.cells #[.bool r.pre,.int .i64 r.flag,.bool r.cross,.string r.strip,.string r.add,.slice B r.cond.length bc] 123)) wx→_ from fun wx hb=>box6 hb);have HB1:=hid hb1;have HR:=hid (And.intro hr (And.intro hmem hru));have HN2:=hid hnow;obtain⟨ok,hok⟩:∃ok,ok=okB (applyR r wd):=⟨_,rfl⟩;obtain⟨F,hF⟩:∃F,F=applyR r wd:=⟨_,rfl⟩;rw[←hok,←hF]at CA;have HOK:=hid (And.intro hok hF);clear hr hnow hd hrow hit hmem hru hb1 hok hF HI2;gi_wp2_with fail;refine⟨trivial,?_⟩;refine(callsIn_wide.2 CA.out).mono ?_;rintro e w2 ⟨rfl,hb2⟩;have hb12:Below wr.heap.size wr w2:=HB1.out.trans (hb2.mono HB1.out.size);have hn2:ApNow J R T W w1 rs ol wd (ofFlag rs f) k j pre w2:=
      ⟨HJ.out.same HN2.out.inv (OnlyAt.of_below hb12),HN2.out.old.trans (keeps_below hb12),HN2.out.own.trans (keeps_below hb12),HN2.out.mid⟩
     obtain⟨x0,x1,x2,x3,x4,x5⟩:=HX.out w2 hb2;have HN3:=hid hn2;clear hn2 hb2 hb12 c0 c1 c2 c3 c4 c5 cw hcw CA HB1 HX HN2;have ew:IntKind.i64.wrap ((j:Int)+1)=(j:Int)+1:=IntWalk.i64_in _ (by omega);cases ok with
     | false=>
       have h0:(applyR r wd).size=0:=by
        have:=HOK.out.1;unfold okB at this;simpa using this.symm
       have HN4:=hid (show ApNow J R T W w1 rs ol wd (ofFlag rs f) k (j+1) pre w2 from ⟨HN3.out.inv,HN3.out.old,HN3.out.own,HN3.out.mid.skip HR.out.1 h0⟩);clear HN3 h0 HOK HR;gi_wp2_with (refine ⟨fun _ h=>(by cases h),?_⟩)
       go_roundw
       case rel=>exact⟨j+1,by omega,by go_num,hid ⟨pre,HN4.out⟩⟩
       case measure=>simp[RowKit.intOf];omega
     | true=>
       have hok:(applyR r wd).size≠0:=by
        have:=HOK.out.1;unfold okB at this;simpa using this.symm
       have hadm:ApAdm Wb rs fl wd pre ⟨.agg #[.bool r.pre,.int .i64 r.flag,.bool r.cross,.string r.strip,.string r.add,.slice B r.cond.length bc],r⟩:=by
        refine⟨⟨HR.out.2.1.1,(HOL.out.1 _).1 (by rw[HR.out.2.1.2];exact List.mem_of_getElem? HK.out.1),hok,HR.out.2.2⟩,?_⟩;have h1:=HN3.out.mid.1;have h2:=HK.out.2.2.2;have h3:(k+1)*rs.length≤fl.length*rs.length:=Nat.mul_le_mul_right _ (by have:=HOL.out.2.1;have:=HOL.out.2.2;omega);rw[Nat.add_mul,Nat.one_mul]at h3;omega
       obtain⟨fn,tmps,assign,body,hy,hRd⟩:=HY.out T pre _ w2 hadm HN3.out.inv;simp only[apEnc]at hy;rw[←HOK.out.2]at hy;have HRD:=hid hRd;clear hRd hadm hok;gi_wp2;refine(HRD.out).mono ?_;rintro e W3 ⟨⟨rfl,hJ3⟩|⟨rfl,hJ3⟩,hk3⟩
       ·have HN4:=hid (show ApNow J R T W w1 rs ol wd (ofFlag rs f) k (j+1) _ W3 from ⟨hJ3,HN3.out.old.trans (hk3.mono fun _ h=> .inl h),HN3.out.own.trans (hk3.mono fun _ h=> .inr h),HN3.out.mid.push HR.out.1⟩);clear hJ3 hk3 HN3 HRD HR HOK hy x0 x1 x2 x3 x4 x5;gi_wp2
        go_roundw
        case rel=>exact⟨j+1,by omega,by go_num,hid ⟨_,HN4.out⟩⟩
        case measure=>simp[RowKit.intOf];omega
       ·have HX3:=hid hJ3;clear hJ3 hk3 HN3 HRD HR HOK hy x0 x1 x2 x3 x4 x5;gi_wp2;refine bodyPost_ret (results_none rfl _ _ _) rfl ?_;exact⟨⟨_,rfl⟩,_,_,.inr HX3.out⟩
    ·obtain rfl:j=q:=by omega
     have ew:IntKind.i64.wrap ((k:Int)+1)=(k:Int)+1:=IntWalk.i64_in _ (by omega);have HN5:=hid (show∃pre,ApNow J R T W w1 rs ol wd [] (k+1) 0 pre wr from by
      obtain⟨pre,h⟩:=HI2.out;exact⟨pre,h.inv,h.old,h.own,h.mid.next HK.out.2.2.1.symm HK.out.1⟩)
     clear HI2;gi_wp2
     go_roundw
     case rel=>exact⟨k+1,by omega,by go_num,hid HN5.out⟩
     case measure=>simp[RowKit.intOf];omega
  ·obtain rfl:k=m:=by omega
   have HE:=hid (show∃pre,ApAll rs fl wd pre∧J T pre wr from by
    obtain⟨pre,h⟩:=HI.out;refine⟨pre,fun r hr hf hok=>h.mid.2.1 r hr ?_ hok,h.inv⟩;rw[List.take_of_length_le (by have:=HOL.out.2.2;omega)];exact(HOL.out.1 _).2 hf)
   clear HI;gi_wp2
   go_end0
   obtain⟨pre,h1,h2⟩:=HE.out;exact⟨⟨_,rfl⟩,_,_,.inl ⟨h1,h2⟩⟩
end Go.Proofs.YtfehpcbmdancoaaGreatDoor
namespace Go.Proofs.YtfehpcbmdancoaaGreatDoor
open Go Go.RowKit Go.Lib Go.Shelf Go.Maps
attribute [local go_sem] Oper.semAt_some alloc_set
theorem act_row:(217:TypeId)<Tryz.prog.types.size:=by
 have h:Nat.ble (217+1) Tryz.prog.types.size=true:=by kernel_rfl
 exact Nat.le_of_ble_eq_true h
theorem act_wide:(match Tryz.prog.underlying 217 with|some (.array _ _)|some (.struct _)=>true|_=>false)=true:=by kernel_rfl
theorem act_at:Tryz.prog.keyTypeAt 2 217=true:=by kernel_rfl
theorem three_le:2+1≤10000:=Nat.le_of_ble_eq_true rfl
theorem keyed_act:Keyed Tryz.prog 217:=Keyed.of_law (deep_law_laid Tryz.laidOut (m:=2) three_le act_row act_at act_wide)
theorem act_cells:Tryz.prog.cellsOf 217=2:=by kernel_rfl
theorem act_key:Tryz.prog.keyType 217=true:=by kernel_rfl
theorem str_cells:Tryz.prog.cellsOf 9=1:=by kernel_rfl
theorem types_pos:∃m,Tryz.prog.types.size=m+1:=by
 have h:1≤Tryz.prog.types.size:=Nat.le_trans (Nat.le_add_left 1 _) act_row;exact⟨Tryz.prog.types.size-1,(Nat.sub_add_cancel h).symm⟩
def ActKey (a b:ByteArray)(kl:Lit):Prop:=keyOf Tryz.prog 217 (.agg #[.string a,.string b])=some kl
theorem key_act (a b:ByteArray)(ha:a.size≤maxLen)(hb:b.size≤maxLen):∃kl,ActKey a b kl:=by
 obtain⟨m,hm⟩:=types_pos;unfold ActKey keyOf;rw[Tryz.underlying217];simp only[act_key,Value.formed,Tryz.underlying217,act_cells,hm,Value.cells];simp[Program.keyLits,Tryz.underlying217,Tryz.underlying9,act_cells,str_cells,ha,hb]
structure RV where
 p:Bool
 f:Int
 c:Bool
 s:ByteArray
 a:ByteArray
 A:Option Addr
 n:Nat
 cp:Nat
def RV.val (x:RV):Value:= .agg #[.bool x.p,.int .i64 x.f,.bool x.c,.string x.s,.string x.a,.slice x.A x.n x.cp]
open Classical in
noncomputable def crossR (v:Value):Option (DataW Value×List MemPlace):=if∃x:RV,v=x.val then some (.held v,[])else none
theorem crossR_mk (x:RV):crossR x.val=some (.held x.val,[]):=by
 unfold crossR;rw[if_pos ⟨x,rfl⟩]
theorem crossR_inv {v:Value}{y:DataW Value×List MemPlace}(h:crossR v=some y):(∃x:RV,v=x.val)∧y=(.held v,[]):=by
 unfold crossR at h;split at h
 ·rename_i hx;exact⟨hx,(Option.some.inj h).symm⟩
 ·cases h
theorem ru_val {w:World}{v:Value}{r:Ru}(h:RuAt w v r):∃x:RV,v=x.val∧x.p=r.pre∧x.f=r.flag∧x.c=r.cross∧x.s=r.strip∧x.a=r.add:=by
 obtain⟨A,cap,rfl,_⟩:=h;exact⟨⟨r.pre,r.flag,r.cross,r.strip,r.add,A,r.cond.length,cap⟩,rfl,rfl,rfl,rfl,rfl,rfl⟩
theorem put_any (W:World)(b n:Nat)(D:DataW Value)(v:Value)(r:Ru)(h:RuAt W v r)(hown:W.ownsMap Tryz.prog 217 crossR b n D)(hn:n<1000000000)(kl:Lit)(hkl:ActKey r.strip r.add kl):
  Calls Tryz.prog 109 #[.map (some b),v] W fun e W'=>e= .returned (.tuple #[])∧W'.ownsMap Tryz.prog 217 crossR b (n+1) (if r.cross then D.put kl (.held v)else D)∧W.grownBy W' (some b):=by
 obtain⟨A,cap,rfl,-⟩:=h;obtain⟨k,hk⟩:∃k,k=r.cond.length:=⟨_,rfl⟩;rw[←hk];obtain⟨pre,flag,cross,strip,add,cond⟩:=r;dsimp only at hkl⊢;have HO:=hid hown;have HK:=hid hkl;clear hown hkl hk;cases cross with
 | false=>
   go_enter Tryz.func109,Tryz.ntmps109;go_wp2_with fail
   go_end0
   exact⟨rfl,(HO.out.alloc _).mono (by omega),World.grownBy_alloc _ _ _⟩
 | true=>
   have HR:=hid (crossR_mk ⟨pre,flag,true,strip,add,A,k,cap⟩);go_enter Tryz.func109,Tryz.ntmps109;go_wp2_with (at_mapUpdate;refine wpList_mapUpdate_own _ rfl _ _ _ 169 rfl 217 123 keyed_act Tryz.underlying169 _ b n D rfl (HO.out.alloc _) (by unfold maxLen;omega) _ _ kl rfl rfl HK.out _ [] HR.out ?_;intro w1 hown1 hgrow1)
   go_end0
   exact⟨rfl,hown1,(World.grownBy_alloc _ _ _).trans hgrow1⟩
theorem ranges_same {H:Type}{P:Program}{k:TypeId}{R:Value→Option (DataW H×List MemPlace)}{w w':World}{b r n:Nat}{D:DataW H}{left:Lit→Bool}{cnt:Nat}(h:w.ranges P k R b r n D left cnt)(hb:w'.heap[b]?=w.heap[b]?)(hr:w'.heap[r]?=w.heap[r]?):
  w'.ranges P k R b r n D left cnt:=by
 obtain⟨es,clock,since,seen,c0,h1,F,hs,hD,h2,rest⟩:=h;exact⟨es,clock,since,seen,c0,hb.trans h1,F,hs,hD,hr.trans h2,rest⟩
theorem owns_ne_iter {H:Type}{P:Program}{k:TypeId}{R:Value→Option (DataW H×List MemPlace)}{w:World}{b n b' r' n':Nat}{D D':DataW H}{left:Lit→Bool}{cnt:Nat}(h:w.ownsMap P k R b n D)(h':w.ranges P k R b' r' n' D' left cnt):b≠r':=by
 obtain⟨es,clock,h1,_⟩:=h;obtain⟨es',clock',since,seen,c0,_,_,_,_,h2,_⟩:=h';intro e;rw[e,h2]at h1;cases h1
theorem cells6_at {W:World}{B:Nat}{a b c d e f:Value}{t:TypeId}(h:W.heap[B]?=some (.cells #[a,b,c,d,e,f] t (0,0))):
  W.cell? ⟨B,0,none⟩=some a∧W.cell? ⟨B,1,none⟩=some b∧W.cell? ⟨B,2,none⟩=some c∧W.cell? ⟨B,3,none⟩=some d∧W.cell? ⟨B,4,none⟩=some e∧W.cell? ⟨B,5,none⟩=some f:=by
 refine⟨?_,?_,?_,?_,?_,?_⟩<;>simp[World.cell?,h]
def EntsOk (Wb:World)(G:Ru→Prop)(D:DataW Value):Prop:=∀kl y,(∀z,D.atKey kl z=y)→∃v r,y= .held v∧RuAt Wb v r∧G r∧ActKey r.strip r.add kl
def RowDone (G1 G2:Ru→Prop)(D2:DataW Value)(wd:ByteArray)(kl1:Lit)(pre:List ByteArray):Prop:=
 ∃p,G1 p∧ActKey p.strip p.add kl1∧∀kl2,Maps.has D2 kl2=true→∃s,G2 s∧ActKey s.strip s.add kl2∧((bothR p s wd).size≠0→bothR p s wd∈pre)
theorem RowDone.more {G1 G2:Ru→Prop}{D2:DataW Value}{wd:ByteArray}{kl1:Lit}{pre pre':List ByteArray}(h:RowDone G1 G2 D2 wd kl1 pre)(hs:∀x∈pre,x∈pre'):RowDone G1 G2 D2 wd kl1 pre':=by
 obtain⟨p,h1,h2,h3⟩:=h;refine⟨p,h1,h2,fun kl2 hk=>?_⟩;obtain⟨s,k1,k2,k3⟩:=h3 kl2 hk;exact⟨s,k1,k2,fun hz=>hs _ (k3 hz)⟩
structure WFix (Wb:World)(G1 G2:Ru→Prop)(D1 D2:DataW Value)(wd:ByteArray)(Fm:ByteArray→Prop):Prop where
 ent1:EntsOk Wb G1 D1
 ent2:EntsOk Wb G2 D2
 fit1:∀r,G1 r→FitR r
 fit2:∀r,G2 r→FitR r
 good:∀p s,G1 p→G2 s→(bothR p s wd).size≠0→Fm (bothR p s wd)
 tabs:Tabs9 Wb
 word:wd.size≤1000000000
structure WO (J:(Nat→Prop)→List ByteArray→World→Prop)(G1 G2:Ru→Prop)(D1 D2:DataW Value)(wd:ByteArray)(R T0:Nat→Prop)(W:World)(b1 b2 n1 n2 r1:Nat)(pre0:List ByteArray)(left:Lit→Bool)(cnt:Nat)(T:Nat→Prop)(pre:List ByteArray)(wr:World):Prop where
 rg1:wr.ranges Tryz.prog 217 crossR b1 r1 n1 D1 left cnt
 own2:wr.ownsMap Tryz.prog 217 crossR b2 n2 D2
 inv:J T pre wr
 sup:∀k,T0 k→T k
 it1:T r1
 old:KeepsAt R W wr
 more:∀x∈pre0,x∈pre
 num:pre.length+cnt*Maps.size D2≤pre0.length+Maps.size D1*Maps.size D2
 rows:∀kl1,Maps.has D1 kl1=true→left kl1=false→RowDone G1 G2 D2 wd kl1 pre
structure WI (J:(Nat→Prop)→List ByteArray→World→Prop)(G1 G2:Ru→Prop)(D1 D2:DataW Value)(wd:ByteArray)(R T0:Nat→Prop)(W:World)(b1 b2 n1 n2 r1:Nat)(pre0:List ByteArray)(left1:Lit→Bool)(cnt1:Nat)
  (r2 B9:Nat) (p:Ru) (pv:RV) (kl1:Lit) (pre1:List ByteArray) (left:Lit→Bool) (cnt:Nat) (T:Nat→Prop) (pre:List ByteArray) (wr:World):Prop where
 rg1:wr.ranges Tryz.prog 217 crossR b1 r1 n1 D1 left1 cnt1
 rg2:wr.ranges Tryz.prog 217 crossR b2 r2 n2 D2 left cnt
 inv:J T pre wr
 sup:∀k,T0 k→T k
 it1:T r1
 it2:T r2
 itB:T B9
 lo:W.heap.size<r2
 box:wr.heap[B9]?=some (.cells #[.bool pv.p,.int .i64 pv.f,.bool pv.c,.string pv.s,.string pv.a,.slice pv.A pv.n pv.cp] 123 (0,0))
 old:KeepsAt R W wr
 more:∀x∈pre1,x∈pre
 num:pre.length+cnt≤pre1.length+Maps.size D2
 rows:∀kl2,Maps.has D2 kl2=true→left kl2=false→∃s,G2 s∧ActKey s.strip s.add kl2∧((bothR p s wd).size≠0→bothR p s wd∈pre)
theorem with_any (Wb:World)(l:Nat)(J Jx:(Nat→Prop)→List ByteArray→World→Prop)(hJ:Stab J)(hJx:Stab Jx)(R T0:Nat→Prop)(Fm:ByteArray→Prop)(N:Nat)
  (hY:∀T pre x W1,(Fm x∧pre.length<N)→J T pre W1→YieldAt Fence.wide 0 Tryz.prog l #[.string x] W1 fun e W2=>
   ((e= .returned (.bool true)∧J T (pre++[x]) W2)∨(e= .returned (.bool false)∧Jx T (pre++[x]) W2))∧KeepsAt (fun k=>R k∨T k) W1 W2)
  (G1 G2:Ru→Prop) (D1 D2:DataW Value) (wd:ByteArray) (hF:WFix Wb G1 G2 D1 D2 wd Fm) (W:World) (hstab:∀W',KeepsAt R W W'→Sub Wb W') (b1 b2 n1 n2:Nat) (hown1:W.ownsMap Tryz.prog 217 crossR b1 n1 D1) (hown2:W.ownsMap Tryz.prog 217 crossR b2 n2 D2)
  (hT1:T0 b1) (hT2:T0 b2) (pre0:List ByteArray) (hj0:J T0 pre0 W) (hRlt:∀k,(R k∨T0 k)→k<W.heap.size) (hN:pre0.length+Maps.size D1*Maps.size D2≤N):
  Calls Tryz.prog 110 #[.map (some b1),.map (some b2),.string wd,.func (.yield l) #[] #[]] W fun e W'=>e= .returned (.tuple #[])∧
   ((∃T pre,(∀k,T0 k→T k)∧(∀x∈pre0,x∈pre)∧(∀kl1,Maps.has D1 kl1=true→RowDone G1 G2 D2 wd kl1 pre)∧J T pre W')∨∃T pre,(∀k,T0 k→T k)∧Jx T pre W')∧KeepsAt T0 W W':=by
 have HY:=hid hY;have HJ:=hid hJ;have HJX:=hid hJx;have HF:=hid hF;have HS:=hid hstab;have HO:=hid (And.intro hown1 hown2);have HT:=hid (And.intro hT1 hT2);have HJ0:=hid hj0;have HRlt:=hid hRlt;have HN:=hid hN;clear hY hJ hJx hF hstab hown1 hown2 hT1 hT2 hj0 hRlt hN;refine(callsIn_wide (n:=1)).1 ?_;refine callsIn_of_wp Tryz.func110 rfl trivial ?_ rfl;simp only[Tryz.ntmps110,List.size_toArray,List.length_cons,List.length_nil,Nat.reduceAdd,Nat.reduceSub,Array.replicate_succ,Array.replicate_zero,List.push_toArray,List.append_toArray,List.nil_append,List.cons_append];gi_wp2_with (first
  | (gi_at_range;refine wpListIn_range_own _ rfl _ 169 rfl 217 123 keyed_act Tryz.underlying169 _ b1 n1 _ rfl HO.out.1 ?_;intro w0 hrg0 hg0 hs0)
  | gi_in)
 go_frame
 have HO0:Hid (WO J G1 G2 D1 D2 wd (fun k=>R k∨T0 k) T0 W b1 b2 n1 n2 W.heap.size pre0 (Maps.has D1) (Maps.size D1) (fun k=>T0 k∨k=W.heap.size) pre0 w0):=by
  have ho:∀T,OnlyAt T W w0:=fun T=>OnlyAt.of_grown hg0 (fun k e=>by cases e);refine hid ⟨hrg0,omap_same HO.out.2 (hg0.block b2 HO.out.2.lt (by simp)),HJ.out _ _ _ _ _ HJ0.out (ho _) ?_,fun k h=> .inl h,.inr rfl,⟨hg0.size,fun k hk _=>hg0.block k hk (by simp)⟩,fun x hx=>hx,Nat.le_refl _,fun kl1 h1 h2=>by rw[h1]at h2;cases h2⟩;rintro k (h|rfl)
  ·exact .inl h
  ·exact .inr ⟨Nat.le_refl _,by omega⟩
 clear hrg0 hg0 hs0 HO HJ0
 gi_loopw [16] (fun _ wr=>∃(left:Lit→Bool) (cnt:Nat) (T:Nat→Prop) (pre:List ByteArray),WO J G1 G2 D1 D2 wd (fun k=>R k∨T0 k) T0 W b1 b2 n1 n2 W.heap.size pre0 left cnt T pre wr)
  (fun _ wr=>wr.rangeLeft b1 W.heap.size)
 case atStart=>exact⟨_,_,_,_,HO0.out⟩
 case round=>
  obtain⟨left,cnt,T,pre,ho⟩:=hrel;have HQ:=hid ho;clear ho;gi_wp2_with (first
   | (gi_at_next;refine wpListIn_next_ranges _ rfl _ rfl 217 keyed_act crossR id RV.val (fun key kl hk=>⟨key,rfl⟩) (fun v y hv=>(crossR_inv hv).1) b1 W.heap.size n1 _ _ _ rfl HQ.out.rg1 ?_ ?_)
   | gi_in)
  ·intro _ hl0;have HE:=hid (show (∀k,T0 k→T k)∧(∀x∈pre0,x∈pre)∧(∀kl1,Maps.has D1 kl1=true→RowDone G1 G2 D2 wd kl1 pre)∧J T pre wr from ⟨HQ.out.sup,HQ.out.more,fun kl1 h=>HQ.out.rows kl1 h (hl0 kl1),HQ.out.inv⟩);have HK:=hid (show KeepsAt T0 W wr from HQ.out.old.mono fun _ h=> .inr h);clear hl0 HQ;gi_wp2
   go_end0
   exact⟨rfl,.inl ⟨_,_,HE.out⟩,HK.out⟩
  ·intro x c kl yd yp w2 cnt2 hkey hlk hv hat hrg2 hlt hg2 hs2 hen;obtain⟨-,hyd⟩:=crossR_inv hv;obtain⟨pv,p,hyd2,hpv,hg1,hact⟩:=HF.out.ent1 kl yd hat;obtain rfl:pv=c.val:=by
    rw[hyd2]at hyd;simp only[Prod.mk.injEq,DataW.held.injEq]at hyd;exact hyd.1
   have hoT:OnlyAt T wr w2:=OnlyAt.of_grown hg2 (fun k e=>by cases e;exact HQ.out.it1);have hne1:=hrg2.ne;have HQ2:=hid (show wr.heap.size≤w2.heap.size∧w2.ownsMap Tryz.prog 217 crossR b2 n2 D2∧J T pre w2∧KeepsAt (fun k=>R k∨T0 k) W w2 from ⟨hg2.size,omap_same HQ.out.own2 (hg2.block b2 HQ.out.own2.lt (fun e=>by
    have h1:=HQ.out.own2;obtain⟨es,clock,h2,_⟩:=h1;obtain⟨es',clock',since,seen,c0,_,_,_,_,h3,_⟩:=HQ.out.rg1;cases e;rw[h2]at h3;cases h3)),HJ.out.same HQ.out.inv hoT,HQ.out.old.trans ⟨hg2.size,fun k hk hRk=>hg2.block k hk (fun e=>by cases e;have:=HRlt.out _ hRk;omega)⟩⟩)
   have HP:=hid (And.intro hpv (And.intro hg1 (And.intro hact (And.intro hlk hlt))));have HRG:=hid hrg2;have HW2:=hid hs2;clear hkey hlk hv hat hrg2 hlt hg2 hs2 hyd hyd2 hpv hg1 hact hoT hne1;obtain⟨cp,cf,cc,cs,ca,cA,cn,ccp⟩:=c;simp only[RV.val]at hen⊢;gi_wp2_with (first
    | (gi_at_range;refine wpListIn_range_own _ rfl _ 169 rfl 217 123 keyed_act Tryz.underlying169 _ b2 n2 _ rfl (HQ2.out.2.1.alloc _) ?_;intro w3 hrg3 hg3 hs3)
    | gi_in)
   go_frame
   have hba:Below w2.heap.size w2 (w2.alloc (.cells #[.bool cp,.int .i64 cf,.bool cc,.string cs,.string ca,.slice cA cn ccp] 123)):=(Below.refl _ _).alloc (Nat.le_refl _) _;have hbx:=World.alloc_heap_new w2 (.cells #[.bool cp,.int .i64 cf,.bool cc,.string cs,.string ca,.slice cA cn ccp] 123);have hsa:(w2.alloc (.cells #[.bool cp,.int .i64 cf,.bool cc,.string cs,.string ca,.slice cA cn ccp] 123)).heap.size=w2.heap.size+1:=World.size_alloc _ _;revert hrg3 hg3 hs3 hba hbx hsa;generalize w2.alloc (.cells #[.bool cp,.int .i64 cf,.bool cc,.string cs,.string ca,.slice cA cn ccp] 123)=wa;intro hrg3 hg3 hs3 hba hbx hsa;obtain⟨r2,hr2⟩:∃r2,r2=wa.heap.size:=⟨_,rfl⟩;rw[←hr2]at hrg3⊢;obtain⟨B9,hB9⟩:∃B9,B9=w2.heap.size:=⟨_,rfl⟩;rw[←hB9]at hbx⊢;have ho3:∀T,OnlyAt T w2 w3:=fun T=>(OnlyAt.of_below hba).trans (OnlyAt.of_grown hg3 (fun k e=>by cases e));have HI0:Hid (WI J G1 G2 D1 D2 wd (fun k=>R k∨T0 k) T0 W b1 b2 n1 n2 W.heap.size pre0 (fun z=>left z&& !z.sameKey kl) cnt2 r2 B9 p ⟨cp,cf,cc,cs,ca,cA,cn,ccp⟩ kl pre (Maps.has D2) (Maps.size D2) (fun k=>T k∨k=B9∨k=r2) pre w3):=by
    refine hid ⟨ranges_same HRG.out ?_ ?_,hrg3,HJ.out _ _ _ _ _ HQ2.out.2.2.1 (ho3 _) ?_,fun k h=> .inl (HQ.out.sup k h),.inl HQ.out.it1,.inr (.inr rfl),.inr (.inl rfl),by have:=HRG.out.lt;omega,?_,HQ2.out.2.2.2.trans ?_,fun x hx=>hx,Nat.le_refl _,fun kl1 h1 h2=>by rw[h1]at h2;cases h2⟩
    ·exact(ho3 (fun _=>False)).block _ HRG.out.owns.lt id
    ·exact(ho3 (fun _=>False)).block _ HRG.out.lt id
    ·rintro k (h|rfl|rfl)
     ·exact .inl h
     ·exact .inr ⟨by omega,by omega⟩
     ·exact .inr ⟨by omega,by omega⟩
    ·exact(hg3.block B9 (by omega) (by simp)).trans hbx
    ·exact⟨(ho3 (fun _=>False)).size,fun k hk _=>(ho3 (fun _=>False)).block k hk id⟩
   clear hrg3 hg3 hs3 hba hbx hsa ho3 hen hB9 hr2 HRG HW2
   gi_loopw [22] (fun _ wy=>∃(left2:Lit→Bool) (cnt3:Nat) (T:Nat→Prop) (pre2:List ByteArray),WI J G1 G2 D1 D2 wd (fun k=>R k∨T0 k) T0 W b1 b2 n1 n2 W.heap.size pre0 (fun z=>left z&& !z.sameKey kl) cnt2 r2 B9 p ⟨cp,cf,cc,cs,ca,cA,cn,ccp⟩ kl pre left2 cnt3 T pre2 wy)
    (fun _ wy=>wy.rangeLeft b2 r2)
   case atStart=>exact⟨_,_,_,_,HI0.out⟩
   case round=>
    clear HI0;obtain⟨left2,cnt3,T2,pre2,hi2⟩:=hrel;have HI:=hid hi2;clear hi2;gi_wp2_with (first
     | (gi_at_next;refine wpListIn_next_ranges _ rfl _ rfl 217 keyed_act crossR id RV.val (fun key kl hk=>⟨key,rfl⟩) (fun v y hv=>(crossR_inv hv).1) b2 r2 n2 _ _ _ rfl HI.out.rg2 ?_ ?_)
     | gi_in)
    ·intro _ hl0;have HE:Hid (WO J G1 G2 D1 D2 wd (fun k=>R k∨T0 k) T0 W b1 b2 n1 n2 W.heap.size pre0 (fun z=>left z&& !z.sameKey kl) cnt2 T2 pre2 wr):=by
      refine hid ⟨HI.out.rg1,HI.out.rg2.owns,HI.out.inv,HI.out.sup,HI.out.it1,HI.out.old,fun x hx=>HI.out.more x (HQ.out.more x hx),?_,fun kl1 h1 h2=>?_⟩
      ·have h1:=HI.out.num;have h2:=HQ.out.num;have h3:(cnt2+1)*Maps.size D2≤cnt*Maps.size D2:=Nat.mul_le_mul_right _ (by have:=HP.out.2.2.2.2;omega);rw[Nat.add_mul,Nat.one_mul]at h3;omega
      ·rcases Bool.eq_false_or_eq_true (left kl1)with hl|hl
       ·rw[hl]at h2;have hk:kl1.sameKey kl=true:=by simpa using h2
        obtain rfl:=WideAt.sameKey_eq hk;exact⟨p,HP.out.2.1,HP.out.2.2.1,fun kl2 hk2=>HI.out.rows kl2 hk2 (hl0 kl2)⟩
       ·exact(HQ.out.rows kl1 h1 hl).more HI.out.more
     clear hl0;gi_wp2
     go_roundw
     case rel=>exact⟨_,_,_,_,HE.out⟩
     case measure=>rw[HE.out.rg1.left_eq,HQ.out.rg1.left_eq];exact HP.out.2.2.2.2
    ·intro x2 c2 kl2 yd2 yp2 w4 cnt4 hkey hlk hv hat hrg4 hlt hg4 hs4 hen4;obtain⟨-,hyd⟩:=crossR_inv hv;obtain⟨sv,s,hyd2,hsv,hg2,hact⟩:=HF.out.ent2 kl2 yd2 hat;obtain rfl:sv=c2.val:=by
      rw[hyd2]at hyd;simp only[Prod.mk.injEq,DataW.held.injEq]at hyd;exact hyd.1
     have hoT:OnlyAt T2 wr w4:=OnlyAt.of_grown hg4 (fun k e=>by cases e;exact HI.out.it2);have hr12:W.heap.size≠r2:=by have:=HI.out.lo;omega
     have hbr:b1≠r2:=owns_ne_iter HI.out.rg1.owns HI.out.rg2;have hB9:B9≠r2:=fun e=>by
      have h1:=HI.out.box;obtain⟨es',clock',since,seen,c0,_,_,_,_,h2,_⟩:=HI.out.rg2;rw[e,h2]at h1;cases h1
     have hlt9:=(Array.getElem?_eq_some_iff.1 HI.out.box).1;have hold4:KeepsAt (fun k=>R k∨T0 k) W w4:=HI.out.old.trans ⟨hg4.size,fun k hk hRk=>hg4.block k hk (fun e=>by cases e;have:=HRlt.out _ hRk;have:=HI.out.lo;omega)⟩;have hrg14:=ranges_same HI.out.rg1 (hg4.block b1 HI.out.rg1.owns.lt (fun e=>by cases e;exact hbr rfl)) (hg4.block W.heap.size HI.out.rg1.lt (fun e=>by cases e;exact hr12 rfl));have hbox4:=(hg4.block B9 hlt9 (fun e=>by cases e;exact hB9 rfl)).trans HI.out.box;have HX:=hid (And.intro hsv (And.intro hg2 (And.intro hact (And.intro hlk hlt))));have HI4:=hid (And.intro hrg14 (And.intro hrg4 (And.intro (HJ.out.same HI.out.inv hoT) (And.intro hbox4 hold4))));clear hkey hlk hv hat hrg4 hlt hg4 hs4 hyd hyd2 hsv hg2 hact hoT hr12 hbr hB9 hlt9 hold4 hrg14 hbox4;obtain⟨dp,df,dc,ds,da,dA,dn,dcp⟩:=c2;simp only[RV.val]at hen4⊢;have hba:Below w4.heap.size w4 (w4.alloc (.cells #[.bool dp,.int .i64 df,.bool dc,.string ds,.string da,.slice dA dn dcp] 123)):=(Below.refl _ _).alloc (Nat.le_refl _) _;have hlt9:=(Array.getElem?_eq_some_iff.1 HI4.out.2.2.2.1).1;have hb9:=(hba.block B9 hlt9).trans HI4.out.2.2.2.1;obtain⟨x0,x1,x2,x3,x4,x5⟩:=cells6_at hb9;obtain⟨y0,y1,y2,y3,y4,y5⟩:=box6 (Below.refl (w4.alloc (.cells #[.bool dp,.int .i64 df,.bool dc,.string ds,.string da,.slice dA dn dcp] 123)).heap.size _);have hkb:KeepsAt (fun k=>R k∨T0 k) W (w4.alloc (.cells #[.bool dp,.int .i64 df,.bool dc,.string ds,.string da,.slice dA dn dcp] 123)):=HI4.out.2.2.2.2.trans (keeps_below hba);have hsub:=HS.out _ (hkb.mono fun _ h=> .inl h);have CB:=hid (rul_both_any (w4.alloc (.cells #[.bool dp,.int .i64 df,.bool dc,.string ds,.string da,.slice dA dn dcp] 123)) _ _ p s wd (HP.out.1.sub hsub) (HX.out.1.sub hsub) (HF.out.fit1 p HP.out.2.1) (HF.out.fit2 s HX.out.2.1) HF.out.word (tabs_sub HF.out.tabs hsub));obtain⟨F,hFd⟩:∃F,F=bothR p s wd:=⟨_,rfl⟩;obtain⟨ok,hok⟩:∃ok,ok=okB F:=⟨_,rfl⟩;rw[←hFd,←hok]at CB;simp only[RV.val]at CB;have HFF:=hid (And.intro hFd hok);have HBA:=hid (And.intro hba hkb);clear hba hlt9 hb9 hkb hsub hFd hok;gi_wp2_with fail;refine⟨trivial,?_⟩;refine(callsIn_wide.2 CB.out).mono ?_;rintro e w6 ⟨rfl,hb6⟩;have hb46:Below w4.heap.size w4 w6:=HBA.out.1.trans (hb6.mono HBA.out.1.size);have h1:=ranges_same HI4.out.1 (hb46.block _ HI4.out.1.owns.lt) (hb46.block _ HI4.out.1.lt);have h2:=ranges_same HI4.out.2.1 (hb46.block _ HI4.out.2.1.owns.lt) (hb46.block _ HI4.out.2.1.lt);have h3:=HJ.out.same HI4.out.2.2.1 (OnlyAt.of_below hb46);have h4:=(hb46.block B9 (Array.getElem?_eq_some_iff.1 HI4.out.2.2.2.1).1).trans HI4.out.2.2.2.1;have h5:=HI4.out.2.2.2.2.trans (keeps_below (R:=fun k=>R k∨T0 k) hb46);have H6:=hid (And.intro h1 (And.intro h2 (And.intro h3 (And.intro h4 h5))));have ROW:=hid (show∀pre3:List ByteArray,(∀x∈pre2,x∈pre3)→((bothR p s wd).size≠0→bothR p s wd∈pre3)→∀kl3,Maps.has D2 kl3=true→(left2 kl3&& !kl3.sameKey kl2)=false→∃s,G2 s∧ActKey s.strip s.add kl3∧((bothR p s wd).size≠0→bothR p s wd∈pre3)from by
      intro pre3 hsub hin kl3 hk3 hl3;rcases Bool.eq_false_or_eq_true (left2 kl3)with hl|hl
      ·rw[hl]at hl3;have hk:kl3.sameKey kl2=true:=by simpa using hl3
       obtain rfl:=WideAt.sameKey_eq hk;exact⟨s,HX.out.2.1,HX.out.2.2.1,hin⟩
      ·obtain⟨s',k1,k2,k3⟩:=HI.out.rows kl3 hk3 hl;exact⟨s',k1,k2,fun hz=>hsub _ (k3 hz)⟩)
     clear h1 h2 h3 h4 h5 hb46 hb6 x0 x1 x2 x3 x4 x5 y0 y1 y2 y3 y4 y5 CB HBA HI4 hen4;cases ok with
     | false=>
       have HE:Hid (WI J G1 G2 D1 D2 wd (fun k=>R k∨T0 k) T0 W b1 b2 n1 n2 W.heap.size pre0 (fun z=>left z&& !z.sameKey kl) cnt2 r2 B9 p ⟨cp,cf,cc,cs,ca,cA,cn,ccp⟩ kl pre (fun z=>left2 z&& !z.sameKey kl2) cnt4 T2 pre2 w6):=by
        refine hid ⟨H6.out.1,H6.out.2.1,H6.out.2.2.1,HI.out.sup,HI.out.it1,HI.out.it2,HI.out.itB,HI.out.lo,H6.out.2.2.2.1,H6.out.2.2.2.2,HI.out.more,?_,ROW.out pre2 (fun x hx=>hx) ?_⟩
        ·have:=HI.out.num;have:=HX.out.2.2.2.2;omega
        ·intro hz;have h1:=HFF.out.2;rw[HFF.out.1]at h1;unfold okB at h1;rw[decide_eq_true hz]at h1;cases h1
       clear H6 ROW;gi_wp2_with (refine ⟨fun _ h=>(by cases h),?_⟩)
       go_roundw
       case rel=>exact⟨_,_,_,_,HE.out⟩
       case measure=>rw[HE.out.rg2.left_eq,HI.out.rg2.left_eq];exact HX.out.2.2.2.2
     | true=>
       have hz:(bothR p s wd).size≠0:=by
        have h1:=HFF.out.2;rw[HFF.out.1]at h1;unfold okB at h1;simpa using h1.symm
       have hadm:Fm F∧pre2.length<N:=by
        refine⟨by rw[HFF.out.1];exact HF.out.good p s HP.out.2.1 HX.out.2.1 hz,?_⟩;have h1:=HI.out.num;have h2:=HQ.out.num;have h3:=HX.out.2.2.2.2;have h4:1*Maps.size D2≤cnt*Maps.size D2:=Nat.mul_le_mul_right _ (by have:=HP.out.2.2.2.2;omega);have h5:=HN.out;omega
       obtain⟨fn,tmps,assign,body,hy,hRd⟩:=HY.out T2 pre2 F w6 hadm H6.out.2.2.1;have HRD:=hid hRd;clear hRd hadm hz;gi_wp2;refine(HRD.out).mono ?_;rintro e W7 ⟨⟨rfl,hJ7⟩|⟨rfl,hJ7⟩,hk7⟩
       ·have HE:Hid (WI J G1 G2 D1 D2 wd (fun k=>R k∨T0 k) T0 W b1 b2 n1 n2 W.heap.size pre0 (fun z=>left z&& !z.sameKey kl) cnt2 r2 B9 p ⟨cp,cf,cc,cs,ca,cA,cn,ccp⟩ kl pre (fun z=>left2 z&& !z.sameKey kl2) cnt4 T2 (pre2++[F]) W7):=by
         refine hid ⟨ranges_same H6.out.1 (hk7.block _ H6.out.1.owns.lt (.inr (HI.out.sup _ HT.out.1))) (hk7.block _ H6.out.1.lt (.inr HI.out.it1)),ranges_same H6.out.2.1 (hk7.block _ H6.out.2.1.owns.lt (.inr (HI.out.sup _ HT.out.2))) (hk7.block _ H6.out.2.1.lt (.inr HI.out.it2)),
          hJ7,HI.out.sup,HI.out.it1,HI.out.it2,HI.out.itB,HI.out.lo,(hk7.block B9 (Array.getElem?_eq_some_iff.1 H6.out.2.2.2.1).1 (.inr HI.out.itB)).trans H6.out.2.2.2.1,H6.out.2.2.2.2.trans (hk7.mono fun k h=>h.elim .inl fun h=> .inr (HI.out.sup k h)),fun x hx=>List.mem_append_left _ (HI.out.more x hx),?_,ROW.out _ (fun x hx=>List.mem_append_left _ hx) ?_⟩
         ·rw[List.length_append];have:=HI.out.num;have:=HX.out.2.2.2.2;simp;omega
         ·intro _;rw[←HFF.out.1];simp
        clear H6 ROW hJ7 hk7 HRD hy;gi_wp2
        go_roundw
        case rel=>exact⟨_,_,_,_,HE.out⟩
        case measure=>rw[HE.out.rg2.left_eq,HI.out.rg2.left_eq];exact HX.out.2.2.2.2
       ·have HX3:=hid hJ7;have HK:=hid (show KeepsAt T0 W W7 from(H6.out.2.2.2.2.mono fun _ h=> .inr h).trans (hk7.mono fun k h=> .inr (HI.out.sup k h)));clear H6 ROW hJ7 hk7 HRD hy;gi_wp2;refine bodyPost_ret (results_none rfl _ _ _) rfl ?_;exact⟨rfl,.inr ⟨_,_,HI.out.sup,HX3.out⟩,HK.out⟩
end Go.Proofs.YtfehpcbmdancoaaGreatDoor
namespace Go.Proofs.YtfehpcbmdancoaaGreatDoor
open Go Go.RowKit Go.Lib Go.Shelf Go.Maps
attribute [local go_sem] Oper.semAt_some alloc_set
theorem applied_call (b:Option Nat)(wd:ByteArray)(A:Option Addr)(n cap:Nat)(w:World):Calls Tryz.prog 108 #[.map b,.agg #[.string wd,.slice A n cap]] w fun e w'=>
  e= .returned (.func (.func 160) #[] #[.pointer (some ⟨w.heap.size+1,0,none⟩),.pointer (some ⟨w.heap.size,0,none⟩)])∧w'=(w.alloc (.cells #[.map b] 103)).alloc (.cells #[.string wd,.slice A n cap] 99):=by
 go_enter Tryz.func108,Tryz.ntmps108;go_wp2;go_ret;exact⟨rfl,rfl⟩
theorem made_call (b:Option Nat)(wd:ByteArray)(A:Option Addr)(n cap:Nat)(w:World):Calls Tryz.prog 57 #[.map b,.agg #[.string wd,.slice A n cap]] w fun e w'=>
  e= .returned (.func (.func 107) #[] #[.pointer (some ⟨w.heap.size+1,0,none⟩),.pointer (some ⟨w.heap.size,0,none⟩)])∧w'=(w.alloc (.cells #[.map b] 103)).alloc (.cells #[.string wd,.slice A n cap] 99):=by
 go_enter Tryz.func57,Tryz.ntmps57;go_wp2;go_ret;exact⟨rfl,rfl⟩
def fmEnc (x:ByteArray):Array Value:=#[.string x]
def fmMax (rs:List Ru)(fl:List Int):Nat:=2+fl.length*rs.length+(fl.length*rs.length)*(fl.length*rs.length)
def FmAdm (rs:List Ru)(e:En)(pre:List ByteArray)(x:ByteArray):Prop:=IsForm rs e x∧pre.length<fmMax rs e.flags
def FmAll (rs:List Ru)(e:En)(xs:List ByteArray):Prop:=∀x,IsForm rs e x→x∈xs
def GoodR (rs:List Ru)(fl:List Int)(wd:ByteArray)(P:Bool)(r:Ru):Prop:=r∈rs∧r.flag∈fl∧(applyR r wd).size≠0∧r.pre=P∧r.cross=true
structure CrQ (Wb:World)(rs:List Ru)(fl:List Int)(wd:ByteArray)(P:Bool)(D:DataW Value)(pre:List AP):Prop where
 ent:EntsOk Wb (GoodR rs fl wd P) D
 all:∀x∈pre,x.r.pre=P→x.r.cross=true→∃kl,ActKey x.r.strip x.r.add kl∧Maps.has D kl=true
theorem CrQ.nil (Wb:World)(rs:List Ru)(fl:List Int)(wd:ByteArray)(P:Bool):CrQ Wb rs fl wd P (.map []) []:=
 ⟨fun kl y h=>(by
  have h1:DataW.nil=y:=h .nil;have h2:DataW.held Value.nilFunc=y:=h (.held .nilFunc);rw[←h1]at h2;cases h2),fun x hx=>by simp at hx⟩
theorem CrQ.skip {Wb:World}{rs:List Ru}{fl:List Int}{wd:ByteArray}{P:Bool}{D:DataW Value}{pre:List AP}(h:CrQ Wb rs fl wd P D pre){x:AP}(hx:x.r.pre≠P∨x.r.cross=false):CrQ Wb rs fl wd P D (pre++[x]):=by
 refine⟨h.ent,fun y hy hp hc=>?_⟩;rcases List.mem_append.1 hy with hy|hy
 ·exact h.all y hy hp hc
 ·simp at hy;subst hy;rcases hx with hx|hx
  ·exact absurd hp hx
  ·rw[hc]at hx;cases hx
theorem CrQ.put {Wb:World}{rs:List Ru}{fl:List Int}{wd:ByteArray}{P:Bool}{D:DataW Value}{pre:List AP}(h:CrQ Wb rs fl wd P D pre)(hD:IsMap D){x:AP}{kl:Lit}(hk:ActKey x.r.strip x.r.add kl)(hv:RuAt Wb x.rv x.r)(hg:GoodR rs fl wd P x.r):CrQ Wb rs fl wd P (D.put kl (.held x.rv)) (pre++[x]):=by
 have hkl:WideAt.IsKeyLit kl:=keyed_act.key hk;refine⟨fun kl' y hy=>?_,fun y hy hp hc=>?_⟩
 ·by_cases e:kl'=kl
  ·subst e;have h1:=hy .nil;rw[atKey_put_same hD hkl]at h1;exact⟨x.rv,x.r,h1.symm,hv,hg,hk⟩
  ·exact h.ent kl' y (fun z=>by have:=hy z;rwa[atKey_put_other e]at this)
 ·rcases List.mem_append.1 hy with hy|hy
  ·obtain⟨kl',h1,h2⟩:=h.all y hy hp hc;by_cases e:kl'=kl
   ·subst e;exact⟨kl',h1,has_put_same hD hkl _⟩
   ·exact⟨kl',h1,by rw[has_put_other e];exact h2⟩
  ·simp at hy;subst hy;exact⟨kl,hk,has_put_same hD hkl _⟩
theorem heap_up {w:World}{k:Nat}{o:Obj}(h:w.heap[k]?=some o)(o':Obj):(w.alloc o').heap[k]?=some o:=(Below.heap_alloc _ _ _ (Array.getElem?_eq_some_iff.1 h).1).trans h
theorem heap_top (w:World)(o:Obj){k:Nat}(hk:w.heap.size=k):(w.alloc o).heap[k]?=some o:=hk▸World.alloc_heap_new w o
theorem alloc6 (w:World)(o0 o1 o2 o3 o4 o5:Obj):((((((w.alloc o0).alloc o1).alloc o2).alloc o3).alloc o4).alloc o5).heap[w.heap.size]?=some o0∧((((((w.alloc o0).alloc o1).alloc o2).alloc o3).alloc o4).alloc o5).heap[w.heap.size+1]?=some o1∧
  ((((((w.alloc o0).alloc o1).alloc o2).alloc o3).alloc o4).alloc o5).heap[w.heap.size+2]?=some o2∧((((((w.alloc o0).alloc o1).alloc o2).alloc o3).alloc o4).alloc o5).heap[w.heap.size+3]?=some o3∧
  ((((((w.alloc o0).alloc o1).alloc o2).alloc o3).alloc o4).alloc o5).heap[w.heap.size+4]?=some o4∧((((((w.alloc o0).alloc o1).alloc o2).alloc o3).alloc o4).alloc o5).heap[w.heap.size+5]?=some o5:=
 ⟨heap_up (heap_up (heap_up (heap_up (heap_up (heap_top w o0 rfl) _) _) _) _) _,heap_up (heap_up (heap_up (heap_up (heap_top _ o1 (by rw[World.size_alloc])) _) _) _) _,heap_up (heap_up (heap_up (heap_top _ o2 (by simp only[World.size_alloc])) _) _) _,
  heap_up (heap_up (heap_top _ o3 (by simp only[World.size_alloc])) _) _,heap_up (heap_top _ o4 (by simp only[World.size_alloc])) _,heap_top _ o5 (by simp only[World.size_alloc])⟩
structure MNow (J:(Nat→Prop)→List ByteArray→World→Prop)(Wb w:World)(rs:List Ru)(fl:List Int)(wd:ByteArray)(R O E T:Nat→Prop)(m:Nat)(pre:List AP)(outs:List ByteArray)(Dp Ds:DataW Value)(W':World):Prop where
 inv:J (fun k=>T k∨O k∨E k) outs W'
 low:∀k,T k→w.heap.size≤k
 old:KeepsAt (fun k=>R k∨(O k∧k≠m∧k≠m+1)) w W'
 ownP:W'.ownsMap Tryz.prog 217 crossR m pre.length Dp
 ownS:W'.ownsMap Tryz.prog 217 crossR (m+1) pre.length Ds
 crP:CrQ Wb rs fl wd true Dp pre
 crS:CrQ Wb rs fl wd false Ds pre
 num:pre.length≤fl.length*rs.length
theorem MNow.stab {J:(Nat→Prop)→List ByteArray→World→Prop}{Wb w:World}{rs:List Ru}{fl:List Int}{wd:ByteArray}{R O E E' T T':Nat→Prop}{m:Nat}{pre:List AP}{outs:List ByteArray}{Dp Ds:DataW Value}{U V:World}
  (h:MNow J Wb w rs fl wd R O E T m pre outs Dp Ds U) (hJ:Stab J) (hO:∀k,(R k∨O k)→k<w.heap.size) (hm:O m∧O (m+1)) (ho:OnlyAt T U V) (ht:∀k,T' k→T k∨(U.heap.size≤k∧k<V.heap.size)) (he:∀k,E' k→E k∨(U.heap.size≤k∧k<V.heap.size)):
  MNow J Wb w rs fl wd R O E' T' m pre outs Dp Ds V:=by
 have hz:=ho.size;have hwz:=h.old.size;have hT:∀k,(R k∨O k)→¬T k:=fun k hk hh=>by have:=hO k hk;have:=h.low k hh;omega
 refine⟨hJ _ _ _ _ _ h.inv (ho.mono fun _ hk=> .inl hk) ?_,fun k hk=>?_,h.old.trans ⟨hz,fun k hk hr=>ho.block k hk (hT k (hr.imp id fun x=>x.1))⟩,omap_same h.ownP (ho.block m h.ownP.lt (hT m (.inr hm.1))),omap_same h.ownS (ho.block _ h.ownS.lt (hT _ (.inr hm.2))),h.crP,h.crS,h.num⟩
 ·rintro j (hj|hj|hj)
  ·rcases ht j hj with h|h
   ·exact .inl (.inl h)
   ·exact .inr h
  ·exact .inl (.inr (.inl hj))
  ·rcases he j hj with h|h
   ·exact .inl (.inr (.inr h))
   ·exact .inr h
 ·rcases ht k hk with h'|h'
  ·exact h.low k h'
  ·omega
def outsOf (wd:ByteArray)(pre:List AP):List ByteArray:=wd::pre.map fun x=>applyR x.r wd
theorem outsOf_snoc (wd:ByteArray)(pre:List AP)(x:AP):outsOf wd (pre++[x])=outsOf wd pre++[applyR x.r wd]:=by simp[outsOf]
theorem outsOf_len (wd:ByteArray)(pre:List AP):(outsOf wd pre).length=pre.length+1:=by simp[outsOf]
theorem outsOf_mem (wd:ByteArray)(pre:List AP)(y:ByteArray):y∈outsOf wd pre↔y=wd∨∃x∈pre,applyR x.r wd=y:=by simp[outsOf]
theorem made_stops (Wb:World)(be bt b:Nat)(rs:List Ru)(D:DataW Value)(U:Int→Value)(fl:List Int)(wd:ByteArray)(A:Option Addr)(n cap:Nat)(hF:AFix Wb rs fl wd A n cap)(R:Nat→Prop)(W:World)(hstab:∀W',KeepsAt R W W'→AData Wb be bt b rs D U wd A n cap W')(hRlt:∀k,R k→k<W.heap.size):
  Stops Tryz.prog 107 #[.pointer (some ⟨be,0,none⟩),.pointer (some ⟨bt,0,none⟩)] fmEnc (FmAdm rs ⟨wd,fl⟩) (FmAll rs ⟨wd,fl⟩) R W:=by
 intro l J Jx hJ hJx hY hJ0;have hb0:Below W.heap.size W (W.alloc (.cells #[.func (.yield l) #[] #[]] 34)):=(Below.refl _ _).alloc (Nat.le_refl _) _;have hj1:J (fun k=>k=W.heap.size) [] (W.alloc (.cells #[.func (.yield l) #[] #[]] 34)):=hJ _ _ _ _ _ hJ0 (OnlyAt.of_below hb0) (fun k hk=> .inr ⟨by omega,by rw[World.size_alloc];omega⟩);have hw0:=(hstab _ (keeps_below hb0)).word;obtain⟨fn0,tmps0,assign0,body0,hy0,hR0⟩:=hY _ [] wd _ ⟨.inl rfl,by unfold fmMax;simp;omega⟩ hj1;have HY:=hid hY;have HJ:=hid hJ;have HJX:=hid hJx;have HF:=hid hF;have HS:=hid hstab;have HRlt:=hid hRlt;have HR0:=hid hR0;have HB0:=hid hb0;simp only[fmEnc]at hy0;clear hY hJ hJx hF hstab hRlt hR0 hJ0 hj1 hb0;have hmm:= @run_makeMap Tryz.prog;refine(callsIn_wide (n:=6)).1 ?_;refine callsIn_of_wp_marks Tryz.func107 rfl trivial ?_ rfl;simp only[Tryz.ntmps107,List.size_toArray,List.length_cons,List.length_nil,Nat.reduceAdd,Nat.reduceSub,Array.replicate_succ,Array.replicate_zero,List.push_toArray,List.append_toArray,List.nil_append,List.cons_append];gi_wp2;refine(RoundIn.wideOut (m:=5) HR0.out).mono ?_;rintro e W1 ⟨⟨rfl,hJ1⟩|⟨rfl,hJ1⟩,hk1⟩
 ·rw[List.nil_append]at hJ1;have hkw:KeepsAt R W W1:=(keeps_below HB0.out).trans (hk1.mono fun _ h=> .inl h);have hd1:=HS.out W1 hkw;have hby:Boxed W1 W.heap.size 34 (.func (.yield l) #[] #[]):=(hk1.block _ (by rw[World.size_alloc];omega) (.inr rfl)).trans (World.alloc_heap_new W _);have al4:∀(p:Addr) (v:Value),W1.cell? p=some v→∀o1 o2 o3 o4,((((W1.alloc o1).alloc o2).alloc o3).alloc o4).cell? p=some v:=fun p v hp o1 o2 o3 o4=>by
   have h0:=World.block_lt_of_cell? _ _ hp;exact((((((Below.refl W1.heap.size W1).alloc (Nat.le_refl _) o1).alloc (by simp) o2).alloc (by simp;omega) o3).alloc (by simp;omega) o4).cell h0).trans hp
  have t0:=al4 _ _ hd1.table;have t1:=al4 _ _ hd1.word;have t2:=al4 _ _ hd1.flags;have HBY:=hid hby
  have HJ1:=hid hJ1;have HKW:=hid hkw;clear al4 hkw hd1 hby hJ1 hk1 hw0 HR0 hy0 HB0;gi_wp2_with (refine ⟨trivial,?_⟩;gi_at_call 108;refine(callsIn_wide.2 (applied_call (some b) wd A n cap _)).mono ?_;rintro e w1 ⟨rfl,rfl⟩);have h6:∃wz,wz=((((((W1.alloc (.map #[] 0)).alloc (.map #[] 0)).alloc (.cells #[.map (some W1.heap.size)] 169)).alloc (.cells #[.map (some (W1.heap.size+1))] 169)).alloc (.cells #[.map (some b)] 103)).alloc (.cells #[.string wd,.slice A n cap] 99)):=⟨_,rfl⟩;obtain⟨wz,hwz⟩:=h6;have hsz:wz.heap.size=W1.heap.size+6:=by rw[hwz];simp
  have hnew:wz.heap[W1.heap.size]?=some (.map #[] 0)∧wz.heap[W1.heap.size+1]?=some (.map #[] 0)∧wz.heap[W1.heap.size+2]?=some (.cells #[.map (some W1.heap.size)] 169 (0,0))∧wz.heap[W1.heap.size+3]?=some (.cells #[.map (some (W1.heap.size+1))] 169 (0,0))∧
    wz.heap[W1.heap.size+4]?=some (.cells #[.map (some b)] 103 (0,0))∧wz.heap[W1.heap.size+5]?=some (.cells #[.string wd,.slice A n cap] 99 (0,0)):=by
   rw[hwz];exact alloc6 _ _ _ _ _ _ _
  have ho6:OnlyAt (fun _=>False) W1 wz:=by
   rw[hwz];exact(((((OnlyAt.alloc _ _ _).trans (OnlyAt.alloc _ _ _)).trans (OnlyAt.alloc _ _ _)).trans (OnlyAt.alloc _ _ _)).trans (OnlyAt.alloc _ _ _)).trans (OnlyAt.alloc _ _ _)
  rw[←hwz];simp only[Nat.add_assoc,Nat.reduceAdd];clear hwz t0 t1 t2 hmm;obtain⟨m,hm⟩:∃m,m=W1.heap.size:=⟨_,rfl⟩;obtain⟨y,hy⟩:∃y,y=W.heap.size:=⟨_,rfl⟩;rw[←hm]at hsz hnew;rw[←hy]at HBY HJ1;simp only[←hm,←hy];have hym:y<m:=by rw[hm];exact HBY.out.lt
  obtain⟨O,hO⟩:∃O:Nat→Prop,O=fun k=>k=y∨(m≤k∧k<m+6):=⟨_,rfl⟩;have hOm:O m∧O (m+1):=by rw[hO];exact⟨.inr ⟨by omega,by omega⟩,.inr ⟨by omega,by omega⟩⟩
  have hOk:∀i,i<6→O (m+i):=fun i hi=>by rw[hO];exact .inr ⟨by omega,by omega⟩
  have hOy:O y:=by rw[hO];exact .inl rfl
  have hRO:∀k,(R k∨O k)→k<wz.heap.size:=by
   rintro k (h|h)
   ·have:=HRlt.out k h;omega
   ·rw[hO]at h;rcases h with h|h<;>omega
  have hRm:∀k,R k→k≠m∧k≠m+1:=fun k h=>by have:=HRlt.out k h;omega
  have hyz:Boxed wz y 34 (.func (.yield l) #[] #[]):=(ho6.block y (by omega) id).trans HBY.out;have HD:=hid (show∀W',KeepsAt (fun k=>R k∨(O k∧k≠m∧k≠m+1)) wz W'→KeepsAt R W W' from fun W' hk=>HKW.out.trans ((KeepsAt.of_only ho6 (fun _ _ h=>h)).trans (hk.mono fun _ h=> .inl h)));have HDA:=hid (show∀W',KeepsAt (fun k=>R k∨(O k∧k≠m∧k≠m+1)) wz W'→AData Wb (m+5) (m+4) b rs D U wd A n cap W' from fun W' hk=>by
   have hd:=HS.out W' (HD.out W' hk);refine⟨hd.sub,hd.tab,cell_keeps hk (p:=⟨m+5,0,none⟩) ?_ (.inr ⟨hOk 5 (by omega),by show m+5≠m;omega,by show m+5≠m+1;omega⟩),cell_keeps hk (p:=⟨m+5,1,none⟩) ?_ (.inr ⟨hOk 5 (by omega),by show m+5≠m;omega,by show m+5≠m+1;omega⟩),cell_keeps hk (p:=⟨m+4,0,none⟩) ?_ (.inr ⟨hOk 4 (by omega),by show m+4≠m;omega,by show m+4≠m+1;omega⟩)⟩
   ·simp[World.cell?,hnew.2.2.2.2.2]
   ·simp[World.cell?,hnew.2.2.2.2.2]
   ·simp[World.cell?,hnew.2.2.2.2.1])
  have hN0:MNow J Wb wz rs fl wd R O (fun _=>False) (fun _=>False) m [] (outsOf wd []) (.map []) (.map []) wz:=by
   refine⟨HJ.out _ _ _ _ _ HJ1.out (ho6.mono fun _ h=>h.elim) ?_,fun _ h=>h.elim,KeepsAt.refl _ _,?_,?_,CrQ.nil _ _ _ _ _,CrQ.nil _ _ _ _ _,Nat.zero_le _⟩
   ·rintro k (h|h|h)
    ·exact h.elim
    ·rw[hO]at h;rcases h with h|h
     ·exact .inl h
     ·right;omega
    ·exact h.elim
   ·have:=World.ownsMap_made (H:=Value) W1 Tryz.prog 217 crossR;obtain⟨es,clock,h1,h2⟩:=this;have h3:=(World.alloc_heap_new W1 (.map #[] 0)).symm.trans h1;refine⟨es,clock,hnew.1.trans ?_,h2⟩;exact h3
   ·have:=World.ownsMap_made (H:=Value) W1 Tryz.prog 217 crossR;obtain⟨es,clock,h1,h2⟩:=this;have h3:=(World.alloc_heap_new W1 (.map #[] 0)).symm.trans h1;refine⟨es,clock,hnew.2.1.trans ?_,h2⟩;exact h3
  have HN0:=hid hN0;have HYZ:=hid hyz;have HNW:=hid hnew;have HOF:=hid (And.intro hOm (And.intro hOk (And.intro hOy (And.intro hRO hRm))));have HRR:=hid (show∀k,(R k∨(O k∧k≠m∧k≠m+1))→k<wz.heap.size from fun k hk=>hRO k (hk.imp id fun h=>h.1));have HMY:=hid (And.intro hm hy);clear hN0 hyz hnew hOm hOk hOy hRO hRm ho6 hO hm hy;refine wpIn_stops (R:=fun k=>R k∨(O k∧k≠m∧k≠m+1)) (gf:=160) (lb:=#[.pointer (some ⟨m+5,0,none⟩),.pointer (some ⟨m+4,0,none⟩)]) rfl (enters_of Tryz.func160 (by kernel_rfl) rfl) (by omega) (encs:=apEnc wd) (Adm:=ApAdm Wb rs fl wd) (S:=ApAll rs fl wd)
   (fun W1' ho=>applied_stops Wb (m+5) (m+4) b rs D U fl wd A n cap HF.out _ W1' (fun W' hk=>HDA.out W' ((KeepsAt.of_only ho (fun _ _ h=>h)).trans hk)) (fun k hk=>Nat.lt_of_lt_of_le (HRR.out k hk) ho.size))
   (fun _=>rfl) HRR.out
   (fun T pre W'=>∃Dp Ds,MNow J Wb wz rs fl wd R O (fun _=>False) T m pre (outsOf wd pre) Dp Ds W')
   ?stab (fun c T xs W'=>c= .ret∧∃E:Nat→Prop,Jx (fun k=>T k∨O k∨E k) (outsOf wd xs) W') ?stabx ⟨_,_,HN0.out⟩
   (fun T pre x a' W'=>∃(Bx:Nat) (Dp Ds:DataW Value) (v:RV),MNow J Wb wz rs fl wd R O (fun k=>k=Bx) T m pre (outsOf wd pre) Dp Ds W'∧x.rv=v.val∧v.p=x.r.pre∧
    W'.heap[Bx]?=some (.cells #[.bool v.p,.int .i64 v.f,.bool v.c,.string v.s,.string v.a,.slice v.A v.n v.cp] 123 (0,0))∧(wz.heap.size≤Bx∧¬T Bx)∧
    a'={ tmps:=#[.func (.yield l) #[] #[],.pointer (some ⟨be,0,none⟩),.pointer (some ⟨bt,0,none⟩),.pointer (some ⟨y,0,none⟩),.pointer (some ⟨m+2,0,none⟩),.pointer (some ⟨m+3,0,none⟩),.pointer (some ⟨Bx,0,none⟩),.string (applyR x.r wd),.func (.yield l) #[] #[],.pointer (some ⟨be,0,none⟩),.string wd,.bool true,.bool false,.map (some m),.map (some (m+1)),.map (some b),.agg #[.string wd,.slice A n cap],.func (.func 160) #[] #[.pointer (some ⟨m+5,0,none⟩),.pointer (some ⟨m+4,0,none⟩)],v.val,.string (applyR x.r wd),undef,undef,undef,undef,undef,undef,undef,undef,undef,undef,undef,undef,undef,undef,undef,undef,undef,undef],defers:=[] })
   ?staba ?assign ?body ?done ?stop
  case stab=>
   rintro T T' pre U V ⟨Dp,Ds,h⟩ ho ht;exact⟨Dp,Ds,h.stab HJ.out HOF.out.2.2.2.1 HOF.out.1 ho ht (fun _ h=> .inl h)⟩
  case stabx=>
   rintro c T T' xs U V ⟨hc,E,h⟩ ho ht;refine⟨hc,E,HJX.out _ _ _ _ _ h (ho.mono fun _ h=> .inl h) ?_⟩;rintro k (hk|hk|hk)
   ·exact(ht k hk).imp .inl id
   ·exact .inl (.inr (.inl hk))
   ·exact .inl (.inr (.inr hk))
  case staba=>
   rintro pre x a' T T' _ U V ⟨Bx,Dp,Ds,v,h,hv,hvp,hb,⟨hlo,hTB⟩,ha⟩ ho ht;have hlt:=(Array.getElem?_eq_some_iff.1 hb).1;refine⟨Bx,Dp,Ds,v,h.stab HJ.out HOF.out.2.2.2.1 HOF.out.1 ho ht (fun _ h=> .inl h),hv,hvp,(ho.block Bx hlt hTB).trans hb,⟨hlo,fun hh=>?_⟩,ha⟩;rcases ht Bx hh with h'|h'
   ·exact hTB h'
   ·omega
  case assign=>
   rintro l2 T pre x W' K hadm ⟨Dp,Ds,h⟩ hlt hK;obtain⟨v,hv,hvp,-⟩:=ru_val hadm.1.2.2.2;have HI:=hid h;have HV:=hid (And.intro hv hvp);simp only[apEnc];rw[hv];clear h hadm hv hvp;obtain⟨vp,vf,vc,vs,va,vA,vn,vcp⟩:=v;simp only[RV.val];gi_wp2;have ho:∀T,OnlyAt T W' (W'.alloc (.cells #[.bool vp,.int .i64 vf,.bool vc,.string vs,.string va,.slice vA vn vcp] 123)):=fun T=>OnlyAt.alloc _ _ _;refine hK _ _ (ho _) ⟨W'.heap.size,Dp,Ds,⟨vp,vf,vc,vs,va,vA,vn,vcp⟩,HI.out.stab HJ.out HOF.out.2.2.2.1 HOF.out.1 (ho _) (fun _ h=> .inl h) (fun k hk=> .inr ⟨by omega,by rw[World.size_alloc];omega⟩),HV.out.1,HV.out.2,World.alloc_heap_new _ _,⟨HI.out.old.size,fun hh=>by have:=hlt _ hh;omega⟩,rfl⟩
  case body=>
   rintro l2 T pre x a' W' hadm ⟨Bx,Dp,Ds,v,h,hv,hvp,hb,⟨hlo,hTB⟩,rfl⟩ hlt;have hcy:=cell_keeps h.old (p:=⟨y,0,none⟩) HYZ.out.cell (.inr ⟨HOF.out.2.2.1,by show y≠m;omega,by show y≠m+1;omega⟩);have hfm:FmAdm rs ⟨wd,fl⟩ (outsOf wd pre) (applyR x.r wd):=by
    refine⟨.inr (.inl ⟨x.r,hadm.1.1,hadm.1.2.1,hadm.1.2.2.1,rfl⟩),?_⟩;rw[outsOf_len];have:=hadm.2;show _<fmMax rs fl;unfold fmMax;omega
   obtain⟨fn,tmps,assign,body,hyd,hRd⟩:=HY.out _ _ _ W' hfm h.inv;simp only[fmEnc]at hyd;have HI:=hid h;have HAD:=hid hadm;have HV:=hid (And.intro hv (And.intro hvp (And.intro hlo hTB)));have HB:=hid hb;have HRD:=hid hRd;clear h hadm hv hvp hlo hTB hb hRd hfm;gi_wp2;refine(RoundIn.wideIn (m:=_) HRD.out).mono ?_;rintro e W2 ⟨⟨rfl,hJ2⟩|⟨rfl,hJ2⟩,hk2⟩
   ·have hk2':KeepsAt (fun k=>R k∨(O k∧k≠m∧k≠m+1)) wz W2:=HI.out.old.trans (hk2.mono fun k h=>h.elim .inl fun h=> .inr (.inr (.inl h.1)));have hb2:=(hk2.block Bx (Array.getElem?_eq_some_iff.1 HB.out).1 (.inr (.inr (.inr rfl)))).trans HB.out;have H2:=hid (show J (fun k=>T k∨O k∨k=Bx) (outsOf wd pre++[applyR x.r wd]) W2∧KeepsAt (fun k=>R k∨(O k∧k≠m∧k≠m+1)) wz W2∧W2.ownsMap Tryz.prog 217 crossR m pre.length Dp∧W2.ownsMap Tryz.prog 217 crossR (m+1) pre.length Ds∧KeepsAt (fun k=>R k∨T k∨O k∨k=Bx) W' W2 from
     ⟨hJ2,hk2',omap_same HI.out.ownP (hk2.block m HI.out.ownP.lt (.inr (.inr (.inl HOF.out.1.1)))),omap_same HI.out.ownS (hk2.block _ HI.out.ownS.lt (.inr (.inr (.inl HOF.out.1.2)))),hk2⟩)
    have cP:=cell_keeps hk2' (p:=⟨m+2,0,none⟩) (v:= .map (some m)) (by simp[World.cell?,HNW.out.2.2.1]) (.inr ⟨HOF.out.2.1 2 (by omega),by show m+2≠m;omega,by show m+2≠m+1;omega⟩);have cS:=cell_keeps hk2' (p:=⟨m+3,0,none⟩) (v:= .map (some (m+1))) (by simp[World.cell?,HNW.out.2.2.2.1]) (.inr ⟨HOF.out.2.1 3 (by omega),by show m+3≠m;omega,by show m+3≠m+1;omega⟩);have fin:Hid (∀(W3:World) (q:Nat) (Dp' Ds':DataW Value),W2.grownBy W3 (some q)→(q=m∨q=m+1)→W3.ownsMap Tryz.prog 217 crossR m (pre.length+1) Dp'→W3.ownsMap Tryz.prog 217 crossR (m+1) (pre.length+1) Ds'→
      CrQ Wb rs fl wd true Dp' (pre++[x])→CrQ Wb rs fl wd false Ds' (pre++[x])→(∃Dp Ds,MNow J Wb wz rs fl wd R O (fun _=>False) T m (pre++[x]) (outsOf wd (pre++[x])) Dp Ds W3)∧KeepsAt (fun k=>(R k∨(O k∧k≠m∧k≠m+1))∨T k) W' W3):=by
     refine hid fun W3 q Dp' Ds' hg hq hP hS hcP hcS=>?_;have hoq:OnlyAt (fun k=>k=q) W2 W3:=OnlyAt.of_grown hg (fun k e=>by cases e;rfl);have hOq:O q:=by rcases hq with rfl|rfl;exact HOF.out.1.1;exact HOF.out.1.2
     have hlo:=HI.out.low;have hqT:∀k,((R k∨(O k∧k≠m∧k≠m+1))∨T k)→k≠q:=by
      rintro k ((h|h)|h) rfl
      ·have:=HOF.out.2.2.2.2 _ h;omega
      ·omega
      ·have h1:=hlo _ h;have h2:=HOF.out.2.2.2.1 _ (.inr hOq);omega
     refine⟨⟨Dp',Ds',?_,hlo,H2.out.2.1.trans ⟨hoq.size,fun k hk h=>hoq.block k hk (hqT k (.inl h))⟩,by rw[List.length_append];exact hP,by rw[List.length_append];exact hS,hcP,hcS,?_⟩,(H2.out.2.2.2.2.mono ?_).trans ⟨hoq.size,fun k hk h=>hoq.block k hk (hqT k h)⟩⟩
     ·rw[outsOf_snoc];refine HJ.out _ _ _ _ _ H2.out.1 (hoq.mono ?_) ?_
      ·rintro k rfl;exact .inr (.inl hOq)
      ·rintro k (h|h|h)
       ·exact .inl (.inl h)
       ·exact .inl (.inr (.inl h))
       ·exact h.elim
     ·rw[List.length_append];have h:=HAD.out.2;show _+1≤_;omega
     ·rintro k ((h|h)|h)
      ·exact .inl h
      ·exact .inr (.inr (.inl h.1))
      ·exact .inr (.inl h)
    clear hJ2 hk2 hk2' HRD hyd HB hcy;obtain⟨vp,vf,vc,vs,va,vA,vn,vcp⟩:=v;dsimp only at hb2 HV;obtain⟨x0,x1,x2,x3,x4,x5⟩:=cells6_at hb2;clear hb2;cases vp with
    | true=>
      have hd2:=(HS.out _ (HD.out _ H2.out.2.1)).sub;have hru:RuAt Wb x.rv x.r:=HAD.out.1.2.2.2;have hrv:=HV.out.1;obtain⟨kl,hkl⟩:=key_act x.r.strip x.r.add (by have:=(HF.out.fit x.r HAD.out.1.1).strip;unfold maxLen;omega) (by have:=(HF.out.fit x.r HAD.out.1.1).add;unfold maxLen;omega);have hnum:pre.length<1000000000:=by
       have h1:=HI.out.num;have h2:fl.length*rs.length≤1000*1000:=Nat.mul_le_mul HF.out.nf HF.out.nr;omega
      have CP:=hid (put_any W2 m pre.length Dp x.rv x.r (hru.sub hd2) H2.out.2.2.1 hnum kl hkl);rw[hrv]at CP;simp only[RV.val]at CP;have HKL:=hid (And.intro hkl (And.intro hru hrv));clear hd2 hru hrv hkl hnum;gi_wp2_with fail;refine⟨trivial,?_⟩;refine(CallsIn.inRound l2 (callsIn_wide.2 CP.out)).mono ?_;rintro e W3 ⟨rfl,hown3,hg3⟩;have HG:=hid (And.intro hown3 hg3);clear hown3 hg3 CP;gi_wp2;have HE:=hid (fin.out W3 m _ Ds HG.out.2 (.inl rfl) HG.out.1 ((omap_same H2.out.2.2.2.1 (HG.out.2.block _ H2.out.2.2.2.1.lt (by simp))).mono (by omega)) (by
       cases hc:x.r.cross with
       | false=>rw[if_neg (by simp)];exact HI.out.crP.skip (.inr hc)
       | true=>
         rw[if_pos rfl];have hz:=HI.out.crP.put H2.out.2.2.1.isMap HKL.out.1 HKL.out.2.1 ⟨HAD.out.1.1,HAD.out.1.2.1,HAD.out.1.2.2.1,HV.out.2.1.symm,hc⟩;rw[HKL.out.2.2]at hz;exact hz) (HI.out.crS.skip (.inl (by rw[←HV.out.2.1];decide))))
      exact⟨HE.out.1,HE.out.2⟩
    | false=>
      have hd2:=(HS.out _ (HD.out _ H2.out.2.1)).sub;have hru:RuAt Wb x.rv x.r:=HAD.out.1.2.2.2;have hrv:=HV.out.1;obtain⟨kl,hkl⟩:=key_act x.r.strip x.r.add (by have:=(HF.out.fit x.r HAD.out.1.1).strip;unfold maxLen;omega) (by have:=(HF.out.fit x.r HAD.out.1.1).add;unfold maxLen;omega);have hnum:pre.length<1000000000:=by
       have h1:=HI.out.num;have h2:fl.length*rs.length≤1000*1000:=Nat.mul_le_mul HF.out.nf HF.out.nr;omega
      have CP:=hid (put_any W2 (m+1) pre.length Ds x.rv x.r (hru.sub hd2) H2.out.2.2.2.1 hnum kl hkl);rw[hrv]at CP;simp only[RV.val]at CP;have HKL:=hid (And.intro hkl (And.intro hru hrv));clear hd2 hru hrv hkl hnum;gi_wp2_with fail;refine⟨trivial,?_⟩;refine(CallsIn.inRound l2 (callsIn_wide.2 CP.out)).mono ?_;rintro e W3 ⟨rfl,hown3,hg3⟩;have HG:=hid (And.intro hown3 hg3);clear hown3 hg3 CP;gi_wp2;have HE:=hid (fin.out W3 (m+1) Dp _ HG.out.2 (.inr rfl) ((omap_same H2.out.2.2.1 (HG.out.2.block _ H2.out.2.2.1.lt (by simp))).mono (by omega)) HG.out.1 (HI.out.crP.skip (.inl (by rw[←HV.out.2.1];decide))) (by
       cases hc:x.r.cross with
       | false=>rw[if_neg (by simp)];exact HI.out.crS.skip (.inr hc)
       | true=>
         rw[if_pos rfl];have hz:=HI.out.crS.put H2.out.2.2.2.1.isMap HKL.out.1 HKL.out.2.1 ⟨HAD.out.1.1,HAD.out.1.2.1,HAD.out.1.2.2.1,HV.out.2.1.symm,hc⟩;rw[HKL.out.2.2]at hz;exact hz))
      exact⟨HE.out.1,HE.out.2⟩
   ·have HX:=hid (And.intro hJ2 hk2);clear hJ2 hk2 HRD hyd HB hcy;gi_wp2;refine⟨⟨rfl,fun k=>k=Bx,?_⟩,HX.out.2.mono ?_⟩
    ·rw[outsOf_snoc];exact HX.out.1
    ·rintro k ((h|h)|h)
     ·exact .inl h
     ·exact .inr (.inr (.inl h.1))
     ·exact .inr (.inl h)
  case done=>
   rintro Dd T xs W' hD hTD hall ⟨Dp,Ds,h⟩ hK;have kR:=HD.out W' h.old;have hd:=HS.out W' kR;have cy:=cell_keeps h.old (p:=⟨y,0,none⟩) HYZ.out.cell (.inr ⟨HOF.out.2.2.1,by show y≠m;omega,by show y≠m+1;omega⟩);have cw:=hd.word;have cP:=cell_keeps h.old (p:=⟨m+2,0,none⟩) (v:= .map (some m)) (by simp[World.cell?,HNW.out.2.2.1]) (.inr ⟨HOF.out.2.1 2 (by omega),by show m+2≠m;omega,by show m+2≠m+1;omega⟩);have cS:=cell_keeps h.old (p:=⟨m+3,0,none⟩) (v:= .map (some (m+1))) (by simp[World.cell?,HNW.out.2.2.2.1]) (.inr ⟨HOF.out.2.1 3 (by omega),by show m+3≠m;omega,by show m+3≠m+1;omega⟩);have hz:=h.old.size;have hDlt:=(Array.getElem?_eq_some_iff.1 hK).1;have hj0:J (fun k=>(T k∨O k)∧k<W'.heap.size) (outsOf wd xs) W':=HJ.out _ _ _ _ _ h.inv (OnlyAt.refl _ _) (fun k hk=> .inl (hk.1.elim .inl fun h=> .inr (.inl h)));have hfix:WFix Wb (GoodR rs fl wd true) (GoodR rs fl wd false) Dp Ds wd (IsForm rs ⟨wd,fl⟩):=
    ⟨h.crP.ent,h.crS.ent,fun r hg=>HF.out.fit r hg.1,fun r hg=>HF.out.fit r hg.1,fun p s hp hs hz=> .inr (.inr ⟨p,hp.1,s,hs.1,hp.2.1,hs.2.1,hz,rfl⟩),HF.out.tabs,HF.out.word⟩
   have hsz1:Maps.size Dp≤fl.length*rs.length:=Nat.le_trans h.ownP.size_le h.num;have hsz2:Maps.size Ds≤fl.length*rs.length:=Nat.le_trans h.ownS.size_le h.num;have hmax:(outsOf wd xs).length+Maps.size Dp*Maps.size Ds≤fmMax rs fl:=by
    rw[outsOf_len];unfold fmMax;have h1:=Nat.mul_le_mul hsz1 hsz2;have h2:=h.num;omega
   have CW:=hid (with_any Wb l J Jx HJ.out HJX.out R (fun k=>(T k∨O k)∧k<W'.heap.size) (IsForm rs ⟨wd,fl⟩) (fmMax rs fl) (fun T pre x W1 hx hj=>HY.out T pre x W1 hx hj) _ _ Dp Ds wd hfix W' (fun W'' hk=>(HS.out W'' (kR.trans hk)).sub) m (m+1) _ _ h.ownP h.ownS ⟨.inr HOF.out.1.1,h.ownP.lt⟩ ⟨.inr HOF.out.1.2,h.ownS.lt⟩ (outsOf wd xs) hj0
    (by
     rintro k (hk|hk)
     ·exact Nat.lt_of_lt_of_le (HOF.out.2.2.2.1 k (.inl hk)) hz
     ·exact hk.2) hmax)
   have HALL:=hid (show∀pre:List ByteArray,(∀x∈outsOf wd xs,x∈pre)→(∀kl1,Maps.has Dp kl1=true→RowDone (GoodR rs fl wd true) (GoodR rs fl wd false) Ds wd kl1 pre)→FmAll rs ⟨wd,fl⟩ pre from by
    rintro pre hsub hrow x (rfl|⟨r,hr,hf,hz,rfl⟩|⟨p,hp,s,hs,hpf,hsf,hz,rfl⟩)
    ·exact hsub _ ((outsOf_mem _ _ _).2 (.inl rfl))
    ·obtain⟨q,hq,rfl⟩:=hall r hr hf hz;exact hsub _ ((outsOf_mem _ _ _).2 (.inr ⟨q,hq,rfl⟩))
    ·obtain⟨w1,w2,w3,w4,w5,w6⟩:=both_wants hz;obtain⟨q1,hq1,rfl⟩:=hall p hp hpf w5;obtain⟨q2,hq2,rfl⟩:=hall s hs hsf w6;obtain⟨kl1,k1,k2⟩:=h.crP.all q1 hq1 w1 w3;obtain⟨kl2,k3,k4⟩:=h.crS.all q2 hq2 w2 w4;obtain⟨p',hp',ka,hrows⟩:=hrow kl1 k2;obtain⟨s',hs',kb,hin⟩:=hrows kl2 k4;have e1:=keyed_act.inj k1 ka;have e2:=keyed_act.inj k3 kb;simp only[Value.agg.injEq,Array.mk.injEq,List.cons.injEq,Value.string.injEq,and_true]at e1 e2;have e3:=both_alike (w:=wd) ⟨w1,hp'.2.2.2.1,w2,hs'.2.2.2.1,w3,hp'.2.2.2.2,w4,hs'.2.2.2.2⟩ w5 hp'.2.2.1 w6 hs'.2.2.1 e1 e2;show bothR _ _ wd∈pre;rw[e3];exact hin (by rw[←e3];exact hz))
   have HKD:=hid (And.intro hK (And.intro hTD hDlt));clear h hK hall kR hd hj0 hfix hsz1 hsz2 hmax hz hDlt;gi_wp2_with fail;refine⟨trivial,?_⟩;refine(callsIn_wide.2 CW.out).mono ?_;rintro e W3 ⟨rfl,hor,hk3⟩;have HO3:=hid hor;have HK3:=hid (show W3.heap[Dd]?=some (.deferred (some []))from(hk3.block Dd HKD.out.2.2 ⟨.inl HKD.out.2.1,HKD.out.2.2⟩).trans HKD.out.1);have HTD:=hid (show (fun k=>(T k∨O k)∧k<W'.heap.size) Dd from ⟨.inl HKD.out.2.1,HKD.out.2.2⟩);clear hor hk3 CW cw cy cP cS;gi_wp2;refine⟨by simp,.inl ⟨_,_,rfl,run_takeDeferred HK3.out,?_⟩⟩;refine⟨_,results_none rfl _ _ _,⟨_,rfl⟩,?_⟩;rcases HO3.out with ⟨T3,pre3,hs3,hm3,hr3,hj3⟩|⟨T3,pre3,hs3,hj3⟩
   ·exact⟨T3,pre3,.inl ⟨HALL.out pre3 hm3 hr3,HJ.out.same hj3 (OnlyAt.putObj _ _ _ (hs3 _ HTD.out))⟩⟩
   ·exact⟨T3,pre3,.inr (HJX.out.same hj3 (OnlyAt.putObj _ _ _ (hs3 _ HTD.out)))⟩
  case stop=>
   rintro Dd T c xs W' hD hTD ⟨rfl,E,h⟩ hK;have HX:=hid h;have HKD:=hid hK;clear h hK;gi_wp2;refine⟨by simp,.inl ⟨_,_,rfl,run_takeDeferred HKD.out,?_⟩⟩;exact⟨_,results_none rfl _ _ _,⟨_,rfl⟩,_,_,.inr (HJX.out.same HX.out (OnlyAt.putObj _ _ _ (.inl hTD)))⟩
 ·clear hk1;have HX:=hid hJ1;clear hJ1;gi_wp2;exact⟨_,results_none rfl _ _ _,⟨_,rfl⟩,_,_,.inr HX.out⟩
end Go.Proofs.YtfehpcbmdancoaaGreatDoor
