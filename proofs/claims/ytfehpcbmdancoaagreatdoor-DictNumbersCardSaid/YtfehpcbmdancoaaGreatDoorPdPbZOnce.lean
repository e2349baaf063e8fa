/- closure.once by contract: flags in order, each once (slices.Values, AppendSeq, Collect, Sorted at ints; slices.Sort, Compact off the shelf). -/
import Derived.Maps.AppendAt
import Derived.Sort.OwnSortedInts
import Derived.Shelf.Abstract
import Derived.Shelf.RegionOpen
import Derived.OwnWalkIn
import Derived.TacticsInMore
import Derived.LoopNIn
import Derived.LoopIn
import Derived.Test.YtfehpcbmdancoaaGreatDoorPdPbNPlain
import Derived.Test.YtfehpcbmdancoaaGreatDoorPdPbShelf
import Derived.Test.YtfehpcbmdancoaaGreatDoorPdPbYState
set_option maxRecDepth 100000
set_option maxHeartbeats 2000000
namespace Go.Proofs.YtfehpcbmdancoaaGreatDoor
open Go Go.RowKit Go.Lib Go.Shelf
attribute [local go_sem] Oper.semAt_some alloc_set
def zInt (x:Int):Array Value:=#[.int .i64 x]
theorem KeepsAt.sub {w0 W:World}(h:KeepsAt (fun k=>k<w0.heap.size) w0 W):Sub w0 W:=Sub.of_keeps h fun _ hk=>hk.lt
theorem values_gives (w0:World)(A:Option Addr)(n cap Bs:Nat)(zs:List Int)(hn:zs.length≤1000000000000)(hI:IntsAt w0 (.slice A n cap) zs)(hB:w0.cell? ⟨Bs,0,none⟩=some (.slice A n cap))(W:World)(hO:KeepsAt (fun k=>k<w0.heap.size) w0 W):
  Gives Tryz.prog 207 #[.pointer (some ⟨Bs,0,none⟩)] zInt zs (fun k=>k<w0.heap.size) W:=by
 intro l J hJ hY hJ0;obtain⟨A',cap',e,hc⟩:=ints_open hI;injection e with e1 e2 e3;subst e1 e3;have hbx:=hO.sub.2 _ _ hB;have HC:=hid hc;have HY:=hid hY;have HJ0:=hid hJ0;have HO:=hid hO;have HN:=hid e2;have hn2:n≤1000000000000:=by omega
 clear hc hY hJ0 hO hI hJ e2 hn hB;refine(callsIn_wide (n:=1)).1 ?_;refine callsIn_of_wp Tryz.func207 rfl trivial ?_ rfl;simp only[Tryz.ntmps207,List.size_toArray,List.length_cons,List.length_nil,Nat.reduceAdd,Nat.reduceSub,Array.replicate_succ,Array.replicate_zero,List.push_toArray,List.append_toArray,List.nil_append,List.cons_append];gi_wp2
 gi_loopw [7] (fun i wr=>∃k:Nat,k≤n∧i= .int .i64 k∧Hid (J (fun _=>False) (zs.take k) wr∧KeepsAt (fun k=>k<w0.heap.size) w0 wr))
  (fun i _=>n-(RowKit.intOf i).toNat)
 case atStart=>exact⟨0,Nat.zero_le _,rfl,hid ⟨HJ0.out,HO.out⟩⟩
 case round=>
  obtain⟨k,hk,rfl,HI⟩:=hrel;by_cases hlt:k<n
  ·obtain⟨x,hx⟩:∃x,zs[k]?=some x:=⟨_,List.getElem?_eq_getElem (by have:=HN.out;omega)⟩;obtain⟨q,o,rfl,hq,hcap,hcell⟩:=HC.out k x hx;have hcx:=HI.out.2.sub.2 _ _ hcell;have htk:zs.take k++[x]=zs.take (k+1):=by rw[List.take_add_one,hx];rfl
   have hadm:(zs.take k++[x]) <+:zs:=by rw[htk];exact List.take_prefix _ _
   have hnc:n≤cap:=by have:=HN.out;omega
   obtain⟨fn,tmps,assign,body,hy,hR⟩:=HY.out _ _ x wr hadm HI.out.1;have HR:=hid (RoundIn.wideIn (n:=0) (m:=0) (l0:=l) hR);have HT:=hid htk;have HHR:=hid hR;simp only[zInt]at hy;clear hR hcell hadm htk hx HR;gi_wp2;refine(HHR.out).mono ?_;rintro e W3 ⟨rfl,hJ3,hk3⟩;have HK3:=hid (And.intro hJ3 hk3);clear hJ3 hk3;gi_wp2
   go_roundw
   case rel=>exact⟨k+1,by omega,by simp,hid ⟨HT.out▸HK3.out.1,HI.out.2.trans (HK3.out.2.mono fun _ h=> .inl h)⟩⟩
   case measure=>simp[RowKit.intOf];omega
  ·obtain rfl:k=n:=by omega
   have HE:=hid (show J (fun _=>False) zs wr by have:=HI.out.1;rwa[List.take_of_length_le (by have:=HN.out;omega)]at this);clear HI;gi_wp2
   go_end0
   exact⟨⟨_,rfl⟩,_,HE.out⟩
theorem wpListIn_append_where {F:Fence}{n:Nat}{P:Program}(w:World){ops:Array Oper}{rest:List Oper}{o:Oper}{a:Act}{Q:Exit→Act→World→Prop}
  (hg:o.guard=none) (s x:Operand) (t:TypeId) (hop:o.op=Op.call { callee:=Callee.builtin Builtin.append,args:=#[s,x],argTypes:=#[t,t] })
  (base:Nat) (e:TypeId) (i:TypeInfo) (z:Value) (size bytes:Nat) (h1:P.underlying t=some (.slice e)) (h2:P.info? e=some i) (h3:i.zero=some z) (h4:i.size=size) (h5:i.bytes=bytes) (h6:z.cells.size=size) (h7:0<size)
  (v:Value) (k:Nat) (xs:List Value) (hs:a.eval s=v) (hown:w.ownsRow base e size v k xs) (ad:Addr) (m c:Nat) (news:List Value) (hx:a.eval x= .slice (some ad) m c) (hn:news.length=m*size)
  (hc:∀j u,news[j]?=some u→w.cell? (ad.add j)=some u) (h1c:∀u∈news,u.oneCell'=true) (b1:k+m≤maxLen) (b2:(k+m)*bytes≤140737488355328) (b3:base≤w.heap.size)
  (hK:∀v' w',w'.ownsRow base e size v' (k+m) (xs++news)→w.grownBy w' v.ownBlock→(v'.ownBlock=v.ownBlock∨∀g,v'.ownBlock=some g→w.heap.size≤g)→wpListIn F n P ops Q rest (a.put o.dst v') w'):
  wpListIn F n P ops Q (o::rest) a w:=by
 refine wpListIn_plain hg fun K hK'=>?_;obtain⟨v',w',hrun,r1,r2,r3⟩:=run_append_own (P:=P) w base t o.type e i z size bytes h1 h2 h3 h4 h5 h6 h7 v k xs hown ad m c news hn hc h1c b1 b2 b3;have r4:=append_where (P:=P) w base t o.type e i z size bytes h1 h2 h3 h4 h5 h6 h7 v k xs hown ad m c news hn hc h1c b1 b2 hrun;unfold Oper.wpIn;refine⟨?_,?_⟩
 ·simp[Oper.about,hop,resolve,Target.leads,Sem.run_pure]
 ·rw[Oper.semAt_plain F _ _ (by rw[hop];intro c hc';cases hc')];simp[execOp,hop,resolve,invoke,builtin,hs,hx,hrun,Result.andThen];exact hK' _ _ (hK v' w' r1 r2 r4)
def ZRowS (w0:World)(R:Nat→Prop)(N:Nat)(T:Nat→Prop)(pre:List Int)(v:Value)(W:World):Prop:=
 (Boxed W N 42 v∧¬T N)∧(W.ownsRow w0.heap.size 3 1 v pre.length (pre.map (Value.int .i64))∧∀g,v.ownBlock=some g→¬T g∧¬R g)∧Below w0.heap.size w0 W∧(∀k,T k→w0.heap.size≤k)∧∀k,T k→k<W.heap.size
theorem ZRowS.stab {w0:World}{R:Nat→Prop}{N:Nat}{T T':Nat→Prop}{pre:List Int}{v:Value}{U V:World}(h:ZRowS w0 R N T pre v U)(ho:OnlyAt T U V)(ht:∀k,T' k→T k∨(U.heap.size≤k∧k<V.heap.size)):ZRowS w0 R N T' pre v V:=by
 obtain⟨⟨hb,hT⟩,⟨hr,hg⟩,hB,hTB,hTU⟩:=h;have hlt:=hb.lt;have hz:=ho.size;refine⟨⟨(ho.block N hlt hT).trans hb,fun hh=>?_⟩,⟨⟨hr.1,?_⟩,fun g hgv=>⟨fun hh=>?_,(hg g hgv).2⟩⟩,OnlyAt.below hB ho hB.size hTB,fun k hk=>?_,fun k hk=>?_⟩
 ·rcases ht N hh with h|h
  ·exact hT h
  ·omega
 ·rcases hr.2 with hn|⟨g,cap,cur,rfl,hgb,hgg,rest⟩
  ·exact .inl hn
  ·exact .inr ⟨g,cap,cur,rfl,hgb,(ho.block g (Array.getElem?_eq_some_iff.1 hgg).1 (hg g rfl).1).trans hgg,rest⟩
 ·have:=(hr.lt g hgv).2;rcases ht g hh with h|h
  ·exact(hg g hgv).1 h
  ·omega
 ·rcases ht k hk with h|h
  ·exact hTB k h
  ·have:=hB.size;omega
 ·rcases ht k hk with h|h
  ·have:=hTU k h;omega
  ·exact h.2
theorem append_ints (w0:World)(gf:Nat)(lb:Array Value)(xs:List Int)(R:Nat→Prop)(w:World)(hB:Below w0.heap.size w0 w)(hR:∀k,R k→k<w.heap.size)(hxs:xs.length≤1000000000000)
  (eg:∀args w,(callFunc gf args).run Tryz.prog w= .ok (.enter gf args) w)
  (hseq:∀W1,OnlyAt (fun _=>False) w W1→Gives Tryz.prog gf lb zInt xs R W1):
  Calls Tryz.prog 241 #[.slice none 0 0,.func (.func gf) #[] lb] w fun e w'=>∃v,e= .returned v∧w'.ownsRow w0.heap.size 3 1 v xs.length (xs.map (Value.int .i64))∧Below w0.heap.size w0 w':=by
 obtain⟨i0,hi,hz0,hz1,hz2⟩:=info_parts Tryz.infosY3;have HB:=hid hB;have HR:=hid hR;have HS:=hid hseq;have HE:=hid eg;clear hB hR hseq eg;refine(callsIn_wide (n:=6)).1 ?_;refine callsIn_of_wp_marks Tryz.func241 rfl trivial ?_ rfl;simp only[Tryz.ntmps241,List.size_toArray,List.length_cons,List.length_nil,Nat.reduceAdd,Nat.reduceSub,Array.replicate_succ,Array.replicate_zero,List.push_toArray,List.append_toArray,List.nil_append,List.cons_append];gi_wp2;obtain⟨N,hN⟩:∃N,N=w.heap.size:=⟨_,rfl⟩;have hrow0:ZRowS w0 R N (fun _=>False) [] (.slice none 0 0) (w.alloc (.cells #[.slice none 0 0] 42)):=
  ⟨⟨hN▸Boxed.new w _ _,id⟩,⟨World.ownsRow_nil _ _ _ _,fun g hg=>by simp[Value.ownBlock]at hg⟩,HB.out.alloc HB.out.size _,fun _ h=>h.elim,fun _ h=>h.elim⟩
 have hsz:(w.alloc (.cells #[.slice none 0 0] 42)).heap.size=N+1:=by rw[hN];simp
 have ho0:OnlyAt (fun _=>False) w (w.alloc (.cells #[.slice none 0 0] 42)):=OnlyAt.alloc _ _ _;revert hrow0 hsz ho0;generalize (w.alloc (.cells #[.slice none 0 0] 42))=W1;intro hrow0 hsz ho0;simp only[←hN];have hRN:∀k,R k→k<N:=fun k hk=>hN▸HR.out k hk;have hw0N:w0.heap.size≤N:=by rw[hN];exact HB.out.size
 have HROW0:=hid hrow0;have HO0:=hid ho0;clear hrow0 ho0 hN;refine wpIn_gives (R:=R) (gf:=gf) (lb:=lb) rfl HE.out (by omega) (encs:=zInt) (xs:=xs)
  (fun W2 ho=>HS.out W2 (HO0.out.trans ho))
  (fun _=>rfl) (fun k hk=>by have:=hRN k hk;omega)
  (fun T pre W=>∃v,ZRowS w0 R N T pre v W)
  ?stab ⟨_,HROW0.out⟩
  (fun T pre x a' W=>∃v,ZRowS w0 R N T pre v W∧
   a'={ tmps:=#[.slice none 0 0,.func (.func gf) #[] lb,.pointer (some ⟨N,0,none⟩),undef,.slice none 0 0,.int .i64 x,.func (.func gf) #[] lb,.int .i64 x,undef,undef,undef,undef,undef],defers:=[] })
  ?stabx ?assign ?body ?done
 case stab=>
  rintro T T' pre U V ⟨v,h⟩ ho ht;exact⟨v,h.stab ho ht⟩
 case stabx=>
  rintro pre x a' T T' _ U V ⟨v,h,ha⟩ ho ht;exact⟨v,h.stab ho ht,ha⟩
 case assign=>
  rintro l2 T pre x W' K hpre ⟨v,h⟩ hlt hK;have HI:=hid h;clear h;simp only[zInt];gi_wp2;exact hK _ _ (OnlyAt.refl _ _) ⟨v,HI.out,by simp⟩
 case body=>
  rintro l2 T pre x a' W' hpre ⟨v,h,rfl⟩ hlt;have hpl:pre.length<xs.length:=by
   obtain⟨r,hr⟩:=hpre;have:=congrArg List.length hr;simp at this;omega
  have hc:=h.1.1.cell;have HI:=hid h;clear h hpre;gi_wp2_with (gi_at_builtin;refine wpListIn_append_where _ rfl _ _ 42 rfl w0.heap.size 3 i0 (.int .i64 0) 1 8 Tryz.underlying42 hi hz0 hz1 hz2 rfl (by decide) _ _ _ rfl (HI.out.2.1.1.alloc _) ⟨W'.heap.size,0,none⟩ 1 1 [.int .i64 x] rfl rfl (cell_one_new _ _ _) (int_oneY x) (by unfold maxLen;omega) (by omega) (by have:=HI.out.2.2.1.size;simp;omega) ?_;intro v' w1 hown' hgrow hwh;obtain⟨g',cap',rfl⟩:=ownsRow_succ hown';obtain⟨hv1,hv2,hr2,hk2,hb2⟩:=HI.out.1.1.appended (by decide) HI.out.2.1.1 HI.out.2.2.1.size hw0N hown' hgrow;have hc1:=hv1.cell;have hf1:=hv1.frozen);have hNW:=HI.out.1.1.lt;have hz2:=hk2.size;have hgn:¬T g'∧¬R g':=by
   rcases hwh with hw|hw
   ·exact HI.out.2.1.2 g' (hw▸rfl)
   ·have:=hw g' rfl;simp at this;exact⟨fun hh=>by have:=HI.out.2.2.2.2 g' hh;omega,fun hh=>by have:=hRN g' hh;omega⟩
  refine⟨⟨_,⟨hv2,HI.out.1.2⟩,⟨by rw[List.length_append,List.map_append];exact hr2,fun g hg=>?_⟩,HI.out.2.2.1.trans hb2,HI.out.2.2.2.1,fun k hk=>Nat.lt_of_lt_of_le (HI.out.2.2.2.2 k hk) hz2⟩,⟨hz2,fun k hk hh=>?_⟩⟩
  ·obtain rfl:g'=g:=by simpa[Value.ownBlock]using hg
   exact hgn
  ·have hkN:k≠N:=by
    rintro rfl;rcases hh with hh|hh
    ·have:=hRN _ hh;omega
    ·exact HI.out.1.2 hh
   have hkv:some k≠v.ownBlock:=by
    intro e;rcases hh with hh|hh
    ·exact(HI.out.2.1.2 k e.symm).2 hh
    ·exact(HI.out.2.1.2 k e.symm).1 hh
   exact(Below.heap_setCell _ _ _ _ hkN).trans ((hgrow.block k (by simp;omega) hkv).trans (Below.heap_alloc _ _ _ hk))
 case done=>
  rintro D T W' hD hTD ⟨v,h⟩ hK;have hc:=h.1.1.cell;have HI:=hid h;have HKD:=hid hK;clear h hK;gi_wp2;refine⟨by simp,.inl ⟨_,_,rfl,run_takeDeferred HKD.out,?_⟩⟩;refine⟨_,results_tmp rfl _ _ (W'.putObj D (.deferred none)),_,rfl,ownsRow_putObj HI.out.2.1.1 _ HKD.out rfl,OnlyAt.below HI.out.2.2.1 (OnlyAt.putObj (T:=fun k=>k=D) _ _ _ rfl) HI.out.2.2.1.size ?_⟩;rintro k rfl;omega
theorem collect_ints (w0:World)(gf:Nat)(lb:Array Value)(xs:List Int)(R:Nat→Prop)(w:World)(hB:Below w0.heap.size w0 w)(hR:∀k,R k→k<w.heap.size)(hxs:xs.length≤1000000000000)
  (eg:∀args w,(callFunc gf args).run Tryz.prog w= .ok (.enter gf args) w)
  (hseq:∀W1,OnlyAt (fun _=>False) w W1→Gives Tryz.prog gf lb zInt xs R W1):
  Calls Tryz.prog 205 #[.func (.func gf) #[] lb] w fun e w'=>∃v,e= .returned v∧w'.ownsRow w0.heap.size 3 1 v xs.length (xs.map (Value.int .i64))∧Below w0.heap.size w0 w':=by
 have HC:=hid (append_ints w0 gf lb xs R w hB hR hxs eg hseq);clear hB hR hxs eg hseq;go_enter Tryz.func205,Tryz.ntmps205;go_wp2_with (go_at_call 241;refine(HC.out).mono ?_;rintro e w1 ⟨v1,rfl,ho1,hb1⟩);go_ret;exact⟨_,rfl,ho1,hb1⟩
theorem compact_mem (zs:List Int)(x:Int):x∈Lib.compact zs↔x∈zs:=by
 unfold Lib.compact;have hup:∀(d:Array Int) (m:Nat),x∈compactUpTo d m↔∃j,j<m∧d[j]! =x:=by
  intro d m
  induction m with
  | zero=>simp[compactUpTo]
  | succ m ih=>
    rw[compactUpTo_succ,List.mem_append,ih];constructor
    ·rintro (⟨j,hj,e⟩|h)
     ·exact⟨j,by omega,e⟩
     ·split at h
      ·exact⟨m,by omega,(List.mem_singleton.1 h).symm⟩
      ·cases h
    ·rintro⟨j,hj,e⟩;rcases Nat.lt_or_ge j m with hlt|hge
     ·exact .inl ⟨j,hlt,e⟩
     ·obtain rfl:j=m:=by omega
      by_cases hk:keeps d j=true
      ·right;rw[if_pos hk,e];exact List.mem_singleton.2 rfl
      ·left;unfold keeps at hk;simp only[decide_eq_true_eq,not_or,Decidable.not_not]at hk;exact⟨j-1,by omega,by rw[←hk.2];exact e⟩
 rw[hup];constructor
 ·rintro⟨j,hj,e⟩;rw[←e];have:zs.toArray[j]! =zs[j]:=by simp[hj]
  rw[this];exact List.getElem_mem _
 ·intro h;obtain⟨j,hj,e⟩:=List.getElem_of_mem h;exact⟨j,hj,by rw[←e];simp[hj]⟩
theorem compact_len (zs:List Int):(Lib.compact zs).length≤zs.length:=by
 unfold Lib.compact compactUpTo;rw[List.length_map];refine Nat.le_trans (List.length_filter_le _ _) ?_;rw[List.length_range];exact Nat.le_refl _
def onceL (fl:List Int):List Int:=Lib.compact (fl.mergeSort fun x y=>decide (x≤y))
theorem onceL_mem (fl:List Int)(x:Int):x∈onceL fl↔x∈fl:=by
 unfold onceL;rw[compact_mem];exact(List.mergeSort_perm fl _).mem_iff
theorem onceL_len (fl:List Int):(onceL fl).length≤fl.length:=by
 have h:=compact_len (fl.mergeSort fun x y=>decide (x≤y));rwa[List.length_mergeSort]at h
theorem sorted_ints (w0:World)(gf:Nat)(lb:Array Value)(xs:List Int)(R:Nat→Prop)(w:World)(hB:Below w0.heap.size w0 w)(hR:∀k,R k→k<w.heap.size)(hxs:xs.length≤1000000000000)
  (eg:∀args w,(callFunc gf args).run Tryz.prog w= .ok (.enter gf args) w)
  (hseq:∀W1,OnlyAt (fun _=>False) w W1→Gives Tryz.prog gf lb zInt xs R W1):
  Calls Tryz.prog 155 #[.func (.func gf) #[] lb] w fun e w'=>∃v,e= .returned v∧w'.ownsRow w0.heap.size 3 1 v xs.length ((xs.mergeSort fun x y=>decide (x≤y)).map (Value.int .i64))∧Below w0.heap.size w0 w':=by
 have HC:=hid (collect_ints w0 gf lb xs R w hB hR hxs eg hseq);have HL:=hid hxs;clear hB hR hxs eg hseq;go_enter Tryz.func155,Tryz.ntmps155;go_wp2_with (go_at_call 205;refine(HC.out).mono ?_);rintro e w1 ⟨v1,rfl,ho1,hb1⟩;rcases ho1.2 with ⟨rfl,hz⟩|⟨gb,cap,cur,rfl,hbase,hgb,r1,r2,r3,r4⟩
 ·have hx:xs=[]:=List.eq_nil_of_length_eq_zero hz;subst hx;have HO:=hid (And.intro ho1 hb1);have CS:=hid (Tryz.slices_Sort_int_none none 0 w1);clear ho1 hb1 HC HL;go_wp2_with (go_at_call 206;refine(CS.out).mono ?_);rintro e w2 ⟨rfl,rfl⟩;go_wp2_with fail;go_ret;exact⟨_,rfl,by simpa using HO.out.1,HO.out.2⟩
 ·have hH:Sort.Holds (Value.int .i64) w1 gb 0 xs.toArray:=holds_of_blockI hgb (by simpa using r4);have hgl:gb<w1.heap.size:=(Array.getElem?_eq_some_iff.1 hgb).1;have CS:=hid (Tryz.slices_Sort_int gb 0 cap xs w1 hH hgl (by have:=HL.out;omega));have HO:=hid (show∀n os,(Sort.grow (Sort.putRow (Value.int .i64) (Sort.ahead w1 n) gb 0 (xs.mergeSort fun x y=>decide (x≤y)).toArray) os).ownsRow w0.heap.size 3 1 (.slice (some ⟨gb,0,none⟩) xs.length cap) xs.length ((xs.mergeSort fun x y=>decide (x≤y)).map (Value.int .i64))∧
    Below w0.heap.size w0 (Sort.grow (Sort.putRow (Value.int .i64) (Sort.ahead w1 n) gb 0 (xs.mergeSort fun x y=>decide (x≤y)).toArray) os)from fun n os=>
   ⟨ownsRow_sortedI (by simp) hbase hgb r1 r2 r3,hb1.grown (grownBy_sortedI _) hb1.size (fun j hj=>by cases hj;exact hbase)⟩)
  clear ho1 hb1 HC hH hgb r1 r2 r3 r4 hgl;go_wp2_with (go_at_call 206;refine(CS.out).mono ?_);rintro e w2 ⟨rfl,nn,os,rfl⟩;go_wp2_with fail;go_ret;exact⟨_,rfl,(HO.out nn os).1,(HO.out nn os).2⟩
theorem values_call (A:Option Addr)(n cap:Nat)(w:World):Calls Tryz.prog 156 #[.slice A n cap] w fun e w'=>e= .returned (.func (.func 207) #[] #[.pointer (some ⟨w.heap.size,0,none⟩)])∧w'=w.alloc (.cells #[.slice A n cap] 42):=by
 go_enter Tryz.func156,Tryz.ntmps156;go_wp2;go_ret;exact⟨rfl,rfl⟩
theorem once_any (w:World)(A:Option Addr)(n cap:Nat)(fl:List Int)(h:IntsAt w (.slice A n cap) fl)(hl:fl.length≤1000000000000):
  Calls Tryz.prog 99 #[.slice A n cap] w fun e w'=>∃v,e= .returned v∧w'.ownsRow w.heap.size 3 1 v (onceL fl).length ((onceL fl).map (Value.int .i64))∧Below w.heap.size w w':=by
 have hb1:Below w.heap.size w (w.alloc (.cells #[.slice A n cap] 42)):=(Below.refl _ _).alloc (Nat.le_refl _) _;have hc1:(w.alloc (.cells #[.slice A n cap] 42)).cell? ⟨w.heap.size,0,none⟩=some (.slice A n cap):=by rw[cell_of_row _ _ 0 _ _ _ (World.alloc_heap_new w _)];rfl
 have CS:=hid (sorted_ints w 207 #[.pointer (some ⟨w.heap.size,0,none⟩)] fl (fun k=>k<(w.alloc (.cells #[.slice A n cap] 42)).heap.size) (w.alloc (.cells #[.slice A n cap] 42)) hb1 (fun _ hk=>hk) hl (enters_of Tryz.func207 (by kernel_rfl) rfl)
  (fun W1 ho=>values_gives (w.alloc (.cells #[.slice A n cap] 42)) A n cap w.heap.size fl hl (h.keep hb1) hc1 W1 ⟨ho.size,fun k hk _=>ho.block k hk id⟩))
 have HL:=hid hl;obtain⟨zs,hzs⟩:∃zs,zs=fl.mergeSort fun x y=>decide (x≤y):=⟨_,rfl⟩;have hon:onceL fl=Lib.compact zs:=by rw[hzs];rfl
 have hzl:zs.length=fl.length:=by rw[hzs,List.length_mergeSort]
 rw[←hzs,←hzl]at CS;rw[hon];have HZL:=hid hzl;clear h hl hb1 hc1 hon hzs hzl;go_enter Tryz.func99,Tryz.ntmps99;go_wp2_with (go_at_call 156;refine(values_call A n cap _).mono ?_;rintro e w1 ⟨rfl,rfl⟩);go_wp2_with (go_at_call 155;refine(CS.out).mono ?_);rintro e w2 ⟨v,rfl,ho2,hb2⟩;rcases ho2.2 with ⟨rfl,hz⟩|⟨gb,cap2,cur,rfl,hbase,hgb,r1,r2,r3,r4⟩
 ·have hx:zs=[]:=List.eq_nil_of_length_eq_zero hz;have HO:=hid (And.intro hb2 hx);have CC:=hid (Tryz.slices_Compact_int_empty none 0 w2);clear ho2 hb2 CS HL hz hx;go_wp2_with (go_at_call 154;refine(CC.out).mono ?_);rintro e w3 ⟨rfl,rfl⟩;go_wp2_with fail;go_ret;refine⟨_,rfl,?_,HO.out.1⟩;rw[HO.out.2];exact World.ownsRow_nil _ _ _ _
 ·have hH:Sort.Holds (Value.int .i64) w2 gb 0 zs.toArray:=holds_of_blockI hgb (by simpa using r4);have hgl:gb<w2.heap.size:=(Array.getElem?_eq_some_iff.1 hgb).1;have CC:=hid (Tryz.slices_Compact_int gb 0 cap2 zs w2 hH (by have:=HL.out;have:=HZL.out;omega) r1);have hcl:=compact_len zs;have HO:=hid (show∀q,(Sort.putRow (Value.int .i64) (Sort.ahead w2 q) gb 0 (Lib.compact zs++List.replicate (zs.length-(Lib.compact zs).length) 0).toArray).ownsRow w.heap.size 3 1 (.slice (some ⟨gb,0,none⟩) (Lib.compact zs).length cap2) (Lib.compact zs).length ((Lib.compact zs).map (Value.int .i64))∧
    Below w.heap.size w (Sort.putRow (Value.int .i64) (Sort.ahead w2 q) gb 0 (Lib.compact zs++List.replicate (zs.length-(Lib.compact zs).length) 0).toArray)from fun q=>by
   have h1:=heap_sortedI (n:=q) (os:=#[]) (Lib.compact zs++List.replicate (zs.length-(Lib.compact zs).length) (0:Int)).toArray hgb;have h2:=grownBy_sortedI (w:=w2) (g:=gb) (n:=q) (os:=#[]) (Lib.compact zs++List.replicate (zs.length-(Lib.compact zs).length) (0:Int)).toArray;rw[Sort.grow_empty]at h1 h2;refine⟨⟨by simp,.inr ⟨gb,cap2,_,rfl,hbase,h1,by omega,r2,by simp[Sort.putCells,r3],?_⟩⟩,hb2.grown h2 hb2.size (fun j hj=>by cases hj;exact hbase)⟩;have h3:=take_putCellsI cur (Lib.compact zs++List.replicate (zs.length-(Lib.compact zs).length) (0:Int)) (by simp;omega);have h4:=congrArg (List.take (Lib.compact zs).length) h3;rw[List.take_take,List.map_append,List.take_left' (by simp)]at h4;rw[Nat.mul_one];rwa[Nat.min_eq_left (by simp)]at h4)
  clear ho2 hb2 CS hH hgb r1 r2 r3 r4 hgl hcl;go_wp2_with (go_at_call 154;refine(CC.out).mono ?_);rintro e w3 ⟨rfl,q,rfl⟩;go_wp2_with fail;go_ret;exact⟨_,rfl,(HO.out q).1,(HO.out q).2⟩
end Go.Proofs.YtfehpcbmdancoaaGreatDoor
