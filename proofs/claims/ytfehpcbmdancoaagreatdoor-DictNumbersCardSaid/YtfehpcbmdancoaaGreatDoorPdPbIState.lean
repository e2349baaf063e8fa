/- What the making of a state has in memory: the builder, its own variables, its words. -/
import Derived.Deep.CutRange
import Derived.Deep.DeepCutAuto
import Derived.Deep.RegionHeld3
import Derived.Shelf.RegionOpen
import Derived.Laws.IdiomStrings
import Derived.Test.YtfehpcbmdancoaaGreatDoorPdPbIRise
set_option maxRecDepth 100000
set_option maxHeartbeats 4000000
namespace Go.Proofs.YtfehpcbmdancoaaGreatDoor.Dw
open Go Go.RowKit Go.Lib
def TxAt (w:World)(T:Nat→Prop)(A:Option Addr)(n cap:Nat)(ws:List ByteArray):Prop:=
 n=ws.length∧(n=0∨∃q off,A=some ⟨q,off,none⟩∧¬T q∧q<w.heap.size∧n≤cap∧cap≤maxLen∧∀(i:Nat) s,ws[i]?=some s→w.cell? ⟨q,off+i,none⟩=some (.string s))
def StPost (w:World)(T:Nat→Prop)(pb pa ms mp:Nat)(g:GA)(V:List Bs)(e:Ending)(w':World):Prop:=
 ∃(T':Nat→Prop) (g':GA) (n:Nat),e= .returned (.int .i32 n)∧BM w' T' pb pa ms mp g'∧Fr T T' w w'∧g.Le g'∧g'.N[n]?=some V∧Made g g' (SetS V)∧g'.nodes.length≤g.nodes.length+wt V+1∧g'.arcs.length≤g.arcs.length+wt V
def StSays (h:Nat):Prop:=∀(w:World) (T:Nat→Prop) (pb pa ms mp:Nat) (g:GA) (A:Option Addr) (n cap:Nat) (ws:List ByteArray) (d:Nat),BM w T pb pa ms mp g→TxAt w T A n cap ws→(ws.map (tailD d)).Pairwise (· < ·)→
 (∀s∈ws,d≤s.size∧s.size≤d+h)→d+h≤1000000→n≤1000000→g.nodes.length+wt (ws.map (tailD d))+1≤1000000000→g.arcs.length+wt (ws.map (tailD d))≤1000000000→
 Calls Tryz.prog 116 #[.pointer (some ⟨pb,0,none⟩),.slice A n cap,.int .i64 d] w (StPost w T pb pa ms mp g (ws.map (tailD d)))
theorem BM.other {w w':World}{T:Nat→Prop}{pb pa ms mp:Nat}{g:GA}{b:Nat}(h:BM w T pb pa ms mp g)(ho:OnlyAt (fun z=>z=b) w w')(hb:¬T b)(hp:b≠pb):BM w' T pb pa ms mp g:=by
 have key:∀k,k<w.heap.size→(T k∨k=pb)→w'.heap[k]?=w.heap[k]?:=fun k hk ht=>ho.block k hk (by
  rintro rfl;rcases ht with ht|ht
  ·exact hb ht
  ·exact hp ht)
 obtain⟨A,c,A',c',h1,h2,h3,h4,h5⟩:=h.rows;refine⟨h.ok,(key _ h.pb_lt (.inr rfl)).trans h.box,⟨A,c,A',c',(key _ (h.lt _ h.inT.1) (.inl h.inT.1)).trans h1,row_frame h2 fun z hz=>key z (h.lt z (h4 z hz)) (.inl (h4 z hz)),row_frame h3 fun z hz=>key z (h.lt z (h5 z hz)) (.inl (h5 z hz)),h4,h5⟩,
  h.sm.same (key _ (h.lt _ h.inT.2.1) (.inl h.inT.2.1)),h.pm.same (key _ (h.lt _ h.inT.2.2) (.inl h.inT.2.2)),h.inT,fun k hk=>Nat.lt_of_lt_of_le (h.lt k hk) ho.size,h.ne⟩
structure LM (w0 w:World)(T0 T:Nat→Prop)(pb pa ms mp:Nat)(g:GA)(bw bd nb:Nat)(A:Option Addr)(m cap d:Nat)(f:Bool)(i:Nat)(rs:List ByteArray):Prop where
 bm:BM w T pb pa ms mp g
 fr:Fr T0 T w0 w
 cw:w.heap[bw]?=some (.cells #[.slice A m cap] 24 (0,0))
 cd:w.heap[bd]?=some (.cells #[.int .i64 d] 3 (0,0))
 cn:w.heap[nb]?=some (.cells #[.bool f,.int .i32 ((i:Int)-1)] 144 (0,0))
 nt:¬T bw∧¬T bd∧¬T nb
 lo:w0.heap.size≤bw∧w0.heap.size≤bd∧w0.heap.size≤nb
 ne:bw≠bd∧bw≠nb∧bd≠nb
 pb0:pb<w0.heap.size
 tx:m=0∨∃q off,A=some ⟨q,off,none⟩∧¬T q∧q<w0.heap.size∧m≤cap∧cap≤maxLen∧∀(j:Nat) s,j<m→rs[j]?=some s→w.cell? ⟨q,off+j,none⟩=some (.string s)
variable {w0 w w' : World} {T0 T T' : Nat → Prop} {pb pa ms mp : Nat} {g g' : GA} {bw bd nb : Nat} {A : Option Addr} {m cap d : Nat} {f : Bool} {i : Nat} {rs : List ByteArray}
theorem LM.call (h:LM w0 w T0 T pb pa ms mp g bw bd nb A m cap d f i rs)(hf:Fr T T' w w')(hb:BM w' T' pb pa ms mp g'):LM w0 w' T0 T' pb pa ms mp g' bw bd nb A m cap d f i rs:=by
 obtain⟨n1,n2,n3⟩:=h.nt;refine⟨hb,h.fr.trans hf,hf.block h.cw n1,hf.block h.cd n2,hf.block h.cn n3,⟨hf.out (Array.getElem?_eq_some_iff.1 h.cw).1 n1,hf.out (Array.getElem?_eq_some_iff.1 h.cd).1 n2,hf.out (Array.getElem?_eq_some_iff.1 h.cn).1 n3⟩,h.lo,h.ne,h.pb0,?_⟩;rcases h.tx with h0|⟨q,off,e,k1,k2,k3,k4,k5⟩
 ·exact .inl h0
 ·exact .inr ⟨q,off,e,hf.out (Nat.lt_of_lt_of_le k2 h.fr.only.size) k1,k2,k3,k4,fun j s hj hs=>hf.cell (k5 j s hj hs) k1⟩
theorem LM.keep (h:LM w0 w T0 T pb pa ms mp g bw bd nb A m cap d f i rs)(hb:Below w.heap.size w w'):LM w0 w' T0 T pb pa ms mp g bw bd nb A m cap d f i rs:=h.call (Fr.of_below hb) (h.bm.keep hb)
theorem Fr.other (h:Fr T0 T w0 w){b:Nat}(ho:OnlyAt (fun z=>z=b) w w')(hb:w0.heap.size≤b):Fr T0 T w0 w':=by
 have hs:=h.only.size;refine⟨⟨ho.os.trans h.only.os,ho.tape.trans h.only.tape,ho.output.trans h.only.output,Nat.le_trans hs ho.size,fun k hk hn=>?_⟩,h.new⟩;exact(ho.block k (Nat.lt_of_lt_of_le hk hs) (fun e=>by omega)).trans (h.only.block k hk hn)
theorem heap_other {w:World}{k:Nat}(p:Addr)(v:Value)(h:k<w.heap.size)(hn:k≠p.block):(w.setCell p v).heap[k]?=w.heap[k]?:=(only1 w p v).block k h hn
theorem LM.setW (h:LM w0 w T0 T pb pa ms mp g bw bd nb A m cap d f i rs){m':Nat}(hm:m'≤m):LM w0 (w.setCell ⟨bw,0,none⟩ (.slice A m' cap)) T0 T pb pa ms mp g bw bd nb A m' cap d f i rs:=by
 obtain⟨n1,n2,n3⟩:=h.nt;have ho:=only1 w ⟨bw,0,none⟩ (.slice A m' cap);refine⟨h.bm.other ho n1 (by have:=h.lo;have:=h.pb0;simp only;omega),h.fr.other ho h.lo.1,by have:=heap_set (o:=0) h.cw (.slice A m' cap);simpa using this,(heap_other _ _ (Array.getElem?_eq_some_iff.1 h.cd).1 (fun e=>h.ne.1 e.symm)).trans h.cd,(heap_other _ _ (Array.getElem?_eq_some_iff.1 h.cn).1 (fun e=>h.ne.2.1 e.symm)).trans h.cn,h.nt,h.lo,h.ne,h.pb0,?_⟩;rcases h.tx with h0|⟨q,off,e,k1,k2,k3,k4,k5⟩
 ·exact .inl (by omega)
 ·refine .inr ⟨q,off,e,k1,k2,by omega,k4,fun j s hj hs=>?_⟩;have h1:=k5 j s (by omega) hs;refine Eq.trans ?_ h1;unfold World.cell?;dsimp only;rw[heap_other _ _ (by have:=h.fr.only.size;omega) (by have:=h.lo;simp only;omega)]
theorem LM.setN (h:LM w0 w T0 T pb pa ms mp g bw bd nb A m cap d f i rs)(i':Nat)(v:Value)(hv:v= .int .i32 ((i':Int)-1)):LM w0 (w.setCell ⟨nb,1,none⟩ v) T0 T pb pa ms mp g bw bd nb A m cap d f i' rs:=by
 subst hv;obtain⟨n1,n2,n3⟩:=h.nt;have ho:=only1 w ⟨nb,1,none⟩ (.int .i32 ((i':Int)-1));refine⟨h.bm.other ho n3 (by have:=h.lo;have:=h.pb0;simp only;omega),h.fr.other ho h.lo.2.2,(heap_other _ _ (Array.getElem?_eq_some_iff.1 h.cw).1 h.ne.2.1).trans h.cw,(heap_other _ _ (Array.getElem?_eq_some_iff.1 h.cd).1 h.ne.2.2).trans h.cd,by have:=heap_set (o:=1) h.cn (.int .i32 ((i':Int)-1));simpa using this,h.nt,h.lo,h.ne,h.pb0,?_⟩;rcases h.tx with h0|⟨q,off,e,k1,k2,k3,k4,k5⟩
 ·exact .inl h0
 ·refine .inr ⟨q,off,e,k1,k2,k3,k4,fun j s hj hs=>?_⟩;refine Eq.trans ?_ (k5 j s hj hs);unfold World.cell?;dsimp only;rw[heap_other _ _ (by have:=h.fr.only.size;omega) (by have:=h.lo;simp only;omega)]
theorem LM.setF (h:LM w0 w T0 T pb pa ms mp g bw bd nb A m cap d f i rs)(f':Bool):LM w0 (w.setCell ⟨nb,0,none⟩ (.bool f')) T0 T pb pa ms mp g bw bd nb A m cap d f' i rs:=by
 obtain⟨n1,n2,n3⟩:=h.nt;have ho:=only1 w ⟨nb,0,none⟩ (.bool f');refine⟨h.bm.other ho n3 (by have:=h.lo;have:=h.pb0;simp only;omega),h.fr.other ho h.lo.2.2,(heap_other _ _ (Array.getElem?_eq_some_iff.1 h.cw).1 h.ne.2.1).trans h.cw,(heap_other _ _ (Array.getElem?_eq_some_iff.1 h.cd).1 h.ne.2.2).trans h.cd,by have:=heap_set (o:=0) h.cn (.bool f');simpa using this,h.nt,h.lo,h.ne,h.pb0,?_⟩;rcases h.tx with h0|⟨q,off,e,k1,k2,k3,k4,k5⟩
 ·exact .inl h0
 ·refine .inr ⟨q,off,e,k1,k2,k3,k4,fun j s hj hs=>?_⟩;refine Eq.trans ?_ (k5 j s hj hs);unfold World.cell?;dsimp only;rw[heap_other _ _ (by have:=h.fr.only.size;omega) (by have:=h.lo;simp only;omega)]
theorem LM.skip {q off:Nat}{s:ByteArray}(h:LM w0 w T0 T pb pa ms mp g bw bd nb (some ⟨q,off,none⟩) (m+1) cap d f i (s::rs)):LM w0 (w.setCell ⟨bw,0,none⟩ (.slice (some ⟨q,off+1,none⟩) m (cap-1))) T0 T pb pa ms mp g bw bd nb (some ⟨q,off+1,none⟩) m (cap-1) d f i rs:=by
 obtain⟨n1,n2,n3⟩:=h.nt;have ho:=only1 w ⟨bw,0,none⟩ (.slice (some ⟨q,off+1,none⟩) m (cap-1));refine⟨h.bm.other ho n1 (by have:=h.lo;have:=h.pb0;simp only;omega),h.fr.other ho h.lo.1,by have:=heap_set (o:=0) h.cw (.slice (some ⟨q,off+1,none⟩) m (cap-1));simpa using this,(heap_other _ _ (Array.getElem?_eq_some_iff.1 h.cd).1 (fun e=>h.ne.1 e.symm)).trans h.cd,(heap_other _ _ (Array.getElem?_eq_some_iff.1 h.cn).1 (fun e=>h.ne.2.1 e.symm)).trans h.cn,h.nt,h.lo,h.ne,h.pb0,?_⟩;rcases h.tx with h0|⟨q',off',e,k1,k2,k3,k4,k5⟩
 ·omega
 ·cases e;refine .inr ⟨q,off+1,rfl,k1,k2,by omega,by omega,fun j t hj ht=>?_⟩;have h1:=k5 (j+1) t (by omega) (by simpa using ht);rw[show off+1+j=off+(j+1)by omega];refine Eq.trans ?_ h1;unfold World.cell?;dsimp only;rw[heap_other _ _ (by have:=h.fr.only.size;omega) (by have:=h.lo;simp only;omega)]
theorem LM.skip0 {s:ByteArray}{A':Option Addr}{cap':Nat}(h:LM w0 w T0 T pb pa ms mp g bw bd nb A m cap d f i (s::rs)):LM w0 (w.setCell ⟨bw,0,none⟩ (.slice A' 0 cap')) T0 T pb pa ms mp g bw bd nb A' 0 cap' d f i rs:=by
 obtain⟨n1,n2,n3⟩:=h.nt;have ho:=only1 w ⟨bw,0,none⟩ (.slice A' 0 cap');exact⟨h.bm.other ho n1 (by have:=h.lo;have:=h.pb0;simp only;omega),h.fr.other ho h.lo.1,by have:=heap_set (o:=0) h.cw (.slice A' 0 cap');simpa using this,(heap_other _ _ (Array.getElem?_eq_some_iff.1 h.cd).1 (fun e=>h.ne.1 e.symm)).trans h.cd,(heap_other _ _ (Array.getElem?_eq_some_iff.1 h.cn).1 (fun e=>h.ne.2.1 e.symm)).trans h.cn,h.nt,h.lo,h.ne,h.pb0,.inl rfl⟩
theorem LM.other {b:Nat}(h:LM w0 w T0 T pb pa ms mp g bw bd nb A m cap d f i rs)(ho:OnlyAt (fun z=>z=b) w w')(hb:w0.heap.size≤b)(hn:¬T b)(h3:b≠bw∧b≠bd∧b≠nb):LM w0 w' T0 T pb pa ms mp g bw bd nb A m cap d f i rs:=by
 have key:∀k o,w.heap[k]?=some o→k≠b→w'.heap[k]?=some o:=fun k o hk hne=>(ho.block k (Array.getElem?_eq_some_iff.1 hk).1 hne).trans hk;refine⟨h.bm.other ho hn (by have:=h.pb0;omega),h.fr.other ho hb,key _ _ h.cw (fun e=>h3.1 e.symm),key _ _ h.cd (fun e=>h3.2.1 e.symm),key _ _ h.cn (fun e=>h3.2.2 e.symm),h.nt,h.lo,h.ne,h.pb0,?_⟩;rcases h.tx with h0|⟨q,off,e,k1,k2,k3,k4,k5⟩
 ·exact .inl h0
 ·refine .inr ⟨q,off,e,k1,k2,k3,k4,fun j s hj hs=>?_⟩;refine Eq.trans ?_ (k5 j s hj hs);unfold World.cell?;dsimp only;rw[ho.block q (by have:=h.fr.only.size;omega) (by omega)]
theorem LM.cells (h:LM w0 w T0 T pb pa ms mp g bw bd nb A m cap d f i rs):w.cell? ⟨bw,0,none⟩=some (.slice A m cap)∧w.cell? ⟨bd,0,none⟩=some (.int .i64 d)∧w.cell? ⟨nb,0,none⟩=some (.bool f)∧w.cell? ⟨nb,1,none⟩=some (.int .i32 ((i:Int)-1))∧
  w.cell? ⟨pb,0,none⟩=some (.pointer (some ⟨pa,0,none⟩))∧w.cell? ⟨pb,1,none⟩=some (.map (some ms))∧w.cell? ⟨pb,2,none⟩=some (.map (some mp))∧w.frozen? ⟨bw,0,none⟩=false∧w.frozen? ⟨nb,1,none⟩=false∧w.frozen? ⟨nb,0,none⟩=false:=by
 have h1:=h.cw;have h2:=h.cd;have h3:=h.cn;have h4:=h.bm.box;refine⟨?_,?_,?_,?_,?_,?_,?_,?_,?_,?_⟩<;>simp[World.cell?,World.frozen?,h1,h2,h3,h4]
structure LP (g0 g:GA)(i:Nat)(R:List Bs):Prop where
 le:g0.Le g
 ar:([] ::g.A)[i]?=some R
 md:Made g0 g (SetR R)
 nn:g.nodes.length≤g0.nodes.length+wt R
 na:g.arcs.length≤g0.arcs.length+wt R
end Go.Proofs.YtfehpcbmdancoaaGreatDoor.Dw
namespace Go.Proofs.YtfehpcbmdancoaaGreatDoor.Dw
open Go Go.RowKit Go.Lib Go.Shelf
attribute [local go_sem] Oper.semAt_some alloc_set
theorem goes_miss {l:List (UInt8×Nat×Nat)}{c:UInt8}(h:∀x∈l,x.1≠c):goes l c=none:=by
 unfold goes;rw[List.find?_eq_none.2 (fun x hx=>by simpa using h x hx)];rfl
theorem goes_hit {pre:List (UInt8×Nat×Nat)}{x:UInt8×Nat×Nat}{l:List (UInt8×Nat×Nat)}{c:UInt8}(h:∀y∈pre,y.1≠c)(hx:x.1=c)(hp:(pre++[x]) <+:l):goes l c=some x.2.1:=by
 obtain⟨r,rfl⟩:=hp;unfold goes;rw[List.append_assoc,List.find?_append,List.find?_eq_none.2 (fun y hy=>by simpa using h y hy)];simp[hx]
theorem heap_up {w:World}{k:Nat}{o:Obj}(h:w.heap[k]?=some o)(o':Obj):(w.alloc o').heap[k]?=some o:=(Below.heap_alloc _ _ _ (Array.getElem?_eq_some_iff.1 h).1).trans h
theorem heap_top (w:World)(o:Obj){k:Nat}(hk:w.heap.size=k):(w.alloc o).heap[k]?=some o:=hk▸World.alloc_heap_new w o
theorem keeps_below {R:Nat→Prop}{w w':World}(h:Below w.heap.size w w'):KeepsAt R w w':=⟨h.size,fun k hk _=>h.block k hk⟩
structure NI (w w5:World)(R:Nat→Prop)(N:Nat)(c:UInt8)(v1 v2:Value)(T:Nat→Prop)(W':World):Prop where
 box:W'.heap[N]?=some (.cells #[.int .u8 c.toNat] 5 (0,0))
 r1:W'.heap[N+1]?=some (.cells #[v1] 3 (0,0))
 r2:W'.heap[N+1+1]?=some (.cells #[v2] 4 (0,0))
 low:∀k,T k→w5.heap.size≤k
 keep:KeepsAt R w5 W'
 below:Below N w W'
theorem NI.turn {w w5:World}{R:Nat→Prop}{N:Nat}{c:UInt8}{v1 v2:Value}{T T':Nat→Prop}{U V:World}(h:NI w w5 R N c v1 v2 T U)(hR:∀k,R k→k<w5.heap.size)(hN:N+1+1<w5.heap.size)(ho:OnlyAt T U V)(ht:∀k,T' k→T k∨(U.heap.size≤k∧k<V.heap.size)):NI w w5 R N c v1 v2 T' V:=by
 have hs:=h.keep.size;have key:∀k,k<w5.heap.size→V.heap[k]?=U.heap[k]?:=fun k hk=>ho.block k (by omega) (fun hh=>by have:=h.low k hh;omega);refine⟨(key N (by omega)).trans h.box,(key _ (by omega)).trans h.r1,(key _ hN).trans h.r2,fun k hk=>?_,h.keep.trans ⟨ho.size,fun k _ hr=>key k (hR k hr)⟩,OnlyAt.below h.below ho (by omega) (fun k hk=>by have:=h.low k hk;omega)⟩;rcases ht k hk with h1|h1
 ·exact h.low k h1
 ·omega
theorem NI.set {w w5:World}{R:Nat→Prop}{N:Nat}{c:UInt8}{v1 v2:Value}{T:Nat→Prop}{W':World}(h:NI w w5 R N c v1 v2 T W')(hw:N=w.heap.size)(hN:N+1+1<w5.heap.size)(hR:∀k,R k→k≠N+1∧k≠N+1+1)(u1 u2:Value):
  NI w w5 R N c u1 u2 T ((W'.setCell ⟨N+1,0,none⟩ u1).setCell ⟨N+1+1,0,none⟩ u2)∧KeepsAt (fun k=>R k∨T k) W' ((W'.setCell ⟨N+1,0,none⟩ u1).setCell ⟨N+1+1,0,none⟩ u2):=by
 have h5:=h.keep.size;have l1:=(Array.getElem?_eq_some_iff.1 h.r1).1;have l2:=(Array.getElem?_eq_some_iff.1 h.r2).1;have ho:OnlyAt (fun k=>k=N+1∨k=N+1+1) W' ((W'.setCell ⟨N+1,0,none⟩ u1).setCell ⟨N+1+1,0,none⟩ u2):=((only1 W' ⟨N+1,0,none⟩ u1).mono fun _ e=> .inl e).trans ((only1 _ ⟨N+1+1,0,none⟩ u2).mono fun _ e=> .inr e);have hk:KeepsAt (fun k=>R k∨T k) W' ((W'.setCell ⟨N+1,0,none⟩ u1).setCell ⟨N+1+1,0,none⟩ u2):=KeepsAt.of_only ho fun k hk=>by
  rcases hk with hk|hk
  ·have:=hR k hk;omega
  ·have:=h.low k hk;omega
 refine⟨⟨(ho.block N (by omega) (by omega)).trans h.box,?_,?_,h.low,h.keep.trans (hk.mono fun _ hr=> .inl hr),OnlyAt.below h.below ho (by omega) (fun k hk=>by omega)⟩,hk⟩
 ·refine(heap_other _ _ (by rw[show (W'.setCell ⟨N+1,0,none⟩ u1).heap.size=W'.heap.size by simp[World.setCell]];exact l1) (by simp)).trans ?_;have:=heap_set (o:=0) h.r1 u1;simpa using this
 ·have e:(W'.setCell ⟨N+1,0,none⟩ u1).heap[N+1+1]?=some (.cells #[v2] 4 (0,0)):=(heap_other _ _ l2 (by simp)).trans h.r2;have:=heap_set (o:=0) e u2;simpa using this
theorem next_res {w w5:World}{R:Nat→Prop}{N:Nat}{c:UInt8}{v1 v2:Value}{T:Nat→Prop}{W':World}{Dd:Nat}{o:Obj}(h:NI w w5 R N c v1 v2 T W')(hD:N+1+1<Dd):(W'.putObj Dd o).cell? ⟨N+1,0,none⟩=some v1∧(W'.putObj Dd o).cell? ⟨N+1+1,0,none⟩=some v2∧Below N w (W'.putObj Dd o):=by
 have e1:(W'.putObj Dd o).heap[N+1]?=_:=(World.putObj_heap_other (by omega)).trans h.r1;have e2:(W'.putObj Dd o).heap[N+1+1]?=_:=(World.putObj_heap_other (by omega)).trans h.r2;refine⟨by simp[World.cell?,e1],by simp[World.cell?,e2],OnlyAt.below h.below (OnlyAt.putObj (T:=fun k=>k=Dd) _ _ _ rfl) (by have:=(Array.getElem?_eq_some_iff.1 h.box).1;omega) (fun k hk=>by omega)⟩
theorem next_any (w:World)(p:Nat)(g:GA)(st:Nat)(h:AutoAt w p g st)(s:Int)(c:UInt8):
  Calls Tryz.prog 41 #[.pointer (some ⟨p,0,none⟩),.int .i64 s,.int .u8 c.toNat] w fun e w'=>e= .returned (match goes (g.out s) c with|some t=> .tuple #[.int .i64 t,.bool true] |none=> .tuple #[.int .i64 0,.bool false])∧Below w.heap.size w w':=by
 obtain⟨ANS,hANS⟩:∃v,v=(match goes (g.out s) c with|some t=>Value.tuple #[.int .i64 t,.bool true] |none=> .tuple #[.int .i64 0,.bool false]):=⟨_,rfl⟩;rw[←hANS];have HANS:=hid hANS;clear hANS;obtain⟨N,hN⟩:∃N,N=w.heap.size:=⟨_,rfl⟩;obtain⟨w3,hw3⟩:∃w3,w3=((w.alloc (.cells #[.int .u8 c.toNat] 5)).alloc (.cells #[.int .i64 0] 3)).alloc (.cells #[.bool false] 4):=⟨_,rfl⟩;obtain⟨w5,hw5⟩:∃w5,w5=(w3.alloc (.cells #[.pointer (some ⟨p,0,none⟩)] 45)).alloc (.cells #[.int .i64 s] 3):=⟨_,rfl⟩;have hs3:w3.heap.size=N+1+1+1:=by rw[hw3,hN];simp
 have hs5:w5.heap.size=N+5:=by rw[hw5];simp[hs3]
 have hb3:Below w.heap.size w w3:=by rw[hw3];exact(((Below.refl _ w).alloc (Nat.le_refl _) _).alloc (by simp) _).alloc (by simp;omega) _
 have hb35:Below w3.heap.size w3 w5:=by rw[hw5];exact((Below.refl _ w3).alloc (Nat.le_refl _) _).alloc (by simp) _
 have hb5:Below w.heap.size w w5:=hb3.trans (hb35.mono hb3.size);have q0:w5.heap[N]?=some (.cells #[.int .u8 c.toNat] 5 (0,0)):=by
  refine(hb35.block N (by omega)).trans ?_;rw[hw3];exact heap_up (heap_up (heap_top _ _ hN.symm) _) _
 have q1:w5.heap[N+1]?=some (.cells #[.int .i64 0] 3 (0,0)):=by
  refine(hb35.block (N+1) (by omega)).trans ?_;rw[hw3];exact heap_up (heap_top _ _ (by rw[World.size_alloc,hN])) _
 have q2:w5.heap[N+1+1]?=some (.cells #[.bool false] 4 (0,0)):=by
  refine(hb35.block (N+1+1) (by omega)).trans ?_;rw[hw3];exact heap_top _ _ (by simp only[World.size_alloc];omega)
 have p0:w5.cell? ⟨N+1+1+1,0,none⟩=some (.pointer (some ⟨p,0,none⟩)):=by
  have:w5.heap[N+1+1+1]?=some (.cells #[.pointer (some ⟨p,0,none⟩)] 45 (0,0)):=by rw[hw5];exact heap_up (heap_top _ _ hs3) _
  simp[World.cell?,this]
 have p1:w5.cell? ⟨N+1+1+1+1,0,none⟩=some (.int .i64 s):=by
  have:w5.heap[N+1+1+1+1]?=some (.cells #[.int .i64 s] 3 (0,0)):=by rw[hw5];exact heap_top _ _ (by rw[World.size_alloc,hs3])
  simp[World.cell?,this]
 obtain⟨R,hR⟩:∃R:Nat→Prop,R=fun k=>k<N∨k=N+1+1+1∨k=N+1+1+1+1:=⟨_,rfl⟩;have hRlt:∀k,R k→k<w5.heap.size:=fun k hk=>by rw[hR]at hk;omega
 have hdat:∀W',KeepsAt R w5 W'→AutoAt W' p g st∧W'.cell? ⟨N+1+1+1,0,none⟩=some (.pointer (some ⟨p,0,none⟩))∧W'.cell? ⟨N+1+1+1+1,0,none⟩=some (.int .i64 s):=fun W' hk=>
  ⟨h.cells fun a v ha=>cell_kept hk ((cell_old hb5 (World.block_lt_of_cell? _ _ ha)).trans ha) (by rw[hR];left;rw[hN];exact World.block_lt_of_cell? _ _ ha),cell_kept hk p0 (by rw[hR];right;left;rfl),cell_kept hk p1 (by rw[hR];right;right;rfl)⟩
 have HI0:=hid (show NI w w5 R N c (.int .i64 0) (.bool false) (fun _=>False) w5 from ⟨q0,q1,q2,fun _ h=>h.elim,KeepsAt.refl _ _,hN▸hb5⟩);have HD:=hid (And.intro hdat (And.intro hRlt (And.intro hs5 hN)));have HW:=hid (And.intro hw3 hw5);have HRN:=hid (show∀k,R k→k≠N+1∧k≠N+1+1 from fun k hk=>by rw[hR]at hk;omega);have HTL:=hid (show∀x∈g.out s,x.2.1≤1000000000 from fun x hx=>by
  unfold GA.out at hx;split at hx
  ·cases hg:g.nodes[s.toNat]? with
   | none=>rw[hg]at hx;cases hx
   | some y=>
     rw[hg]at hx;obtain⟨L,h1,-⟩:=h.ok.node _ y.1 y.2 hg;obtain⟨M,h2,-⟩:=(chain_ok h.ok y.2 L h1).2.there x hx;have:=(List.getElem?_eq_some_iff.1 h2).1;have:=h.ok.nl;have:=h.bd.1;omega
  ·cases hx)
 have CL:=hid (fun wx=>leaving_call (some ⟨p,0,none⟩) s wx);clear hs3 hs5 hb3 hb35 hb5 q0 q1 q2 p0 p1 hdat hRlt h hw3 hw5 hR;refine(callsIn_wide (n:=6)).1 ?_;refine callsIn_of_wp_marks Tryz.func41 rfl trivial ?_ rfl;simp only[Tryz.ntmps41,List.size_toArray,List.length_cons,List.length_nil,Nat.reduceAdd,Nat.reduceSub,Array.replicate_succ,Array.replicate_zero,List.push_toArray,List.append_toArray,List.nil_append,List.cons_append];gi_wp2_with (refine ⟨trivial,?_⟩;gi_at_call 88;refine(callsIn_wide.2 (CL.out _)).mono ?_;rintro e w1 ⟨rfl,rfl⟩);rw[←HW.out.1,←HW.out.2,←hN];have hN0:Hid (N=w.heap.size):=hid hN;clear HW CL hN;refine wpIn_stops (R:=R) (gf:=136) (lb:=#[.pointer (some ⟨N+1+1+1,0,none⟩),.pointer (some ⟨N+1+1+1+1,0,none⟩)]) rfl (enters_of Tryz.func136 (by kernel_rfl) rfl) (by omega) (encs:=aEnc) (Adm:=fun pre x=>(pre++[x]) <+:g.out s) (S:=fun xs=>xs=g.out s)
  (fun W1 ho=>leaving_stops p g st s _ _ R W1 (fun W' hk=>HD.out.1 W' ((KeepsAt.of_only ho (fun _ _ h=>h)).trans hk)) (fun k hk=>Nat.lt_of_lt_of_le (HD.out.2.1 k hk) ho.size))
  (fun _=>rfl) HD.out.2.1
  (fun T pre W'=>NI w w5 R N c (.int .i64 0) (.bool false) T W'∧∀x∈pre,x.1≠c) ?stab
  (fun cd T xs W'=>cd= .ret∧∃t,goes (g.out s) c=some t∧NI w w5 R N c (.int .i64 t) (.bool true) T W') ?stabx ⟨HI0.out,fun x hx=>by cases hx⟩
  (fun T pre x a' W'=>(NI w w5 R N c (.int .i64 0) (.bool false) T W'∧∀x∈pre,x.1≠c)∧∃B8,(W'.heap[B8]?=some (.cells #[.int .u8 x.1.toNat,.int .i32 x.2.1,.int .i32 ((x.2.2:Int)-1)] 149 (0,0))∧¬T B8∧w5.heap.size≤B8)∧a'={ tmps:=#[.pointer (some ⟨p,0,none⟩),.int .i64 s,.int .u8 c.toNat,undef,undef,.pointer (some ⟨N,0,none⟩),.pointer (some ⟨N+1,0,none⟩),.pointer (some ⟨N+1+1,0,none⟩),.pointer (some ⟨B8,0,none⟩),.pointer (some ⟨p,0,none⟩),.int .i64 s,.func (.func 136) #[] #[.pointer (some ⟨N+1+1+1,0,none⟩),.pointer (some ⟨N+1+1+1+1,0,none⟩)],.agg #[.int .u8 x.1.toNat,.int .i32 x.2.1,.int .i32 ((x.2.2:Int)-1)],undef,undef,undef,undef,undef,undef,undef],defers:=[] })
  ?staba ?assign ?body ?done ?stop
 case stab=>
  rintro T T' pre U V ⟨h1,h2⟩ ho ht;exact⟨h1.turn HD.out.2.1 (by have:=HD.out.2.2.1;omega) ho ht,h2⟩
 case stabx=>
  rintro cd T T' xs U V ⟨rfl,t,h1,h2⟩ ho ht;exact⟨rfl,t,h1,h2.turn HD.out.2.1 (by have:=HD.out.2.2.1;omega) ho ht⟩
 case staba=>
  rintro pre x a' T T' _ U V ⟨⟨h1,h2⟩,B8,⟨h3,h4,h5⟩,ha⟩ ho ht;have hlt:=(Array.getElem?_eq_some_iff.1 h3).1;refine⟨⟨h1.turn HD.out.2.1 (by have:=HD.out.2.2.1;omega) ho ht,h2⟩,B8,⟨(ho.block B8 hlt h4).trans h3,fun hh=>?_,h5⟩,ha⟩;rcases ht B8 hh with h'|h'
  ·exact h4 h'
  ·omega
 case assign=>
  rintro l2 T pre x W' K hadm ⟨h1,h2⟩ hlt hK;have HK:=hid hK;have hba:Below W'.heap.size W' (W'.alloc (.cells #[.int .u8 x.1.toNat,.int .i32 x.2.1,.int .i32 ((x.2.2:Int)-1)] 149)):=(Below.refl _ _).alloc (Nat.le_refl _) _;have H1:=hid (show (NI w w5 R N c (.int .i64 0) (.bool false) T (W'.alloc (.cells #[.int .u8 x.1.toNat,.int .i32 x.2.1,.int .i32 ((x.2.2:Int)-1)] 149))∧∀x∈pre,x.1≠c)∧OnlyAt (fun _=>False) W' (W'.alloc (.cells #[.int .u8 x.1.toNat,.int .i32 x.2.1,.int .i32 ((x.2.2:Int)-1)] 149))∧¬T W'.heap.size∧w5.heap.size≤W'.heap.size from ⟨⟨h1.turn HD.out.2.1 (by have:=HD.out.2.2.1;omega) (OnlyAt.of_below hba) (fun k hk=> .inl hk),h2⟩,OnlyAt.of_below hba,fun hh=>by have:=hlt _ hh;omega,h1.keep.size⟩);simp only[aEnc];clear h1 h2 hba hK hlt hadm;gi_wp2;exact HK.out _ _ H1.out.2.1 ⟨H1.out.1,_,⟨World.alloc_heap_new _ _,H1.out.2.2.1,H1.out.2.2.2⟩,rfl⟩
 case body=>
  rintro l2 T pre x a' W' hadm ⟨⟨h1,h2⟩,B8,⟨h3,h4,h5⟩,rfl⟩ hlt;have c0:W'.cell? ⟨B8,0,none⟩=some (.int .u8 x.1.toNat):=by simp[World.cell?,h3]
  have c1:W'.cell? ⟨B8,1,none⟩=some (.int .i32 x.2.1):=by simp[World.cell?,h3]
  have hb:=h1.box;have e0:W'.cell? ⟨N,0,none⟩=some (.int .u8 c.toNat):=by simp[World.cell?,hb]
  have hr1:=h1.r1;have hr2:=h1.r2;have y1:W'.cell? ⟨N+1,0,none⟩=some (.int .i64 0):=by simp[World.cell?,hr1]
  have y2:W'.cell? ⟨N+1+1,0,none⟩=some (.bool false):=by simp[World.cell?,hr2]
  have f1:W'.frozen? ⟨N+1,0,none⟩=false:=by simp[World.frozen?,hr1]
  have f2:W'.frozen? ⟨N+1+1,0,none⟩=false:=by simp[World.frozen?,hr2]
  have hx9:=HTL.out x (List.IsPrefix.mem (l₁:=pre++[x]) (by simp) hadm);obtain⟨cx,tx,nx⟩:=x;dsimp only at c0 c1 hx9 h3;have nw:IntKind.i64.wrap (tx:Int)=tx:=IntWalk.i64_in _ (by omega);have HB:=hid (And.intro h1 (And.intro h2 (And.intro hadm (And.intro hlt (And.intro hr1 hr2)))));clear h1 h2 h3 h4 h5 hb hr1 hr2 hadm hlt;by_cases hc:cx=c
  ·subst hc;have hc1:((cx.toNat:Int)==(cx.toNat:Int))=true:=by simp
   obtain⟨h1,h2,h3,h4,h5,h6⟩:=HB.out;have hq:=h1.set hN0.out (by have:=HD.out.2.2.1;omega) HRN.out (.int .i64 tx) (.bool true);have y3:(W'.setCell ⟨N+1,0,none⟩ (.int .i64 tx)).cell? ⟨N+1+1,0,none⟩=some (.bool false):=by
    refine Eq.trans ?_ y2;unfold World.cell?;dsimp only;rw[heap_other _ _ (World.block_lt_of_cell? _ _ y2) (by simp)]
   have f3:(W'.setCell ⟨N+1,0,none⟩ (.int .i64 tx)).frozen? ⟨N+1+1,0,none⟩=false:=by
    refine Eq.trans ?_ f2;unfold World.frozen?;dsimp only;rw[heap_other _ _ (World.block_lt_of_cell? _ _ y2) (by simp)]
   have HQ:=hid (And.intro (goes_hit h2 (rfl:(cx,tx,nx).1=cx) h3) hq);clear h1 h2 h3 h4 h5 h6 hq HB;gi_wp2;exact⟨⟨rfl,tx,HQ.out.1,HQ.out.2.1⟩,HQ.out.2.2⟩
  ·have hc1:((cx.toNat:Int)==(c.toNat:Int))=false:=by
    rw[beq_eq_false_iff_ne];intro e;exact hc (UInt8.toNat_inj.1 (by omega))
   have HC:=hid hc;clear hc;gi_wp2;refine⟨⟨HB.out.1,fun y hy=>?_⟩,KeepsAt.refl _ _⟩;rcases List.mem_append.1 hy with hy|hy
   ·exact HB.out.2.1 y hy
   ·simp at hy;subst hy;exact HC.out
 case done=>
  rintro Dd T xs W' hD hTD rfl ⟨h1,h2⟩ hK;have hr1:=h1.r1;have hr2:=h1.r2;have y1:W'.cell? ⟨N+1,0,none⟩=some (.int .i64 0):=by simp[World.cell?,hr1]
  have y2:W'.cell? ⟨N+1+1,0,none⟩=some (.bool false):=by simp[World.cell?,hr2]
  have f1:W'.frozen? ⟨N+1,0,none⟩=false:=by simp[World.frozen?,hr1]
  have f2:W'.frozen? ⟨N+1+1,0,none⟩=false:=by simp[World.frozen?,hr2]
  have y3:(W'.setCell ⟨N+1,0,none⟩ (.int .i64 0)).cell? ⟨N+1+1,0,none⟩=some (.bool false):=by
   refine Eq.trans ?_ y2;unfold World.cell?;dsimp only;rw[heap_other _ _ (World.block_lt_of_cell? _ _ y2) (by simp)]
  have f3:(W'.setCell ⟨N+1,0,none⟩ (.int .i64 0)).frozen? ⟨N+1+1,0,none⟩=false:=by
   refine Eq.trans ?_ f2;unfold World.frozen?;dsimp only;rw[heap_other _ _ (World.block_lt_of_cell? _ _ y2) (by simp)]
  have ha:ANS= .tuple #[.int .i64 0,.bool false]:=by rw[HANS.out,goes_miss h2]
  subst ha;have hq:=h1.set hN0.out (by have:=HD.out.2.2.1;omega) HRN.out (.int .i64 0) (.bool false);have hKd:((W'.setCell ⟨N+1,0,none⟩ (.int .i64 0)).setCell ⟨N+1+1,0,none⟩ (.bool false)).heap[Dd]?=some (.deferred (some [])):=by
   have hl:=(Array.getElem?_eq_some_iff.1 hK).1;have h5:=HD.out.2.2.1;exact(heap_other _ _ (by rw[show (W'.setCell ⟨N+1,0,none⟩ (.int .i64 0)).heap.size=W'.heap.size by simp[World.setCell]];exact hl) (by simp only;omega)).trans ((heap_other _ _ hl (by simp only;omega)).trans hK)
  have HQ:=hid (And.intro hq.1 (And.intro hKd (by have:=HD.out.2.2.1;omega:N+1+1<Dd)));clear h1 h2 hr1 hr2 hq hKd hK;gi_wp2;refine⟨by simp,.inl ⟨_,_,rfl,run_takeDeferred HQ.out.2.1,?_⟩⟩;have z1:=next_res HQ.out.1 HQ.out.2.2 (Dd:=Dd) (o:= .deferred none);refine⟨.tuple #[.int .i64 0,.bool false],by simp[results,Tryz.results41,go_sem,z1.1,z1.2.1],rfl,?_⟩;rw[←hN0.out];exact z1.2.2
 case stop=>
  rintro Dd T cd xs W' hD hTD ⟨rfl,t,h1,h2⟩ hK;have ha:ANS= .tuple #[.int .i64 t,.bool true]:=by rw[HANS.out,h1]
  subst ha;have HQ:=hid (And.intro h2 (And.intro hK (by have:=HD.out.2.2.1;omega:N+1+1<Dd)));clear h1 h2 hK;gi_wp2;refine⟨by simp,.inl ⟨_,_,rfl,run_takeDeferred HQ.out.2.1,?_⟩⟩;have z1:=next_res HQ.out.1 HQ.out.2.2 (Dd:=Dd) (o:= .deferred none);refine⟨.tuple #[.int .i64 t,.bool true],by simp[results,Tryz.results41,go_sem,z1.1,z1.2.1],rfl,?_⟩;rw[←hN0.out];exact z1.2.2
end Go.Proofs.YtfehpcbmdancoaaGreatDoor.Dw
namespace Go.Proofs.YtfehpcbmdancoaaGreatDoor.Dw
open Go Go.RowKit Go.Lib Go.Shelf
attribute [local go_sem] alloc_set
theorem state_step (h:Nat)(IH:∀h',h'+1=h→StSays h'):StSays h:=by
 intro w T pb pa ms mp g A n cap ws d hbm htx hsrt hsz hdh hn hnn hna;obtain⟨w3,hw3⟩:∃w3,w3=((w.alloc (.cells #[.slice A n cap] 24)).alloc (.cells #[.int .i64 d] 3)).alloc (.cells #[.bool false,.int .i32 (-1)] 144):=⟨_,rfl⟩;have hb3:Below w.heap.size w w3:=by rw[hw3];exact(((Below.refl _ w).alloc (Nat.le_refl _) _).alloc (by simp) _).alloc (by simp;omega) _
 have hLM:LM w w3 T T pb pa ms mp g w.heap.size (w.heap.size+1) (w.heap.size+1+1) A n cap d false 0 ws:=by
  have hs1:(w.alloc (.cells #[.slice A n cap] 24)).heap.size=w.heap.size+1:=World.size_alloc _ _;have hs2:((w.alloc (.cells #[.slice A n cap] 24)).alloc (.cells #[.int .i64 d] 3)).heap.size=w.heap.size+2:=by rw[World.size_alloc,hs1]
  refine⟨hbm.keep hb3,Fr.of_below hb3,?_,?_,?_,⟨fun ht=>?_,fun ht=>?_,fun ht=>?_⟩,⟨by omega,by omega,by omega⟩,⟨by omega,by omega,by omega⟩,hbm.pb_lt,?_⟩
  ·rw[hw3];exact(Below.heap_alloc _ _ _ (by omega)).trans ((Below.heap_alloc _ _ _ (by omega)).trans (World.alloc_heap_new w _))
  ·rw[hw3];refine(Below.heap_alloc _ _ _ (by omega)).trans ?_;have:=World.alloc_heap_new (w.alloc (.cells #[.slice A n cap] 24)) (.cells #[.int .i64 d] 3);rwa[hs1]at this
  ·rw[hw3];have:=World.alloc_heap_new ((w.alloc (.cells #[.slice A n cap] 24)).alloc (.cells #[.int .i64 d] 3)) (.cells #[.bool false,.int .i32 (-1)] 144);rwa[hs2]at this
  ·have:=hbm.lt _ ht;omega
  ·have:=hbm.lt _ ht;omega
  ·have:=hbm.lt _ ht;omega
  ·rcases htx.2 with h0|⟨q,off,e,k1,k2,k3,k4,k5⟩
   ·exact .inl h0
   ·exact .inr ⟨q,off,e,k1,k2,k3,k4,fun j s _ hs=>(cell_old hb3 k2).trans (k5 j s hs)⟩
 have hLP:LP g g 0 []:=⟨GA.Le.refl _,rfl,Made.start g,Nat.le_refl _,Nat.le_refl _⟩;have HLM:=hid hLM;have HLP:=hid hLP;have HT:=hid (And.intro htx (And.intro hsrt (And.intro hsz (And.intro hnn hna))));have HIH:=hid IH;have HW:=hid hw3;obtain⟨VW,hVW⟩:∃VW,VW=ws.map (tailD d):=⟨_,rfl⟩;rw[←hVW];have HVW:=hid hVW;clear hbm htx hsrt hsz hnn hna IH hb3 hLM hLP hw3 hVW;go_enter Tryz.func116,Tryz.ntmps116;go_upto_region 2 with fail;rw[←HW.out];obtain⟨bw,hbw⟩:∃b,b=w.heap.size:=⟨_,rfl⟩;obtain⟨bd,hbd⟩:∃b,b=w.heap.size+1:=⟨_,rfl⟩;obtain⟨nb,hnb⟩:∃b,b=w.heap.size+1+1:=⟨_,rfl⟩;rw[←hnb,←hbd,←hbw]at HLM;rw[←hnb,←hbd,←hbw];clear HW hbw hbd hnb;obtain⟨f,rs,m,hfrs⟩:∃(f:Bool) (rs:List ByteArray) (m:Nat),Hid (Grp rs d∧ws.map (tailD d)=fins f++rs.map (tailD d)∧m=rs.length∧(∀s∈rs,s∈ws)∧((f=false∧rs=ws∧m=n∧(n=0∨∃s,ws[0]?=some s∧d<s.size))∨(f=true∧n=m+1∧∃s,ws=s::rs∧s.size=d))):=by
  have hnl:=HT.out.1.1;rcases first_split HT.out.2.1 (fun s hs=>(HT.out.2.2.1 s hs).1)with ⟨e,hg⟩|⟨s,rs,e,hs,hg,hm⟩|⟨s,rs,e,hs,hg⟩
  ·exact⟨false,ws,n,hid ⟨hg,rfl,hnl,fun _ h=>h,.inl ⟨rfl,rfl,rfl,.inl (by rw[hnl,e];rfl)⟩⟩⟩
  ·exact⟨true,rs,rs.length,hid ⟨hg,hm,rfl,fun t ht=>by rw[e];exact List.mem_cons_of_mem _ ht,.inr ⟨rfl,by rw[hnl,e];rfl,s,e,hs⟩⟩⟩
  ·exact⟨false,ws,n,hid ⟨hg,rfl,hnl,fun _ h=>h,.inl ⟨rfl,rfl,rfl,.inr ⟨s,by rw[e];rfl,hs⟩⟩⟩⟩
 obtain⟨x1,x2,x3,x4,x5,x6,x7,x8,x9,x10⟩:=HLM.out.cells;go_cut [22] (fun b wx=>b= .bool f∧Hid (LM w wx T T pb pa ms mp g bw bd nb A n cap d false 0 ws))
 case first=>
  have HKN:=hid (show∀q,LM w (w3.drewN q) T T pb pa ms mp g bw bd nb A n cap d false 0 ws from fun q=>HLM.out.keep ⟨rfl,rfl,rfl,Nat.le_refl _,fun _ _=>rfl⟩);have HFR:=hid hfrs.out.2.2.2.2;clear hfrs;have hn0:(0:Int)≤n:=by omega
  by_cases hz:n=0
  ·obtain rfl:f=false:=by
    rcases HFR.out with ⟨e,_⟩|⟨_,e,_⟩
    ·exact e
    ·omega
   subst hz;go_quiet (fail);go_wp2_with fail;go_meet;exact⟨rfl,hid (HKN.out _)⟩
  ·obtain⟨s,hs,hsf⟩:∃s,ws[0]?=some s∧((s.size:Int)==(d:Int))=f:=by
    rcases HFR.out with ⟨e,_,_,e0|⟨s,hs,hd⟩⟩|⟨e,_,s,hs,hd⟩
    ·omega
    ·exact⟨s,hs,by rw[e,beq_eq_false_iff_ne];omega⟩
    ·exact⟨s,by rw[hs];rfl,by rw[e,beq_iff_eq];omega⟩
   obtain⟨q,off,rfl,hq,hcell⟩:∃q off,A=some ⟨q,off,none⟩∧n≤cap∧w3.cell? ⟨q,off,none⟩=some (.string s):=by
    rcases HLM.out.tx with h0|⟨q,off,e,_,_,k3,_,k5⟩
    ·exact absurd h0 hz
    ·exact⟨q,off,e,k3,by have:=k5 0 s (by omega) hs;rwa[Nat.add_zero]at this⟩
   have hn1:(0:Int)<n:=by omega
   have hn2:0<n:=by omega
   clear hs hz;cases f
   ·go_quiet (fail);go_wp2_with fail;go_meet;exact⟨rfl,hid (HKN.out _)⟩
   ·go_quiet (fail);go_wp2_with fail;go_meet;exact⟨rfl,hid (HKN.out _)⟩
 case rest=>
 obtain⟨rfl,HL1⟩:=hcut;clear x1 x2 x3 x4 x5 x6 x7 x8 x9 x10 HLM;go_step;go_cut [7] (fun s7 wx=>s7= .pointer (some ⟨nb,0,none⟩)∧Hid (∃A' cap',LM w wx T T pb pa ms mp g bw bd nb A' m cap' d f 0 rs))
 case first=>
  rcases hfrs.out.2.2.2.2 with ⟨rfl,rfl,rfl,_⟩|⟨rfl,hnm,s,hs,_⟩
  ·clear hfrs;go_wp2_with fail;go_meet;exact⟨rfl,hid ⟨_,_,HL1.out⟩⟩
  ·subst hs hnm;obtain⟨q,off,rfl,hq⟩:∃q off,A=some ⟨q,off,none⟩∧m+1≤cap:=by
    rcases HL1.out.tx with h0|⟨q,off,e,_,_,k3,_⟩
    ·omega
    ·exact⟨q,off,e,k3⟩
   have HL2:=hid (HL1.out.setF true);have HL3:=hid HL2.out.skip;obtain⟨x1,x2,x3,x4,x5,x6,x7,x8,x9,x10⟩:=HL1.out.cells;obtain⟨y1,y2,y3,y4,y5,y6,y7,y8,y9,y10⟩:=HL2.out.cells;have hm0:(0:Int)≤m:=by omega
   clear hfrs;by_cases hc1:cap=1
   ·obtain rfl:m=0:=by omega
    subst hc1;have HL4:=hid (HL2.out.skip0 (A':=some ⟨q,off,none⟩) (cap':=0));clear HL3;go_wp2_with fail;go_meet;exact⟨rfl,hid ⟨_,_,HL4.out⟩⟩
   ·have hc2:1<cap:=by omega
    go_wp2_with fail;go_meet;exact⟨rfl,hid ⟨_,_,HL3.out⟩⟩
 case rest=>
 obtain⟨rfl,HLQ⟩:=hcut;obtain⟨A',cap',hlm⟩:=HLQ.out;have HLM:=hid hlm;have HG:=hid (show Grp rs d∧m=rs.length∧(∀s∈rs,d<s.size∧s.size≤d+h)∧(g.nodes.length+wt (rs.map (tailD d))+1≤1000000000∧g.arcs.length+wt (rs.map (tailD d))≤1000000000)∧VW=fins f++rs.map (tailD d)from by
  obtain⟨h1,h2,h3,h4,h5⟩:=hfrs.out;obtain⟨-,-,k1,k2,k3⟩:=HT.out;rw[h2,wt_app,wt_fins,Nat.zero_add]at k2 k3;exact⟨h1,h3,fun s hs=>⟨h1.long s hs,(k1 s (h4 s hs)).2⟩,⟨k2,k3⟩,HVW.out.trans h2⟩)
 have hmn:m≤1000000:=by
  rcases hfrs.out.2.2.2.2 with ⟨_,_,e,_⟩|⟨_,e,_⟩<;>omega
 clear hlm HLQ HT hfrs HL1 HVW hn;go_wp2_with fail;go_loopg [9] m (fun gh x wr=>gh≤m∧Hid (∃T' g' i,LM w wr T T' pb pa ms mp g' bw bd nb A' gh cap' d f i rs∧LP g g' i ((rs.map (tailD d)).drop gh)∧Sep rs d gh))
 case atStart=>
  refine⟨Nat.le_refl _,hid ⟨T,g,0,HLM.out,?_,?_⟩⟩
  ·rw[HG.out.2.1,List.drop_of_length_le (by rw[List.length_map];exact Nat.le_refl _)];exact HLP.out
  ·rw[HG.out.2.1];exact Sep.all _ _
 case round=>
  obtain⟨hgm,HR⟩:=hrel;clear HLM HLP;obtain⟨T',g',i,hlm,hlp,hsep⟩:=HR.out;have HLM:=hid hlm;have HLP:=hid (And.intro hlp hsep);clear hlm hlp hsep HR;obtain⟨x1,x2,x3,x4,x5,x6,x7,x8,x9,x10⟩:=HLM.out.cells;rcases Nat.eq_zero_or_pos gk with h0|h0
  ·subst h0;have CE:=hid (show Calls Tryz.prog 179 #[.map (some ms),.pointer (some ⟨pa,0,none⟩),.agg #[.bool f,.int .i32 ((i:Int)-1)]] wr.drew (StPost w T pb pa ms mp g VW)from by
    have hl:=HLM.out.keep (Below.refl _ wr).drew;obtain⟨p1,p2,p3,p4,p5⟩:=HLP.out.1;rw[List.drop_zero]at p2 p3 p4 p5;have hb1:=HG.out.2.2.2.1;have hV:=HG.out.2.2.2.2;refine(numN_any hl.bm f i (rs.map (tailD d)) p2 (by omega) (by omega)).mono ?_;rintro e w' ⟨T3,g3,n',he,hb3,hf3,q1,q2,q3,q4,q5⟩;have hwV:wt VW=wt (rs.map (tailD d)):=by rw[hV,wt_app,wt_fins,Nat.zero_add]
    refine⟨T3,g3,n',he,hb3,hl.fr.trans hf3,p1.trans q1,by rw[hV];exact q2,?_,by omega,by rw[q4];omega⟩;rw[hV];exact p3.end_ q1 q3 (List.mem_of_getElem? q2))
   clear HLM HLP HG HIH;go_upto_region 11 with fail
   go_still_tail 11,(by kernel_rfl)
   change wpList _ _ _ _ _ wr.drew;clear x1 x2 x3 x4 x5 x6 x7 x8 x9 x10;go_wp2_with (go_at_call 179;refine CE.out.mono ?_;rintro e w5 hpost;obtain⟨T3,g3,n3,rfl,hpr⟩:=hpost;have HPR:=hid hpr;clear hpr);go_ret;exact⟨T3,g3,n3,rfl,HPR.out⟩
  ·obtain⟨q,off,rfl,hqc⟩:∃q off,A'=some ⟨q,off,none⟩∧gk≤cap':=by
    rcases HLM.out.tx with h1|⟨q,off,e,_,_,k3,_⟩
    ·omega
    ·exact⟨q,off,e,k3⟩
   obtain⟨s,hs1,hs2,-⟩:=HG.out.1.at_ (i:=gk-1) (by have:=HG.out.2.1;omega);have hcell:wr.cell? ⟨q,off+(gk-1),none⟩=some (.string s):=by
    rcases HLM.out.tx with h1|⟨q',off',e,_,_,k3,_,k5⟩
    ·omega
    ·cases e;exact k5 _ s (by omega) hs1
   obtain⟨by_,hby⟩:∃b,b=hdOf rs d (gk-1):=⟨_,rfl⟩;rw[←hby]at hs2;have hds:d<s.size:=(HG.out.2.2.1 s (List.mem_of_getElem? hs1)).1;obtain⟨c',hc',hget⟩:=byte_at hds;rw[hs2]at hc';cases hc';have i0:(0:Int)≤(gk:Int)-1:=by omega
   have i1:(gk:Int)-1<gk:=by omega
   have i2:((gk:Int)-1).toNat=gk-1:=by omega
   have i3:IntKind.i64.wrap ((gk:Int)-1)=(gk:Int)-1:=IntWalk.i64_in _ (by omega);have d0:(0:Int)≤d:=by omega
   have d1:(d:Int)<s.size:=by omega
   have g0:(0:Int)<gk:=by omega
   have g1:(1:Int)≤gk:=by omega
   have HBY:=hid hby
   have HSZ:=hid (HG.out.2.2.1 s (List.mem_of_getElem? hs1));have hba:Below wr.heap.size wr (wr.alloc (.cells #[.int .u8 0] 5)):=(Below.refl _ _).alloc (Nat.le_refl _) _;have kc:∀p v,wr.cell? p=some v→(wr.alloc (.cells #[.int .u8 0] 5)).drew.cell? p=some v:=fun p v hp=>(cell_old hba (World.block_lt_of_cell? _ _ hp)).trans hp;have z1:=kc _ _ x1;have z2:=kc _ _ x2;have z3:=kc _ _ hcell;have z4:(wr.alloc (.cells #[.int .u8 0] 5)).drew.cell? ⟨wr.heap.size,0,none⟩=some (.int .u8 0):=new_cell _ _ _ 0;have z5:(wr.alloc (.cells #[.int .u8 0] 5)).drew.frozen? ⟨wr.heap.size,0,none⟩=false:=by
    have:=World.alloc_heap_new wr (.cells #[.int .u8 0] 5);unfold World.frozen?;dsimp only;rw[show (wr.alloc (.cells #[.int .u8 0] 5)).drew.heap[wr.heap.size]?=_ from this];simp
   have HBA:=hid hba;clear hs1 hs2 hby kc hba;go_upto_region 6 with fail;go_cut [8] (fun p wx=>∃b8,p= .pointer (some ⟨b8,0,none⟩)∧Hid (wr.heap.size≤b8∧Below wr.heap.size wr wx∧wx.heap[b8]?=some (.cells #[.int .u8 by_.toNat] 5 (0,0))))
   case first=>
    go_region
    all_goals go_wp2_with fail
    all_goals go_meet
    exact⟨_,rfl,hid ⟨Nat.le_refl _,((Below.refl _ wr).alloc (Nat.le_refl _) _).drew,World.alloc_heap_new wr _⟩⟩
   case rest=>
   obtain⟨b8,rfl,H8⟩:=hcut;have HLM8:=hid (HLM.out.keep H8.out.2.1);have HT8:=hid (show¬T' b8 from fun ht=>by have:=HLM.out.bm.lt _ ht;have:=H8.out.1;omega);clear x1 x2 x3 x4 x5 x6 x7 x8 x9 x10 z1 z2 z3 z4 z5 HBA hcell hget HLM;obtain⟨x1,x2,x3,x4,x5,x6,x7,x8,x9,x10⟩:=HLM8.out.cells;have c8:wc.cell? ⟨b8,0,none⟩=some (.int .u8 by_.toNat):=by simp[World.cell?,H8.out.2.2]
   have CS:=hid (search_any wc bw bd b8 (some ⟨q,off,none⟩) gk cap' d by_ rs ⟨x1,x2,c8,fun j t hj ht=>by
    rcases HLM8.out.tx with h1|⟨q',off',e,_,_,k3,_,k5⟩
    ·omega
    ·exact⟨q',off',e,k3,k5 j t hj ht⟩⟩ (hdOf rs d) (by omega) (fun j hj=>by
    obtain⟨t,e1,e2,_⟩:=HG.out.1.at_ (i:=j) (by have:=HG.out.2.1;omega);exact⟨t,e1,e2⟩) (fun a b hab hb=>HG.out.1.mono a b hab (by have:=HG.out.2.1;omega)))
   go_upto_region 8 with(go_at_call 176;refine CS.out.mono ?_;rintro e w2 ⟨k,rfl,hk,hb2⟩;have HK:=hid hk;have HB2:=hid hb2;clear hk hb2);have HLM2:=hid (HLM8.out.keep HB2.out);have c8':=(cell_old (p:=⟨b8,0,none⟩) HB2.out (World.block_lt_of_cell? _ _ c8)).trans c8;clear x1 x2 x3 x4 x5 x6 x7 x8 x9 x10 c8 CS HLM8;obtain⟨x1,x2,x3,x4,x5,x6,x7,x8,x9,x10⟩:=HLM2.out.cells;obtain⟨hkm,hM0,hsplit,hab,hsrt,hsep⟩:=HG.out.1.step (m:=gk) (k:=k) h0 (by have:=HG.out.2.1;omega) HLP.out.2 HK.out.1 (by rw[←HBY.out];exact HK.out.2.1) (by rw[←HBY.out];exact HK.out.2.2);rw[←HBY.out]at hsplit hab;obtain⟨GM,hGM⟩:∃GM,GM=grpM rs d k gk:=⟨_,rfl⟩;rw[←hGM]at hM0 hsplit hsrt;have k0:(0:Int)≤k:=by omega
   have k1:(k:Int)≤gk:=by omega
   have k2:k≤gk:=by omega
   have k3:k<cap':=by omega
   have k4:¬cap'=k:=by omega
   have dd:IntKind.i64.wrap ((d:Int)+1)=(d:Int)+1:=IntWalk.i64_in _ (by omega);have HS:=hid (And.intro hM0 (And.intro hsplit (And.intro hab (And.intro hsrt (And.intro hsep hGM)))));have HWT:=hid (show wt ((rs.map (tailD d)).drop k)=wt (GM.map (tailD (d+1)))+GM.length+wt ((rs.map (tailD d)).drop gk)∧wt ((rs.map (tailD d)).drop k)≤wt (rs.map (tailD d))∧0<GM.length from by
    refine⟨by rw[hsplit,wt_app,wt_map,List.length_map],?_,?_⟩
    ·conv=>rhs;rw[←List.take_append_drop k (rs.map (tailD d)),wt_app]
     exact Nat.le_add_left _ _
    ·cases GM with
     | nil=>exact absurd rfl hM0
     | cons x r=>exact Nat.succ_pos _)
   clear hM0 hsplit hab hsrt hsep hGM;have CALL:∀W,Below w2.heap.size w2 W→Calls Tryz.prog 116 #[.pointer (some ⟨pb,0,none⟩),.slice (some ⟨q,off+k,none⟩) (gk-k) (cap'-k),.int .i64 ((d:Int)+1)] W fun e w'=>∃(T2:Nat→Prop) (g2:GA) (t:Nat),e= .returned (.int .i32 t)∧LM w w' T T2 pb pa ms mp g2 bw bd nb (some ⟨q,off,none⟩) gk cap' d f i rs∧Fr T' T2 W w'∧
     (g'.Le g2∧g2.N[t]?=some (GM.map (tailD (d+1)))∧Made g' g2 (SetS (GM.map (tailD (d+1))))∧g2.nodes.length≤g'.nodes.length+wt (GM.map (tailD (d+1)))+1∧g2.arcs.length≤g'.arcs.length+wt (GM.map (tailD (d+1)))):=by
    intro W hW;have hLW:=HLM2.out.keep hW;obtain⟨e1,e2,e3,e4,e5,e6⟩:=HS.out;have hlen:GM.length=gk-k:=by rw[e6];unfold grpM;rw[List.length_drop,List.length_take];have:=HG.out.2.1;omega
    have hmem:∀t∈GM,t∈rs:=fun t ht=>by rw[e6]at ht;exact List.mem_of_mem_take (List.mem_of_mem_drop ht)
    obtain⟨h',hh⟩:∃h',h'+1=h:=by
     have:d<s.size∧s.size≤d+h:=HSZ.out;exact⟨h-1,by omega⟩
    obtain⟨hwt,hwl,hwp⟩:=HWT.out;have hb1:=HG.out.2.2.2.1;have hn1:=HLP.out.1.nn;have hn2:=HLP.out.1.na;have hc:=HIH.out h' hh W T' pb pa ms mp g' (some ⟨q,off+k,none⟩) (gk-k) (cap'-k) GM (d+1) hLW.bm ⟨hlen.symm,.inr (by
     rcases hLW.tx with h1|⟨q',off',e,j1,j2,j3,j4,j5⟩
     ·omega
     ·cases e;refine⟨q,off+k,rfl,j1,by have:=hLW.fr.only.size;omega,by omega,by omega,fun j t hj=>?_⟩;rw[e6]at hj;unfold grpM at hj;rw[List.getElem?_drop]at hj;rw[List.getElem?_take]at hj;split at hj
      ·rw[Nat.add_assoc];exact j5 (k+j) t (by omega) hj
      ·cases hj)⟩ e4 (fun t ht=>by have:=HG.out.2.2.1 t (hmem t ht);omega) (by omega) (by omega) (by omega) (by omega)
    rw[show ((d+1:Nat):Int)=(d:Int)+1 by omega]at hc;refine hc.mono ?_;rintro e w' ⟨T2,g2,t,he,hbm2,hfr2,r1,r2,r3,r4,r5⟩;exact⟨T2,g2,t,he,hLW.call hfr2 hbm2,hfr2,r1,r2,r3,r4,r5⟩
   go_cut [10] (fun p wx=>∃b10:Nat,p= .pointer (some ⟨b10,0,none⟩)∧Hid (∃(T2:Nat→Prop) (g2:GA) (t:Nat),LM w wx T T2 pb pa ms mp g2 bw bd nb (some ⟨q,off,none⟩) gk cap' d f i rs∧wx.heap[b10]?=some (.cells #[.int .u8 by_.toNat,.int .i32 t,.int .i32 ((i:Int)-1)] 149 (0,0))∧
    g'.Le g2∧g2.N[t]?=some (GM.map (tailD (d+1)))∧Made g' g2 (SetS (GM.map (tailD (d+1))))∧g2.nodes.length≤g'.nodes.length+wt (GM.map (tailD (d+1)))+1∧g2.arcs.length≤g'.arcs.length+wt (GM.map (tailD (d+1)))))
   case first=>
    have SUP:=hid (show∀(W:World) (o:Obj),(W.cell? ⟨bw,0,none⟩=some (.slice (some ⟨q,off,none⟩) gk cap')∧W.cell? ⟨bd,0,none⟩=some (.int .i64 d)∧W.cell? ⟨nb,1,none⟩=some (.int .i32 ((i:Int)-1))∧W.cell? ⟨b8,0,none⟩=some (.int .u8 by_.toNat))→((W.alloc o).cell? ⟨bw,0,none⟩=some (.slice (some ⟨q,off,none⟩) gk cap')∧(W.alloc o).cell? ⟨bd,0,none⟩=some (.int .i64 d)∧(W.alloc o).cell? ⟨nb,1,none⟩=some (.int .i32 ((i:Int)-1))∧(W.alloc o).cell? ⟨b8,0,none⟩=some (.int .u8 by_.toNat))from fun W o hs=>by
     have ka:∀p v,W.cell? p=some v→(W.alloc o).cell? p=some v:=fun p v hp=>(cell_old ((Below.refl W.heap.size W).alloc (Nat.le_refl _) _) (World.block_lt_of_cell? _ _ hp)).trans hp;exact⟨ka _ _ hs.1,ka _ _ hs.2.1,ka _ _ hs.2.2.1,ka _ _ hs.2.2.2⟩)
    have hlt4:bw<w2.heap.size∧bd<w2.heap.size∧nb<w2.heap.size∧b8<w2.heap.size:=⟨World.block_lt_of_cell? _ _ x1,World.block_lt_of_cell? _ _ x2,World.block_lt_of_cell? _ _ x4,World.block_lt_of_cell? _ _ c8'⟩;have SET:=hid (show∀(W:World) v0 v1 v2,(W.cell? ⟨bw,0,none⟩=some (.slice (some ⟨q,off,none⟩) gk cap')∧W.cell? ⟨bd,0,none⟩=some (.int .i64 d)∧W.cell? ⟨nb,1,none⟩=some (.int .i32 ((i:Int)-1))∧W.cell? ⟨b8,0,none⟩=some (.int .u8 by_.toNat))→((((W.setCell ⟨w2.heap.size,0,none⟩ v0).setCell ⟨w2.heap.size,1,none⟩ v1).setCell ⟨w2.heap.size,2,none⟩ v2).cell? ⟨bw,0,none⟩=some (.slice (some ⟨q,off,none⟩) gk cap')∧(((W.setCell ⟨w2.heap.size,0,none⟩ v0).setCell ⟨w2.heap.size,1,none⟩ v1).setCell ⟨w2.heap.size,2,none⟩ v2).cell? ⟨bd,0,none⟩=some (.int .i64 d)∧(((W.setCell ⟨w2.heap.size,0,none⟩ v0).setCell ⟨w2.heap.size,1,none⟩ v1).setCell ⟨w2.heap.size,2,none⟩ v2).cell? ⟨nb,1,none⟩=some (.int .i32 ((i:Int)-1))∧(((W.setCell ⟨w2.heap.size,0,none⟩ v0).setCell ⟨w2.heap.size,1,none⟩ v1).setCell ⟨w2.heap.size,2,none⟩ v2).cell? ⟨b8,0,none⟩=some (.int .u8 by_.toNat))from fun W v0 v1 v2 hs=>by
     have ka:∀b o v,b<w2.heap.size→W.cell? ⟨b,o,none⟩=some v→(((W.setCell ⟨w2.heap.size,0,none⟩ v0).setCell ⟨w2.heap.size,1,none⟩ v1).setCell ⟨w2.heap.size,2,none⟩ v2).cell? ⟨b,o,none⟩=some v:=fun b o v hb hp=>by
      have ho:=((only1 W ⟨w2.heap.size,0,none⟩ v0).trans (only1 _ ⟨w2.heap.size,1,none⟩ v1)).trans (only1 _ ⟨w2.heap.size,2,none⟩ v2);refine Eq.trans ?_ hp;unfold World.cell?;dsimp only;rw[ho.block b (World.block_lt_of_cell? _ _ hp) (by simp only;omega)]
     exact⟨ka _ _ _ hlt4.1 hs.1,ka _ _ _ hlt4.2.1 hs.2.1,ka _ _ _ hlt4.2.2.1 hs.2.2.1,ka _ _ _ hlt4.2.2.2 hs.2.2.2⟩)
    have CA:=hid (show Calls Tryz.prog 116 #[.pointer (some ⟨pb,0,none⟩),.slice (some ⟨q,off+k,none⟩) (gk-k) (cap'-k),.int .i64 ((d:Int)+1)] w2.drew fun e w'=>∃t:Nat,e= .returned (.int .i32 t)∧(w'.cell? ⟨bw,0,none⟩=some (.slice (some ⟨q,off,none⟩) gk cap')∧w'.cell? ⟨bd,0,none⟩=some (.int .i64 d)∧w'.cell? ⟨nb,1,none⟩=some (.int .i32 ((i:Int)-1))∧w'.cell? ⟨b8,0,none⟩=some (.int .u8 by_.toNat))∧
     Hid (∃(T2:Nat→Prop) (g2:GA),LM w w' T T2 pb pa ms mp g2 bw bd nb (some ⟨q,off,none⟩) gk cap' d f i rs∧g'.Le g2∧g2.N[t]?=some (GM.map (tailD (d+1)))∧Made g' g2 (SetS (GM.map (tailD (d+1))))∧g2.nodes.length≤g'.nodes.length+wt (GM.map (tailD (d+1)))+1∧g2.arcs.length≤g'.arcs.length+wt (GM.map (tailD (d+1))))from by
     refine(CALL w2.drew (Below.refl _ w2).drew).mono ?_;rintro e w' ⟨T2,g2,t,he,hl,hf,hr⟩;have hcs:=hl.cells;exact⟨t,he,⟨hcs.1,hcs.2.1,hcs.2.2.2.1,hf.cell (p:=⟨b8,0,none⟩) c8' HT8.out⟩,hid ⟨T2,g2,hl,hr⟩⟩)
    have CB:=hid (show Calls Tryz.prog 116 #[.pointer (some ⟨pb,0,none⟩),.slice (some ⟨q,off+k,none⟩) (gk-k) (cap'-k),.int .i64 ((d:Int)+1)] (w2.alloc (.cells #[.int .u8 0,.int .i32 0,.int .i32 0] 149)).drew fun e w'=>∃t:Nat,e= .returned (.int .i32 t)∧(w'.cell? ⟨bw,0,none⟩=some (.slice (some ⟨q,off,none⟩) gk cap')∧w'.cell? ⟨bd,0,none⟩=some (.int .i64 d)∧w'.cell? ⟨nb,1,none⟩=some (.int .i32 ((i:Int)-1))∧w'.cell? ⟨b8,0,none⟩=some (.int .u8 by_.toNat))∧
      (w'.cell? ⟨w2.heap.size,0,none⟩=some (.int .u8 0)∧w'.cell? ⟨w2.heap.size,1,none⟩=some (.int .i32 0)∧w'.cell? ⟨w2.heap.size,2,none⟩=some (.int .i32 0)∧∀o,w'.frozen? ⟨w2.heap.size,o,none⟩=false)∧
     Hid ((∃(T2:Nat→Prop) (g2:GA),(LM w w' T T2 pb pa ms mp g2 bw bd nb (some ⟨q,off,none⟩) gk cap' d f i rs∧¬T2 w2.heap.size)∧g'.Le g2∧g2.N[t]?=some (GM.map (tailD (d+1)))∧Made g' g2 (SetS (GM.map (tailD (d+1))))∧g2.nodes.length≤g'.nodes.length+wt (GM.map (tailD (d+1)))+1∧g2.arcs.length≤g'.arcs.length+wt (GM.map (tailD (d+1))))∧w'.heap[w2.heap.size]?=some (.cells #[.int .u8 0,.int .i32 0,.int .i32 0] 149 (0,0)))from by
     refine(CALL _ ((Below.refl _ w2).alloc (Nat.le_refl _) _).drew).mono ?_;rintro e w' ⟨T2,g2,t,he,hl,hf,hr⟩;have hcs:=hl.cells;have hnew:(w2.alloc (.cells #[.int .u8 0,.int .i32 0,.int .i32 0] 149)).drew.heap[w2.heap.size]?=some (.cells #[.int .u8 0,.int .i32 0,.int .i32 0] 149 (0,0)):=World.alloc_heap_new w2 _;have hnt:¬T' w2.heap.size:=fun ht=>by have:=HLM2.out.bm.lt _ ht;omega
     have h10:=hf.block hnew hnt;have c8b:(w2.alloc (.cells #[.int .u8 0,.int .i32 0,.int .i32 0] 149)).drew.cell? ⟨b8,0,none⟩=some (.int .u8 by_.toNat):=(cell_old (p:=⟨b8,0,none⟩) ((Below.refl _ w2).alloc (Nat.le_refl _) (.cells #[.int .u8 0,.int .i32 0,.int .i32 0] 149)) (World.block_lt_of_cell? _ _ c8')).trans c8';refine⟨t,he,⟨hcs.1,hcs.2.1,hcs.2.2.2.1,hf.cell (p:=⟨b8,0,none⟩) c8b HT8.out⟩,⟨by simp[World.cell?,h10],by simp[World.cell?,h10],by simp[World.cell?,h10],fun o=>by simp[World.frozen?,h10]⟩,hid ⟨⟨T2,g2,⟨hl,hf.out (Array.getElem?_eq_some_iff.1 hnew).1 hnt⟩,hr⟩,h10⟩⟩)
    have SS0:=hid (show w2.drew.cell? ⟨bw,0,none⟩=some (.slice (some ⟨q,off,none⟩) gk cap')∧w2.drew.cell? ⟨bd,0,none⟩=some (.int .i64 d)∧w2.drew.cell? ⟨nb,1,none⟩=some (.int .i32 ((i:Int)-1))∧w2.drew.cell? ⟨b8,0,none⟩=some (.int .u8 by_.toNat)from ⟨x1,x2,x4,c8'⟩);have SS1:=hid (show (w2.alloc (.cells #[.int .u8 0,.int .i32 0,.int .i32 0] 149)).drew.cell? ⟨bw,0,none⟩=some (.slice (some ⟨q,off,none⟩) gk cap')∧(w2.alloc (.cells #[.int .u8 0,.int .i32 0,.int .i32 0] 149)).drew.cell? ⟨bd,0,none⟩=some (.int .i64 d)∧(w2.alloc (.cells #[.int .u8 0,.int .i32 0,.int .i32 0] 149)).drew.cell? ⟨nb,1,none⟩=some (.int .i32 ((i:Int)-1))∧(w2.alloc (.cells #[.int .u8 0,.int .i32 0,.int .i32 0] 149)).drew.cell? ⟨b8,0,none⟩=some (.int .u8 by_.toNat)from SUP.out w2 _ ⟨x1,x2,x4,c8'⟩);clear CALL x1 x2 x3 x4 x5 x6 x7 x8 x9 x10 c8';go_region_held3 (fun wx=>wx.cell? ⟨bw,0,none⟩=some (.slice (some ⟨q,off,none⟩) gk cap')∧wx.cell? ⟨bd,0,none⟩=some (.int .i64 d)∧wx.cell? ⟨nb,1,none⟩=some (.int .i32 ((i:Int)-1))∧wx.cell? ⟨b8,0,none⟩=some (.int .u8 by_.toNat))
     (first|exact SS0.out|exact SS1.out|assumption|exact SUP.out _ _ (by assumption)|exact SET.out _ _ _ _ (by assumption))
     (first
     | (go_at_call 116;(with_reducible refine CB.out.mono ?_);rintro e w5 ⟨t,rfl,hs5,⟨v3,v4,v5,v6⟩,HX5⟩)
     | (go_at_call 116;(with_reducible refine CA.out.mono ?_);rintro e w5 ⟨t,rfl,hs5,HX5⟩))
    all_goals
     first
     | (go_wp2_with fail;go_meet;exact⟨w5.heap.size,rfl,hid (by obtain⟨T2,g2,hl,hr⟩:=HX5.out;exact⟨T2,g2,t,hl.keep ((Below.refl _ w5).alloc (Nat.le_refl _) _),World.alloc_heap_new w5 _,hr⟩)⟩)
     | (go_wp2_with fail;go_meet;exact⟨w2.heap.size,rfl,hid (by
      obtain⟨⟨T2,g2,⟨hl,hn⟩,hr⟩,h10⟩:=HX5.out;have ho:=((only1 w5 ⟨w2.heap.size,0,none⟩ (.int .u8 by_.toNat)).trans (only1 _ ⟨w2.heap.size,1,none⟩ (.int .i32 t))).trans (only1 _ ⟨w2.heap.size,2,none⟩ (.int .i32 ((i:Int)-1)));have hlo:=HLM2.out.fr.only.size;have hl1:=(Array.getElem?_eq_some_iff.1 HLM2.out.cw).1;have hl2:=(Array.getElem?_eq_some_iff.1 HLM2.out.cd).1;have hl3:=(Array.getElem?_eq_some_iff.1 HLM2.out.cn).1;refine⟨T2,g2,t,hl.other (b:=w2.heap.size) ho hlo hn ⟨by omega,by omega,by omega⟩,?_,hr⟩;have e0:=heap_set (o:=2) (heap_set (o:=1) (heap_set (o:=0) h10 (.int .u8 by_.toNat)) (.int .i32 t)) (.int .i32 ((i:Int)-1));simpa using e0)⟩)
   case rest=>
   obtain⟨b10,rfl,HC⟩:=hcut;obtain⟨T2,g2,t,hlm3,h10,hle,hN,hmd,hn1,hn2⟩:=HC.out;have HLM3:=hid hlm3;have a0:wc.cell? ⟨b10,0,none⟩=some (.int .u8 by_.toNat):=by simp[World.cell?,h10]
   have a1:wc.cell? ⟨b10,1,none⟩=some (.int .i32 t):=by simp[World.cell?,h10]
   have a2:wc.cell? ⟨b10,2,none⟩=some (.int .i32 ((i:Int)-1)):=by simp[World.cell?,h10]
   have HG2:=hid (And.intro hle (And.intro hN (And.intro hmd (And.intro hn1 hn2))));clear hlm3 h10 hle hN hmd hn1 hn2 HC HLM2 HT8 HIH H8 HB2 c8';have CN:=hid (show Calls Tryz.prog 178 #[.map (some mp),.pointer (some ⟨pa,1,none⟩),.agg #[.int .u8 by_.toNat,.int .i32 t,.int .i32 ((i:Int)-1)]] wc.drew fun e w'=>∃n':Nat,e= .returned (.int .i32 n')∧(w'.cell? ⟨nb,1,none⟩=some (.int .i32 ((i:Int)-1))∧w'.frozen? ⟨nb,1,none⟩=false)∧
     Hid (∃(T3:Nat→Prop) (g3:GA),LM w w' T T3 pb pa ms mp g3 bw bd nb (some ⟨q,off,none⟩) gk cap' d f i rs∧g2.Le g3∧g3.A[n']?=some ((GM.map (tailD (d+1))).map (by_:: ·)++(rs.map (tailD d)).drop gk)∧g3.N=g2.N∧g3.nodes=g2.nodes∧g3.arcs.length≤g2.arcs.length+1)from by
    have hl3:=HLM3.out.keep (Below.refl _ wc).drew;obtain⟨k1,k2,k3,k4,k5⟩:=HG2.out;obtain⟨j1,j2,j3⟩:=HWT.out;have hb1:=HG.out.2.2.2.1;have m1:=HLP.out.1.nn;have m2:=HLP.out.1.na;refine(numA_any hl3.bm by_ t i (GM.map (tailD (d+1))) ((rs.map (tailD d)).drop gk) k2 (k1.A _ _ HLP.out.1.ar) HS.out.1 HS.out.2.2.1 (by omega) (by omega)).mono ?_;rintro e w' ⟨T3,g3,n',he,hb3,hf3,r⟩;have hl4:=hl3.call hf3 hb3;have hc4:=hl4.cells;exact⟨n',he,⟨hc4.2.2.2.1,hc4.2.2.2.2.2.2.2.2.1⟩,hid ⟨T3,g3,hl4,r⟩⟩)
   obtain⟨x1,x2,x3,x4,x5,x6,x7,x8,x9,x10⟩:=HLM3.out.cells;go_upto_region 9 with fail
   go_still_tail 11,(by kernel_rfl)
   change wpList _ _ _ _ _ wc.drew;have kk1:(k:Int)≤cap':=by omega
   clear x1 x2 x3 x4 x5 x6 x7 x8 x9 x10 a0 a1 a2 HLM3;go_upto_region 10 with(go_at_call 178;refine CN.out.mono ?_;rintro e w5 ⟨n',rfl,⟨v1,v2⟩,HX5⟩);obtain⟨T3,g3,hl5,r1,r2,r3,r4,r5⟩:=HX5.out;have HL6:=hid (hl5.setN (n'+1) (.int .i32 n') (by congr 1;omega));obtain⟨w6,hw6⟩:∃w6,w6=w5.setCell ⟨nb,1,none⟩ (.int .i32 n'):=⟨_,rfl⟩;rw[←hw6]at HL6⊢;have HL7:=hid (HL6.out.setW (m':=k) k2);have HLP3:=hid (show LP g g3 (n'+1) ((rs.map (tailD d)).drop k)from by
    obtain⟨k1,k2,k3,k4,k5⟩:=HG2.out;obtain⟨j1,j2,j3⟩:=HWT.out;obtain⟨p1,p2,p3,p4,p5⟩:=HLP.out.1;refine⟨(p1.trans k1).trans r1,?_,?_,?_,?_⟩
    ·rw[List.getElem?_cons_succ,r2,HS.out.2.1]
    ·rw[HS.out.2.1];exact(p3.step k3 k1 HS.out.1 HS.out.2.2.1).arcs r3
    ·rw[r4];omega
    ·omega)
   obtain⟨x1,x2,x3,x4,x5,x6,x7,x8,x9,x10⟩:=HL6.out.cells;clear hw6 hl5 r1 r2 r3 r4 r5 HX5 v1 v2 CN;go_wp2_with fail;go_roundg k
   case measure=>exact hkm
   case rel=>exact⟨by omega,hid ⟨T3,g3,n'+1,HL7.out,HLP3.out,HS.out.2.2.2.2.1⟩⟩
theorem state_all:∀h,StSays h
 | 0=>state_step 0 (fun _ e=>by omega)
 | h+1=>state_step (h+1) (fun _ e=>by cases e;exact state_all h)
end Go.Proofs.YtfehpcbmdancoaaGreatDoor.Dw
namespace Go.Proofs.YtfehpcbmdancoaaGreatDoor.Dw
open Go Go.RowKit Go.Lib Go.Shelf
attribute [local go_sem] alloc_set
structure AutoOf (g:GA)(st:Nat)(V:List Bs):Prop where
 start:g.N[st]?=some V
 set:∀L,L∈g.N↔SetS V L
theorem BM.auto {w:World}{T:Nat→Prop}{pb pa ms mp:Nat}{g:GA}(h:BM w T pb pa ms mp g){st:Nat}(hst:st<g.nodes.length)(hb:g.nodes.length≤1000000000∧g.arcs.length≤1000000000):AutoAt (w.setCell ⟨pa,2,none⟩ (.int .i64 st)) pa g st:=by
 obtain⟨A,c,A',c',h1,h2,h3,h4,h5⟩:=h.rows;have e:=heap_set (o:=2) h1 (.int .i64 st);have e':(w.setCell ⟨pa,2,none⟩ (.int .i64 st)).heap[pa]?=some (.cells #[.slice A g.nodes.length c,.slice A' g.arcs.length c',.int .i64 st] 84 (0,0)):=by simpa using e
 have len2:∀(l:List (Bool×Nat)),(l.flatMap nodeC).length=l.length*2:=fun l=>by
  induction l with
  | nil=>rfl
  | cons x l ih=>rw[List.flatMap_cons,List.length_append,ih,List.length_cons];simp[nodeC];omega
 have at2:∀(l:List (Bool×Nat)) (k:Nat) x,l[k]?=some x→(l.flatMap nodeC)[k*2]?=some (.bool x.1)∧(l.flatMap nodeC)[k*2+1]?=some (.int .i32 ((x.2:Int)-1)):=fun l=>by
  induction l with
  | nil=>intro k x hx;simp at hx
  | cons y l ih=>
    intro k x hx;cases k with
    | zero=>simp at hx;subst hx;exact⟨rfl,rfl⟩
    | succ k=>
      have:=ih k x (by simpa using hx);rw[show (k+1)*2=k*2+1+1 by omega];simpa[nodeC]using this
 have at3:∀(l:List (UInt8×Nat×Nat)) (k:Nat) x,l[k]?=some x→(l.flatMap arcC)[k*3]?=some (.int .u8 x.1.toNat)∧(l.flatMap arcC)[k*3+1]?=some (.int .i32 x.2.1)∧(l.flatMap arcC)[k*3+2]?=some (.int .i32 ((x.2.2:Int)-1)):=fun l=>by
  induction l with
  | nil=>intro k x hx;simp at hx
  | cons y l ih=>
    intro k x hx;cases k with
    | zero=>simp at hx;subst hx;exact⟨rfl,rfl,rfl⟩
    | succ k=>
      have:=ih k x (by simpa using hx);rw[show (k+1)*3=k*3+1+1+1 by omega];simpa[arcC]using this
 have hr2:=row_frame (w':=w.setCell ⟨pa,2,none⟩ (.int .i64 st)) h2 fun z hz=>heap_other _ _ (h2.lt z hz).2 (fun e=>row_ne h2 h1 (by decide) (by rw[hz,e]));have hr3:=row_frame (w':=w.setCell ⟨pa,2,none⟩ (.int .i64 st)) h3 fun z hz=>heap_other _ _ (h3.lt z hz).2 (fun e=>row_ne h3 h1 (by decide) (by rw[hz,e]));refine⟨h.ok,⟨A,c,A',c',by simp[World.cell?,e'],by simp[World.cell?,e'],by simp[World.cell?,e'],fun k x hx=>?_,fun k x hx=>?_⟩,hst,hb⟩
 ·have hk:=(List.getElem?_eq_some_iff.1 hx).1;obtain⟨q,cap,ev,_,k1,_,k3⟩:=own_open9 hr2 (by omega);injection ev with ev1 ev2 ev3;subst ev1 ev3;exact⟨q,rfl,k1,k3 _ _ (at2 _ k x hx).1,k3 _ _ (at2 _ k x hx).2⟩
 ·have hk:=(List.getElem?_eq_some_iff.1 hx).1;obtain⟨q,cap,ev,_,k1,_,k3⟩:=own_open9 hr3 (by omega);injection ev with ev1 ev2 ev3;subst ev1 ev3;exact⟨q,rfl,k1,k3 _ _ (at3 _ k x hx).1,k3 _ _ (at3 _ k x hx).2.1,k3 _ _ (at3 _ k x hx).2.2⟩
theorem built_any (w:World)(v:Value)(ws:List ByteArray)(h:StrsAt w v ws)(hs:Rising ws)(hl:ws.length≤20000)(hz:∀s∈ws,s.size≤200):
  Calls Tryz.prog 64 #[v] w fun e w'=>∃(p:Nat) (g:GA) (st:Nat),e= .returned (.pointer (some ⟨p,0,none⟩))∧AutoAt w' p g st∧AutoOf g st (ws.map (tailD 0))∧Below w.heap.size w w':=by
 obtain⟨A,cap,rfl⟩:=strs_form h;obtain⟨n,hn⟩:∃n,n=ws.length:=⟨_,rfl⟩;rw[←hn]at h⊢;have hmm:= @run_makeMap Tryz.prog;obtain⟨w4,hw4⟩:∃w4,w4=((((w.alloc (.cells #[.slice none 0 0,.slice none 0 0,.int .i64 0] 84)).alloc (.map #[] 0)).alloc (.map #[] 0)).alloc (.cells #[.pointer (some ⟨w.heap.size,0,none⟩),.map (some (w.heap.size+1)),.map (some (w.heap.size+1+1))] 182)):=⟨_,rfl⟩;have H:=hid (And.intro h (And.intro hs (And.intro hl (And.intro hz hn))));clear h hs hl hz hn;go_enter Tryz.func64,Tryz.ntmps64;go_upto_region 2 with fail;rw[←hw4];obtain⟨pa,hpa⟩:∃b,b=w.heap.size:=⟨_,rfl⟩;obtain⟨ms,hms⟩:∃b,b=w.heap.size+1:=⟨_,rfl⟩;obtain⟨mp,hmp⟩:∃b,b=w.heap.size+1+1:=⟨_,rfl⟩;obtain⟨pb,hpb⟩:∃b,b=w.heap.size+1+1+1:=⟨_,rfl⟩;rw[←hpb,←hmp,←hms,←hpa];rw[←hmp,←hms,←hpa]at hw4;have hb4:Below w.heap.size w w4:=by rw[hw4];exact((((Below.refl _ w).alloc (Nat.le_refl _) _).alloc (by simp) _).alloc (by simp;omega) _).alloc (by simp;omega) _
 have q0:w4.heap[pa]?=some (.cells #[.slice none 0 0,.slice none 0 0,.int .i64 0] 84 (0,0)):=by
  rw[hw4,hpa];exact(Below.heap_alloc _ _ _ (by simp;omega)).trans ((Below.heap_alloc _ _ _ (by simp;omega)).trans ((Below.heap_alloc _ _ _ (by simp)).trans (World.alloc_heap_new w _)))
 have q1:w4.heap[ms]?=some (.map #[] 0):=by
  rw[hw4,hms];refine(Below.heap_alloc _ _ _ (by simp)).trans ((Below.heap_alloc _ _ _ (by simp)).trans ?_);have:=World.alloc_heap_new (w.alloc (.cells #[.slice none 0 0,.slice none 0 0,.int .i64 0] 84)) (.map #[] 0);rwa[World.size_alloc]at this
 have q2:w4.heap[mp]?=some (.map #[] 0):=by
  rw[hw4,hmp];refine(Below.heap_alloc _ _ _ (by simp)).trans ?_;have:=World.alloc_heap_new ((w.alloc (.cells #[.slice none 0 0,.slice none 0 0,.int .i64 0] 84)).alloc (.map #[] 0)) (.map #[] 0);rwa[World.size_alloc,World.size_alloc]at this
 have q3:w4.heap[pb]?=some (.cells #[.pointer (some ⟨pa,0,none⟩),.map (some ms),.map (some mp)] 182 (0,0)):=by
  rw[hw4,hpb];have:=World.alloc_heap_new (((w.alloc (.cells #[.slice none 0 0,.slice none 0 0,.int .i64 0] 84)).alloc (.map #[] 0)).alloc (.map #[] 0)) (.cells #[.pointer (some ⟨pa,0,none⟩),.map (some ms),.map (some mp)] 182);rwa[World.size_alloc,World.size_alloc,World.size_alloc]at this
 have hs4:w4.heap.size=w.heap.size+4:=by rw[hw4];simp
 have hbm:BM w4 (fun k=>k=pa∨k=ms∨k=mp) pb pa ms mp GA.none:=by
  refine⟨GA.ok_none,q3,⟨none,0,none,0,q0,World.ownsRow_nil _ _ _ _,World.ownsRow_nil _ _ _ _,fun z hz=>by simp[Value.ownBlock]at hz,fun z hz=>by simp[Value.ownBlock]at hz⟩,?_,?_,⟨.inl rfl,.inr (.inl rfl),.inr (.inr rfl)⟩,?_,by omega⟩
  ·have:=Know.made (K:=kNode) q1;rw[plc_nil]at this;exact this
  ·have:=Know.made (K:=kArc) q2;rw[plc_nil]at this;exact this
  ·rintro k (rfl|rfl|rfl)<;>omega
 have CS:=hid (show Calls Tryz.prog 116 #[.pointer (some ⟨pb,0,none⟩),.slice A n cap,.int .i64 0] w4.drew fun e w'=>∃st:Nat,e= .returned (.int .i32 st)∧(w'.cell? ⟨pb,0,none⟩=some (.pointer (some ⟨pa,0,none⟩))∧(∃v,w'.cell? ⟨pa,2,none⟩=some v)∧w'.frozen? ⟨pa,2,none⟩=false)∧st≤1000000000∧
   Hid (∃(T:Nat→Prop) (g:GA),BM w' T pb pa ms mp g∧Below w.heap.size w w'∧st<g.nodes.length∧(g.nodes.length≤1000000000∧g.arcs.length≤1000000000)∧AutoOf g st (ws.map (tailD 0)))from by
  obtain⟨h,hs,hl,hz,hn⟩:=H.out;have hdr:Below w4.heap.size w4 w4.drew:=(Below.refl _ _).drew;have ht0:∀s,tailD 0 s=s.data.toList:=fun s=>by unfold tailD;rfl
  have hwt:wt (ws.map (tailD 0))≤ws.length*200:=by
   have:∀l:List ByteArray,(∀s∈l,s.size≤200)→wt (l.map (tailD 0))≤l.length*200:=fun l=>by
    induction l with
    | nil=>intro _;exact Nat.le_refl _
    | cons x l ih=>
      intro hx;have h1:=ih fun s hs=>hx s (List.mem_cons_of_mem _ hs);have h2:=hx x (List.mem_cons_self ..);have h3:=tailD_len 0 x;simp only[wt,List.map_cons,List.sum_cons,List.length_cons]at h1⊢;omega
   exact this ws hz
  have hc:=state_all 200 w4.drew _ pb pa ms mp GA.none A n cap ws 0 (hbm.keep hdr) ⟨hn,by
   rcases h with ⟨h0,_⟩|⟨b,off,c,e,k1,k2,k3,k4⟩
   ·exact .inl (by rw[hn,h0];rfl)
   ·injection e with e1 e2 e3;subst e3;refine .inr ⟨b,off,e1,?_,by show b<w4.heap.size;omega,by omega,k3,fun i s hs=>(cell_old (p:=⟨b,off+i,none⟩) (hb4.trans (hdr.mono (by omega))) k1).trans (k4 i s hs)⟩;rintro (e|e|e)<;>omega⟩ (by
   rw[List.pairwise_map];exact hs.imp fun {a b} hab=>by rw[ht0,ht0];exact hab) (fun s hs=>⟨Nat.zero_le _,by have:=hz s hs;omega⟩) (by omega) (by omega) (by show 0+_+1≤_;omega) (by show 0+_≤_;omega)
  rw[show ((0:Nat):Int)=0 from rfl]at hc;refine hc.mono ?_;rintro e w' ⟨T',g',st,he,hb,hf,hle,hN,hmd,hn1,hn2⟩;obtain⟨A9,c9,A8,c8,hbx,-⟩:=hb.rows;have hst:st<g'.nodes.length:=by rw[hb.ok.nl];exact(List.getElem?_eq_some_iff.1 hN).1
  have hn1':g'.nodes.length≤1000000000:=by have:GA.none.nodes.length=0:=rfl;omega
  have hn2':g'.arcs.length≤1000000000:=by have:GA.none.arcs.length=0:=rfl;omega
  refine⟨st,he,⟨?_,⟨_,show w'.cell? ⟨pa,2,none⟩=some (.int .i64 0)by simp[World.cell?,hbx]⟩,by simp[World.frozen?,hbx]⟩,by omega,hid ⟨T',g',hb,?_,hst,⟨hn1',hn2'⟩,⟨hN,fun L=>⟨fun hL=>?_,fun hL=>hmd.all L hL⟩⟩⟩⟩
  ·have:=hb.box;simp[World.cell?,this]
  ·exact OnlyAt.below (hb4.trans (hdr.mono (by omega))) hf.only (by show _≤w4.heap.size;omega) (fun k hk=>by rcases hk with rfl|rfl|rfl<;>omega)
  ·rcases hmd.only L hL with h9|h9
   ·cases h9
   ·exact h9)
 have x5:w4.drew.cell? ⟨pb,0,none⟩=some (.pointer (some ⟨pa,0,none⟩)):=by
  show w4.cell? _=_;simp[World.cell?,q3]
 have hne:pb≠pa:=by omega
 have HPA:=hid (show w.heap.size≤pa by omega);clear hw4 q0 q1 q2 q3 hbm hb4 hs4 hpa hms hmp hpb hmm H;go_region_with (go_at_call 116;refine CS.out.mono ?_;rintro e w5 ⟨st,rfl,⟨v1,⟨v0,v2⟩,v3⟩,hst9,HP5⟩;have nw:IntKind.i64.wrap (st:Int)=st:=IntWalk.i64_in _ (by omega))
 all_goals
  obtain⟨w6,hw6⟩:∃w6,w6=w5.setCell ⟨pa,2,none⟩ (.int .i64 st):=⟨_,rfl⟩;rw[←hw6];have v6:w6.cell? ⟨pb,0,none⟩=some (.pointer (some ⟨pa,0,none⟩)):=by
   rw[hw6];refine Eq.trans ?_ v1;unfold World.cell?;dsimp only;rw[heap_other _ _ (World.block_lt_of_cell? _ _ v1) hne]
  have HE:=hid (show∃g:GA,AutoAt w6 pa g st∧AutoOf g st (ws.map (tailD 0))∧Below w.heap.size w w6 from by
   obtain⟨T',g',hb,hbl,k1,k2,k3⟩:=HP5.out;rw[hw6];exact⟨g',hb.auto k1 k2,k3,hbl.setCell (p:=⟨pa,2,none⟩) (by show w.heap.size≤pa;exact HPA.out) _⟩)
  clear hw6 v1 v2 v3 x5;go_wp2_with fail;go_ret;obtain⟨g',r1,r2,r3⟩:=HE.out;exact⟨pa,g',st,rfl,r1,r2,r3⟩
end Go.Proofs.YtfehpcbmdancoaaGreatDoor.Dw
namespace Go.Proofs.YtfehpcbmdancoaaGreatDoor.Dw
open Go Go.RowKit Go.Lib Go.Shelf
theorem has_auto (w:World)(p:Nat)(g:GA)(st:Nat)(V:List Bs)(h:AutoAt w p g st)(hV:g.N[st]?=some V)(s:ByteArray)(hs:s.size≤1000000000):
  Calls Tryz.prog 24 #[.pointer (some ⟨p,0,none⟩),.string s] w fun e w'=>e= .returned (.bool (decide (s.data.toList∈V)))∧Below w.heap.size w w':=by
 have hsl:s.data.toList.length=s.size:=size_toList s;obtain⟨fs,hL⟩:∃L,L=s.data.toList:=⟨_,rfl⟩;obtain⟨n,hn⟩:∃n,n=s.size:=⟨_,rfl⟩;obtain⟨C,hC⟩:∃C,C=grownCap w s.size 0 5:=⟨_,rfl⟩;have hcv:=run_bytes_of_string (P:=Tryz.prog) w 9 72 5 s Tryz.underlying9 Tryz.underlying72 Tryz.underlying5;rw[←hC,←hn]at hcv;obtain⟨W1,hW1⟩:∃W1,W1=(w.drew.alloc (.cells (bytesRow s C) 5 ((bytesRow s C).size,(bytesRow s C).size+1))):=⟨_,rfl⟩;rw[←hW1]at hcv;have hb1:Below w.heap.size w W1:=by rw[hW1];exact(Below.refl _ _).drew.alloc (Nat.le_refl _) _
 have hblk:W1.heap[w.heap.size]?=some (.cells (bytesRow s C) 5 ((bytesRow s C).size,(bytesRow s C).size+1)):=by rw[hW1];exact World.alloc_heap_new w.drew _
 have hat:∀(wx:World),Below W1.heap.size W1 wx→∀j c,fs[j]?=some c→wx.cell? ⟨w.heap.size,j,none⟩=some (.int .u8 (c.toNat:Int)):=fun wx hwx j c hc=>by
  have hwx':=(hwx.block w.heap.size (Array.getElem?_eq_some_iff.1 hblk).1).trans hblk;rw[cell_of_row _ w.heap.size j _ _ _ hwx'];rw[hL]at hc;have hj:j<s.data.size:=by
   have:=(List.getElem?_eq_some_iff.1 hc).1;simpa using this
  rw[bytesRow_at s C j hj];have h2:s.data.toList[j]?=s.data[j]?:=Array.getElem?_toList;rw[hc,Array.getElem?_eq_getElem hj]at h2;rw[←Option.some.inj h2]
 obtain⟨A,c,A',c',-,-,x2,-,-⟩:=h.mem;rw[←hL]at hsl⊢;obtain⟨ANS,hANS⟩:∃b,b=decide (fs∈V):=⟨_,rfl⟩;rw[←hANS];have HANS:=hid hANS;have HAT:=hid hat;have HS1:=hid hb1;have HH:=hid (And.intro h (And.intro hV (show n=fs.length by rw[hn,hsl])));have hnb:n≤1000000000:=by omega
 clear hL hsl hn hC hW1 hb1 hblk hat hs h hV hANS;go_enter Tryz.func24,Tryz.ntmps24;go_wp2_with fail;go_loopg [5,17] n (fun gh x y wr=>∃k t:Nat,k+gh=n∧x= .int .i64 t∧y= .int .i64 k∧Hid (g.N[t]?=some (ends V (fs.take k))∧Below W1.heap.size W1 wr))
 case atStart=>exact⟨0,st,by omega,rfl,rfl,hid ⟨HH.out.2.1,Below.refl _ _⟩⟩
 case round=>
  obtain⟨k,t,hk,rfl,rfl,HK⟩:=hrel;have hk0:(0:Int)≤k:=by omega
  have hA:=HH.out.1.keep (HS1.out.trans (HK.out.2.mono HS1.out.size));rcases Nat.eq_zero_or_pos gk with h0|h0
  ·have hkn:¬(k:Int)<n:=by omega
   have hf:=final_any wr p g st hA t;have hfin:=fin_ok hA.ok HK.out.1;have he:ANS=g.fin (t:Int):=by
    rw[hfin,HANS.out,List.take_of_length_le (by have:=HH.out.2.2;omega)];exact decide_eq_decide.2 (by rw[mem_ends,List.append_nil])
   rw[←he]at hf;have CF:=hid hf;clear hf hfin he hA;go_wp2_with (go_at_call 39;refine CF.out.mono ?_;rintro e w2 ⟨rfl,rfl⟩);go_ret;exact⟨rfl,HS1.out.trans (HK.out.2.mono HS1.out.size)⟩
  ·have hkn:(k:Int)<n:=by omega
   obtain⟨b,hb⟩:∃b,fs[k]?=some b:=⟨_,List.getElem?_eq_getElem (by have:=HH.out.2.2;omega)⟩;have hcell:=HAT.out wr HK.out.2 k b hb;have hnx:=next_any wr p g st hA t b;have hst:=step_ok hA.ok HK.out.1 b;have htk:fs.take (k+1)=fs.take k++[b]:=by rw[List.take_add_one,hb];rfl
   have hends:ends V (fs.take (k+1))=tails b (ends V (fs.take k)):=by rw[htk,ends_app];rfl
   cases hg:goes (g.out (t:Int)) b with
   | none=>
     rw[hg]at hnx hst;dsimp only at hnx hst;have he:ANS=false:=by
      rw[HANS.out];refine decide_eq_false fun hm=>?_;have h1:fs=fs.take (k+1)++fs.drop (k+1):=(List.take_append_drop _ _).symm;rw[h1]at hm;have h2:=mem_ends.2 hm;rw[hends,hst]at h2;cases h2
     subst he;have CX:=hid hnx;clear hg hnx hst htk hends hb hA;go_wp2_with (go_at_call 41;refine CX.out.mono ?_;rintro e w2 ⟨rfl,hb2⟩;have HB2:=hid hb2;clear hb2);go_ret;exact⟨rfl,HS1.out.trans ((HK.out.2.trans (HB2.out.mono HK.out.2.size)).mono HS1.out.size)⟩
   | some t'=>
     rw[hg]at hnx hst;dsimp only at hnx hst;rw[←hends]at hst;have CX:=hid hnx;have HST:=hid hst.1;clear hg hnx hst htk hends hb hA;go_wp2_with (go_at_call 41;refine CX.out.mono ?_;rintro e w2 ⟨rfl,hb2⟩;have HB2:=hid (HK.out.2.trans (hb2.mono HK.out.2.size));clear hb2);go_roundg (gk-1)
     case measure=>omega
     case rel=>exact⟨k+1,t',by omega,rfl,by go_num,hid ⟨HST.out,HB2.out⟩⟩
attribute [local go_sem] Oper.semAt_some alloc_set
theorem wpListIn_append_where {F:Fence}{n:Nat}{P:Program}(w:World){ops:Array Oper}{rest:List Oper}{o:Oper}{a:Act}{Q:Exit→Act→World→Prop}
  (hg:o.guard=none) (s x:Operand) (t:TypeId) (hop:o.op=Op.call { callee:=Callee.builtin Builtin.append,args:=#[s,x],argTypes:=#[t,t] })
  (base:Nat) (e:TypeId) (i:TypeInfo) (z:Value) (size bytes:Nat) (h1:P.underlying t=some (.slice e)) (h2:P.info? e=some i) (h3:i.zero=some z) (h4:i.size=size) (h5:i.bytes=bytes) (h6:z.cells.size=size) (h7:0<size)
  (v:Value) (k:Nat) (xs:List Value) (hs:a.eval s=v) (hown:w.ownsRow base e size v k xs) (ad:Addr) (m c:Nat) (news:List Value) (hx:a.eval x= .slice (some ad) m c) (hn:news.length=m*size)
  (hc:∀j u,news[j]?=some u→w.cell? (ad.add j)=some u) (h1c:∀u∈news,u.oneCell'=true) (b1:k+m≤maxLen) (b2:(k+m)*bytes≤140737488355328) (b3:base≤w.heap.size)
  (hK:∀v' w',w'.ownsRow base e size v' (k+m) (xs++news)→w.grownBy w' v.ownBlock→(v'.ownBlock=v.ownBlock∨∀g,v'.ownBlock=some g→w.heap.size≤g)→wpListIn F n P ops Q rest (a.put o.dst v') w'):
  wpListIn F n P ops Q (o::rest) a w:=by
 refine wpListIn_plain hg fun K hK'=>?_;obtain⟨v',w',hrun,r1,r2,r3⟩:=run_append_own (P:=P) w base t o.type e i z size bytes h1 h2 h3 h4 h5 h6 h7 v k xs hown ad m c news hn hc h1c b1 b2 b3;have r4:=append_where (P:=P) w base t o.type e i z size bytes h1 h2 h3 h4 h5 h6 h7 v k xs hown ad m c news hn hc h1c b1 b2 hrun;unfold Oper.wpIn;refine⟨?_,?_⟩
 ·simp[Oper.about,hop,resolve,Target.leads,Sem.run_pure]
 ·rw[Oper.semAt_plain F _ _ (by rw[hop];intro c hc';cases hc')];simp[execOp,hop,resolve,invoke,builtin,hs,hx,hrun,Result.andThen];exact hK' _ _ (hK v' w' r1 r2 r4)
def u8V (c:UInt8):Value:= .int .u8 c.toNat
def RowO (w0:World)(R:Nat→Prop)(N:Nat)(T:Nat→Prop)(cs:List UInt8)(v:Value)(W:World):Prop:=
 (Boxed W N 72 v∧¬T N)∧(W.ownsRow w0.heap.size 5 1 v cs.length (cs.map u8V)∧∀g,v.ownBlock=some g→¬T g∧¬R g)∧Below w0.heap.size w0 W∧(∀k,T k→w0.heap.size≤k)∧∀k,T k→k<W.heap.size
theorem RowO.stab {w0:World}{R:Nat→Prop}{N:Nat}{T T':Nat→Prop}{cs:List UInt8}{v:Value}{U V:World}(h:RowO w0 R N T cs v U)(ho:OnlyAt T U V)(ht:∀k,T' k→T k∨(U.heap.size≤k∧k<V.heap.size)):RowO w0 R N T' cs v V:=by
 obtain⟨⟨hb,hT⟩,⟨hr,hg⟩,hB,hTB,hTU⟩:=h;have hlt:=hb.lt;have hz:=ho.size;refine⟨⟨(ho.block N hlt hT).trans hb,fun hh=>?_⟩,⟨⟨hr.1,?_⟩,fun g hgv=>⟨fun hh=>?_,(hg g hgv).2⟩⟩,OnlyAt.below hB ho hB.size hTB,fun k hk=>?_,fun k hk=>?_⟩
 ·rcases ht N hh with h|h
  ·exact hT h
  ·omega
 ·rcases hr.2 with hn|⟨g,cap,cur,rfl,hgb,hgg,rest⟩
  ·exact .inl hn
  ·exact .inr ⟨g,cap,cur,rfl,hgb,(ho.block g (Array.getElem?_eq_some_iff.1 hgg).1 (hg g rfl).1).trans hgg,rest⟩
 ·have:=(hr.lt g hgv).2;rcases ht g hh with h|h
  ·exact(hg g hgv).1 h
  ·omega
 ·rcases ht k hk with h|h
  ·exact hTB k h
  ·have:=hB.size;omega
 ·rcases ht k hk with h|h
  ·have:=hTU k h;omega
  ·exact h.2
theorem Tryz.infosO5:(Tryz.prog.info? 5).map (fun i=>(i.zero,i.size,i.bytes))=some (some (.int .u8 0),1,1):=by kernel_rfl
theorem rise_len:∀{l:List (UInt8×Nat×Nat)} (k:Nat),l.Pairwise (fun x y=>x.1<y.1)→(∀x∈l,k≤x.1.toNat)→l≠[]→l.length+k≤256
 | [],_,_,_,h=>absurd rfl h
 | x::l,k,h,hk,_=>by
   obtain⟨h1,h2⟩:=List.pairwise_cons.1 h;have hx:=hk x (List.mem_cons_self ..);have h256:=x.1.toNat_lt;by_cases e:l=[]
   ·subst e;simp only[List.length_cons,List.length_nil];omega
   ·have:=rise_len (x.1.toNat+1) h2 (fun y hy=>by have:=UInt8.lt_iff_toNat_lt.1 (h1 y hy);omega) e;simp only[List.length_cons];omega
theorem rise_256 {l:List (UInt8×Nat×Nat)}(h:l.Pairwise (fun x y=>x.1<y.1)):l.length≤256:=by
 by_cases e:l=[]
 ·subst e;simp
 ·have:=rise_len 0 h (fun _ _=>Nat.zero_le _) e;omega
theorem out_any (w:World)(p:Nat)(g:GA)(st:Nat)(h:AutoAt w p g st)(s:Int):
  Calls Tryz.prog 40 #[.pointer (some ⟨p,0,none⟩),.int .i64 s] w fun e w'=>∃v,e= .returned v∧w'.ownsRow w.heap.size 5 1 v ((g.out s).map fun x=>x.1).length (((g.out s).map fun x=>x.1).map u8V)∧Below w.heap.size w w':=by
 obtain⟨i0,hi,hz0,hz1,hz2⟩:=info_parts Tryz.infosO5;obtain⟨N,hN⟩:∃N,N=w.heap.size:=⟨_,rfl⟩;obtain⟨w3,hw3⟩:∃w3,w3=w.alloc (.cells #[.slice none 0 0] 72):=⟨_,rfl⟩;obtain⟨w5,hw5⟩:∃w5,w5=(w3.alloc (.cells #[.pointer (some ⟨p,0,none⟩)] 45)).alloc (.cells #[.int .i64 s] 3):=⟨_,rfl⟩;have hs3:w3.heap.size=N+1:=by rw[hw3,hN];simp
 have hs5:w5.heap.size=N+3:=by rw[hw5];simp[hs3]
 have hb3:Below w.heap.size w w3:=by rw[hw3];exact(Below.refl _ w).alloc (Nat.le_refl _) _
 have hb35:Below w3.heap.size w3 w5:=by rw[hw5];exact((Below.refl _ w3).alloc (Nat.le_refl _) _).alloc (by simp) _
 have hb5:Below w.heap.size w w5:=hb3.trans (hb35.mono hb3.size);have q0:w5.heap[N]?=some (.cells #[.slice none 0 0] 72 (0,0)):=by
  refine(hb35.block N (by omega)).trans ?_;rw[hw3];exact heap_top _ _ hN.symm
 have p0:w5.cell? ⟨N+1,0,none⟩=some (.pointer (some ⟨p,0,none⟩)):=by
  have:w5.heap[N+1]?=some (.cells #[.pointer (some ⟨p,0,none⟩)] 45 (0,0)):=by rw[hw5];exact heap_up (heap_top _ _ hs3) _
  simp[World.cell?,this]
 have p1:w5.cell? ⟨N+1+1,0,none⟩=some (.int .i64 s):=by
  have:w5.heap[N+1+1]?=some (.cells #[.int .i64 s] 3 (0,0)):=by rw[hw5];exact heap_top _ _ (by rw[World.size_alloc,hs3])
  simp[World.cell?,this]
 obtain⟨R,hR⟩:∃R:Nat→Prop,R=fun k=>k<N∨k=N+1∨k=N+1+1:=⟨_,rfl⟩;have hRlt:∀k,R k→k<w5.heap.size:=fun k hk=>by rw[hR]at hk;omega
 have hRN:∀k,R k→k≠N:=fun k hk=>by rw[hR]at hk;omega
 have hdat:∀W',KeepsAt R w5 W'→AutoAt W' p g st∧W'.cell? ⟨N+1,0,none⟩=some (.pointer (some ⟨p,0,none⟩))∧W'.cell? ⟨N+1+1,0,none⟩=some (.int .i64 s):=fun W' hk=>
  ⟨h.cells fun a v ha=>cell_kept hk ((cell_old hb5 (World.block_lt_of_cell? _ _ ha)).trans ha) (by rw[hR];left;rw[hN];exact World.block_lt_of_cell? _ _ ha),cell_kept hk p0 (by rw[hR];right;left;rfl),cell_kept hk p1 (by rw[hR];right;right;rfl)⟩
 have HI0:=hid (show RowO w R N (fun _=>False) [] (.slice none 0 0) w5 from ⟨⟨q0,id⟩,⟨World.ownsRow_nil _ _ _ _,fun g hg=>by simp[Value.ownBlock]at hg⟩,hb5,fun _ h=>h.elim,fun _ h=>h.elim⟩);have hlen:(g.out s).length≤256:=by
  unfold GA.out;split
  ·cases hg:g.nodes[s.toNat]? with
   | none=>exact Nat.zero_le _
   | some y=>
     obtain⟨L,h1,-⟩:=h.ok.node _ y.1 y.2 hg;exact rise_256 (chain_ok h.ok y.2 L h1).2.rise
  ·exact Nat.zero_le _
 have HD:=hid (And.intro hdat (And.intro hRlt (And.intro hs5 (And.intro hN hRN))));have HW:=hid (And.intro hw3 hw5);have HLN:=hid hlen;have HRlow:=hid (show∀k,R k→k<N+3 from fun k hk=>by rw[hR]at hk;omega);have CL:=hid (fun wx=>leaving_call (some ⟨p,0,none⟩) s wx);clear hs3 hs5 hb3 hb35 hb5 q0 p0 p1 hdat hRlt hRN h hw3 hw5 hR hlen;refine(callsIn_wide (n:=6)).1 ?_;refine callsIn_of_wp_marks Tryz.func40 rfl trivial ?_ rfl;simp only[Tryz.ntmps40,List.size_toArray,List.length_cons,List.length_nil,Nat.reduceAdd,Nat.reduceSub,Array.replicate_succ,Array.replicate_zero,List.push_toArray,List.append_toArray,List.nil_append,List.cons_append];gi_wp2_with (refine ⟨trivial,?_⟩;gi_at_call 88;refine(callsIn_wide.2 (CL.out _)).mono ?_;rintro e w1 ⟨rfl,rfl⟩);rw[←HW.out.1,←HW.out.2,←hN];have hN0:=hid hN;clear HW CL hN;refine wpIn_stops (R:=R) (gf:=136) (lb:=#[.pointer (some ⟨N+1,0,none⟩),.pointer (some ⟨N+1+1,0,none⟩)]) rfl (enters_of Tryz.func136 (by kernel_rfl) rfl) (by omega) (encs:=aEnc) (Adm:=fun pre x=>(pre++[x]) <+:g.out s) (S:=fun xs=>xs=g.out s)
  (fun W1 ho=>leaving_stops p g st s _ _ R W1 (fun W' hk=>HD.out.1 W' ((KeepsAt.of_only ho (fun _ _ h=>h)).trans hk)) (fun k hk=>Nat.lt_of_lt_of_le (HD.out.2.1 k hk) ho.size))
  (fun _=>rfl) HD.out.2.1
  (fun T pre W'=>∃v,RowO w R N T (pre.map fun x=>x.1) v W'∧w5.heap.size≤W'.heap.size) ?stab
  (fun _ _ _ _=>False) (fun _ _ _ _ _ _ h _ _=>h) ⟨_,HI0.out,Nat.le_refl _⟩
  (fun T pre x a' W'=>∃v B8,(w5.heap.size≤W'.heap.size∧RowO w R N T (pre.map fun x=>x.1) v W')∧(W'.heap[B8]?=some (.cells #[.int .u8 x.1.toNat,.int .i32 x.2.1,.int .i32 ((x.2.2:Int)-1)] 149 (0,0))∧¬T B8)∧a'={ tmps:=#[.pointer (some ⟨p,0,none⟩),.int .i64 s,undef,undef,.slice none 0 0,.pointer (some ⟨N,0,none⟩),.pointer (some ⟨B8,0,none⟩),.pointer (some ⟨p,0,none⟩),.int .i64 s,.func (.func 136) #[] #[.pointer (some ⟨N+1,0,none⟩),.pointer (some ⟨N+1+1,0,none⟩)],.agg #[.int .u8 x.1.toNat,.int .i32 x.2.1,.int .i32 ((x.2.2:Int)-1)],undef,undef,undef,undef,undef,undef],defers:=[] })
  ?staba ?assign ?body ?done ?stop
 case stab=>
  rintro T T' pre U V ⟨v,h1,h2⟩ ho ht;exact⟨v,h1.stab ho ht,Nat.le_trans h2 ho.size⟩
 case staba=>
  rintro pre x a' T T' _ U V ⟨v,B8,⟨h5,h1⟩,⟨h3,h4⟩,ha⟩ ho ht;have hlt:=(Array.getElem?_eq_some_iff.1 h3).1;refine⟨v,B8,⟨Nat.le_trans h5 ho.size,h1.stab ho ht⟩,⟨(ho.block B8 hlt h4).trans h3,fun hh=>?_⟩,ha⟩;rcases ht B8 hh with h'|h'
  ·exact h4 h'
  ·omega
 case assign=>
  rintro l2 T pre x W' K hadm ⟨v,h1,h2⟩ hlt hK;have HI:=hid h1;have H2:=hid h2;clear h1 h2;simp only[aEnc];gi_wp2;have ho:∀T,OnlyAt T W' (W'.alloc (.cells #[.int .u8 x.1.toNat,.int .i32 x.2.1,.int .i32 ((x.2.2:Int)-1)] 149)):=fun T=>OnlyAt.alloc _ _ _;exact hK _ _ (ho _) ⟨v,W'.heap.size,⟨Nat.le_trans H2.out (ho T).size,HI.out.stab (ho T) (fun _ h=> .inl h)⟩,⟨World.alloc_heap_new _ _,fun hh=>by have:=hlt _ hh;omega⟩,rfl⟩
 case body=>
  rintro l2 T pre x a' W' hadm ⟨v,B8,⟨h5,h1⟩,⟨h3,h4⟩,rfl⟩ hlt;have hpl:pre.length<256:=by
   have:=hadm.length_le;rw[List.length_append]at this;have h9:=HLN.out;simp at this;omega
  have hc:=h1.1.1.cell;have x0:W'.cell? ⟨B8,0,none⟩=some (.int .u8 x.1.toNat):=by simp[World.cell?,h3]
  have hw0N:w.heap.size≤N:=by have:=hN0.out;omega
  have HI:=hid h1;have HSZ:=hid h5;clear h1 h3 h4 h5 hadm;gi_wp2_with (gi_at_builtin;refine wpListIn_append_where _ rfl _ _ 72 rfl w.heap.size 5 i0 (.int .u8 0) 1 1 Tryz.underlying72 hi hz0 hz1 hz2 rfl (by decide) _ _ _ rfl (HI.out.2.1.1.alloc _) ⟨W'.heap.size,0,none⟩ 1 1 [.int .u8 x.1.toNat] rfl rfl (news_row _ _ _) (fun u hu=>by simp at hu;subst hu;rfl) (by rw[List.length_map];unfold maxLen;omega) (by rw[List.length_map];omega) (by have:=HI.out.2.2.1.size;simp;omega) ?_;intro v' w1 hown' hgrow hwh;obtain⟨g',cap',rfl⟩:=ownsRow_succ hown';obtain⟨hv1,hv2,hr2,hk2,hb2⟩:=HI.out.1.1.appended (by decide) HI.out.2.1.1 HI.out.2.2.1.size hw0N hown' hgrow;have hc1:=hv1.cell;have hf1:=hv1.frozen);simp only[List.length_map]at hv2 hr2 hk2 hb2;have hNW:=HI.out.1.1.lt;have hz2:=hk2.size;have hgn:¬T g'∧¬R g':=by
   rcases hwh with hw|hw
   ·exact HI.out.2.1.2 g' (hw▸rfl)
   ·have h7:=hw g' rfl;have h8:=HD.out.2.2.1;simp at h7;have h10:w5.heap.size≤W'.heap.size:=HSZ.out;exact⟨fun hh=>by have:=HI.out.2.2.2.2 g' hh;omega,fun hh=>by have:=HRlow.out g' hh;omega⟩
  refine⟨⟨_,⟨⟨hv2,HI.out.1.2⟩,⟨by rw[List.map_append,List.map_append,List.length_append,List.length_map];exact hr2,fun g hg=>?_⟩,HI.out.2.2.1.trans hb2,HI.out.2.2.2.1,fun k hk=>Nat.lt_of_lt_of_le (HI.out.2.2.2.2 k hk) hz2⟩,Nat.le_trans HSZ.out hz2⟩,⟨hz2,fun k hk hh=>?_⟩⟩
  ·obtain rfl:g'=g:=by simpa[Value.ownBlock]using hg
   exact hgn
  ·have hkN:k≠N:=by
    rintro rfl;rcases hh with hh|hh
    ·exact HD.out.2.2.2.2 _ hh rfl
    ·exact HI.out.1.2 hh
   have hkv:some k≠v.ownBlock:=by
    intro e;rcases hh with hh|hh
    ·exact(HI.out.2.1.2 k e.symm).2 hh
    ·exact(HI.out.2.1.2 k e.symm).1 hh
   exact(Below.heap_setCell _ _ _ _ hkN).trans ((hgrow.block k (by simp;omega) hkv).trans (Below.heap_alloc _ _ _ hk))
 case done=>
  rintro Dd T xs W' hD hTD rfl ⟨v,h,h5⟩ hK;have hc:=h.1.1.cell;have HI:=hid h;have HKD:=hid hK;clear h hK;gi_wp2;refine⟨by simp,.inl ⟨_,_,rfl,run_takeDeferred HKD.out,?_⟩⟩;refine⟨_,results_tmp rfl _ _ (W'.putObj Dd (.deferred none)),_,rfl,ownsRow_putObj HI.out.2.1.1 _ HKD.out rfl,OnlyAt.below HI.out.2.2.1 (OnlyAt.putObj (T:=fun k=>k=Dd) _ _ _ rfl) HI.out.2.2.1.size ?_⟩;rintro k rfl;have:=HD.out.2.2.1;have:=hN0.out;omega
 case stop=>
  rintro _ _ _ _ _ _ _ h;exact h.elim
end Go.Proofs.YtfehpcbmdancoaaGreatDoor.Dw
