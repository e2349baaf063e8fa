/- Items in blocks that are new: they stand whatever is written to the elder ones. -/
import Derived.Deep.AppendLies
import Derived.Deep.RegionLaw
import Derived.StillTailTactics
import Derived.Deep.RegionWith
import Derived.Deep.CutRange
import Derived.Deep.DeepCutAuto
import Derived.Test.YtfehpcbmdancoaaGreatDoorPdPbNPlain
set_option maxRecDepth 100000
set_option maxHeartbeats 4000000
namespace Go.Proofs.YtfehpcbmdancoaaGreatDoor
open Go Go.RowKit
def ItemsNew (B:Nat)(w:World)(v:Value)(l:List It):Prop:=
 (l=[]∧∃a cap,v= .slice a 0 cap)∨∃b off cap,v= .slice (some ⟨b,off,none⟩) l.length cap∧b<w.heap.size∧B≤b∧l.length≤cap∧cap≤maxLen∧
  ∀(i:Nat) it,l[i]?=some it→w.cell? ⟨b,off+i*3,none⟩=some (.bool it.any)∧w.cell? ⟨b,off+i*3+1,none⟩=some (.bool it.not)∧∃sv,w.cell? ⟨b,off+i*3+2,none⟩=some sv∧IntsAt w sv it.set∧∀g,sv.ownBlock=some g→B≤g
theorem ItemsNew.at {B:Nat}{w:World}{v:Value}{l:List It}(h:ItemsNew B w v l):ItemsAt w v l:=by
 rcases h with h|⟨b,off,cap,h1,h2,_,h4,h5,h6⟩
 ·exact .inl h
 ·refine .inr ⟨b,off,cap,h1,h2,h4,h5,fun i it hi=>?_⟩;obtain⟨k1,k2,sv,k3,k4,_⟩:=h6 i it hi;exact⟨k1,k2,sv,k3,k4⟩
theorem ItemsNew.less {B B':Nat}{w:World}{v:Value}{l:List It}(h:ItemsNew B w v l)(hB:B'≤B):ItemsNew B' w v l:=by
 rcases h with h|⟨b,off,cap,h1,h2,h3,h4,h5,h6⟩
 ·exact .inl h
 ·refine .inr ⟨b,off,cap,h1,h2,by omega,h4,h5,fun i it hi=>?_⟩;obtain⟨k1,k2,sv,k3,k4,k5⟩:=h6 i it hi;exact⟨k1,k2,sv,k3,k4,fun g hg=>Nat.le_trans hB (k5 g hg)⟩
theorem ItemsNew.still {B:Nat}{w w':World}{v:Value}{l:List It}(h:ItemsNew B w v l)(hs:w.heap.size≤w'.heap.size)(hb:∀b,B≤b→b<w.heap.size→w'.heap[b]?=w.heap[b]?):ItemsNew B w' v l:=by
 rcases h with h|⟨b,off,cap,h1,h2,h3,h4,h5,h6⟩
 ·exact .inl h
 ·have hc:∀o,w'.cell? ⟨b,o,none⟩=w.cell? ⟨b,o,none⟩:=fun o=>by unfold World.cell?;rw[show (⟨b,o,none⟩:Addr).block=b from rfl,hb b h3 h2]
  refine .inr ⟨b,off,cap,h1,Nat.lt_of_lt_of_le h2 hs,h3,h4,h5,fun i it hi=>?_⟩;obtain⟨k1,k2,sv,k3,k4,k5⟩:=h6 i it hi;refine⟨(hc _).trans k1,(hc _).trans k2,sv,(hc _).trans k3,?_,k5⟩;rcases k4 with k4|⟨q,qo,qc,rfl,q1,q2,q3,q4⟩
  ·exact .inl k4
  ·exact .inr ⟨q,qo,qc,rfl,Nat.lt_of_lt_of_le q1 hs,q2,q3,fun j c hj=>by
    have:=q4 j c hj;unfold World.cell? at this⊢;rw[show (⟨q,qo+j,none⟩:Addr).block=q from rfl]at this⊢;rw[hb q (k5 q rfl) q1];exact this⟩
def FreshX (B:Nat)(xs:List Value)(l:List It):Prop:=∀(i:Nat) it,l[i]?=some it→∀sv,xs[i*3+2]?=some sv→∀b,sv.ownBlock=some b→B≤b
theorem FreshX.nil (B:Nat):FreshX B [] []:=fun i it h=>by simp at h
theorem FreshX.snoc {B:Nat}{xs:List Value}{l:List It}{it:It}{a b sv:Value}(h:FreshX B xs l)(hl:xs.length=l.length*3)(hb:∀g,sv.ownBlock=some g→B≤g):FreshX B (xs++[a,b,sv]) (l++[it]):=by
 intro i x hi s hs;rcases Nat.lt_or_ge i l.length with hlt|hge
 ·rw[List.getElem?_append_left hlt]at hi;rw[List.getElem?_append_left (by omega)]at hs;exact h i x hi s hs
 ·rw[List.getElem?_append_right hge]at hi;have h0:i-l.length=0:=by
   have:=(List.getElem?_eq_some_iff.1 hi).1;simp at this;omega
  obtain rfl:i=l.length:=by omega
  rw[List.getElem?_append_right (by omega),hl,show l.length*3+2-l.length*3=2 by omega]at hs;obtain rfl:sv=s:=by simpa using hs
  exact hb
end Go.Proofs.YtfehpcbmdancoaaGreatDoor
namespace Go.Proofs.YtfehpcbmdancoaaGreatDoor.Af
open Go Go.RowKit Go.Lib
def ItemsIn (F:Nat→Prop)(w:World)(v:Value)(l:List It):Prop:=
 (l=[]∧∃a cap,v= .slice a 0 cap)∨∃b off cap,v= .slice (some ⟨b,off,none⟩) l.length cap∧b<w.heap.size∧F b∧l.length≤cap∧cap≤maxLen∧
  ∀(i:Nat) it,l[i]?=some it→w.cell? ⟨b,off+i*3,none⟩=some (.bool it.any)∧w.cell? ⟨b,off+i*3+1,none⟩=some (.bool it.not)∧∃sv,w.cell? ⟨b,off+i*3+2,none⟩=some sv∧IntsAt w sv it.set∧(it.set≠[]→∀g,sv.ownBlock=some g→F g)
theorem ItemsIn.at {F:Nat→Prop}{w:World}{v:Value}{l:List It}(h:ItemsIn F w v l):ItemsAt w v l:=by
 rcases h with h|⟨b,off,cap,h1,h2,_,h4,h5,h6⟩
 ·exact .inl h
 ·refine .inr ⟨b,off,cap,h1,h2,h4,h5,fun i it hi=>?_⟩;obtain⟨k1,k2,sv,k3,k4,_⟩:=h6 i it hi;exact⟨k1,k2,sv,k3,k4⟩
theorem ItemsIn.mono {F F':Nat→Prop}{w:World}{v:Value}{l:List It}(h:ItemsIn F w v l)(hF:∀b,F b→F' b):ItemsIn F' w v l:=by
 rcases h with h|⟨b,off,cap,h1,h2,h3,h4,h5,h6⟩
 ·exact .inl h
 ·refine .inr ⟨b,off,cap,h1,h2,hF b h3,h4,h5,fun i it hi=>?_⟩;obtain⟨k1,k2,sv,k3,k4,k5⟩:=h6 i it hi;exact⟨k1,k2,sv,k3,k4,fun hn g hg=>hF g (k5 hn g hg)⟩
theorem ItemsIn.still {F:Nat→Prop}{w w':World}{v:Value}{l:List It}(h:ItemsIn F w v l)(hs:w.heap.size≤w'.heap.size)(hb:∀b,F b→b<w.heap.size→w'.heap[b]?=w.heap[b]?):ItemsIn F w' v l:=by
 rcases h with h|⟨b,off,cap,h1,h2,h3,h4,h5,h6⟩
 ·exact .inl h
 ·have hc:∀o,w'.cell? ⟨b,o,none⟩=w.cell? ⟨b,o,none⟩:=fun o=>by unfold World.cell?;rw[show (⟨b,o,none⟩:Addr).block=b from rfl,hb b h3 h2]
  refine .inr ⟨b,off,cap,h1,Nat.lt_of_lt_of_le h2 hs,h3,h4,h5,fun i it hi=>?_⟩;obtain⟨k1,k2,sv,k3,k4,k5⟩:=h6 i it hi;refine⟨(hc _).trans k1,(hc _).trans k2,sv,(hc _).trans k3,?_,k5⟩;by_cases hn:it.set=[]
  ·rw[hn]at k4⊢;rcases k4 with ⟨_,a,c,e⟩|⟨q,qo,qc,e,_⟩
   ·exact .inl ⟨rfl,a,c,e⟩
   ·exact .inl ⟨rfl,_,qc,e⟩
  ·rcases k4 with k4|⟨q,qo,qc,rfl,q1,q2,q3,q4⟩
   ·exact .inl k4
   ·refine .inr ⟨q,qo,qc,rfl,Nat.lt_of_lt_of_le q1 hs,q2,q3,fun j c hj=>?_⟩;have:=q4 j c hj;unfold World.cell? at this⊢;rw[show (⟨q,qo+j,none⟩:Addr).block=q from rfl]at this⊢;rw[hb q (k5 hn q rfl) q1];exact this
theorem _root_.Go.Proofs.YtfehpcbmdancoaaGreatDoor.ItemsNew.isIn {B:Nat}{w:World}{v:Value}{l:List It}(h:ItemsNew B w v l):ItemsIn (fun b=>B≤b∧b<w.heap.size) w v l:=by
 rcases h with h|⟨b,off,cap,h1,h2,h3,h4,h5,h6⟩
 ·exact .inl h
 ·refine .inr ⟨b,off,cap,h1,h2,⟨h3,h2⟩,h4,h5,fun i it hi=>?_⟩;obtain⟨k1,k2,sv,k3,k4,k5⟩:=h6 i it hi;refine⟨k1,k2,sv,k3,k4,fun hn g hg=>⟨k5 g hg,?_⟩⟩;rcases k4 with ⟨e,_⟩|⟨q,qo,qc,rfl,q1,_⟩
  ·exact absurd e hn
  ·obtain rfl:q=g:=by simpa[Value.ownBlock]using hg
   exact q1
def RulesIn (F:Nat→Prop)(w:World)(xs:List Value)(rs:List Ru):Prop:=
 xs.length=rs.length*6∧∀(i:Nat) r,rs[i]?=some r→xs[i*6]?=some (.bool r.pre)∧xs[i*6+1]?=some (.int .i64 r.flag)∧xs[i*6+2]?=some (.bool r.cross)∧xs[i*6+3]?=some (.string r.strip)∧xs[i*6+4]?=some (.string r.add)∧
  ∃A cap,xs[i*6+5]?=some (.slice A r.cond.length cap)∧ItemsIn F w (.slice A r.cond.length cap) r.cond
theorem RulesIn.nil (F:Nat→Prop)(w:World):RulesIn F w [] []:=⟨rfl,fun i r h=>by simp at h⟩
theorem RulesIn.snoc {F:Nat→Prop}{w:World}{xs:List Value}{rs:List Ru}{r:Ru}{A:Option Addr}{cap:Nat}(h:RulesIn F w xs rs)(hi:ItemsIn F w (.slice A r.cond.length cap) r.cond):
  RulesIn F w (xs++[.bool r.pre,.int .i64 r.flag,.bool r.cross,.string r.strip,.string r.add,.slice A r.cond.length cap]) (rs++[r]):=by
 obtain⟨hl,hx⟩:=h;refine⟨by rw[List.length_append,List.length_append,hl];simp;omega,fun i q hq=>?_⟩;rcases Nat.lt_or_ge i rs.length with hlt|hge
 ·rw[List.getElem?_append_left hlt]at hq;have hk:∀j,j<6→(xs++[.bool r.pre,.int .i64 r.flag,.bool r.cross,.string r.strip,.string r.add,.slice A r.cond.length cap])[i*6+j]?=xs[i*6+j]?:=fun j hj=>List.getElem?_append_left (by omega);obtain⟨q0,q1,q2,q3,q4,D,dc,q5,q6⟩:=hx i q hq;exact⟨(hk 0 (by omega)).trans q0,(hk 1 (by omega)).trans q1,(hk 2 (by omega)).trans q2,(hk 3 (by omega)).trans q3,(hk 4 (by omega)).trans q4,D,dc,(hk 5 (by omega)).trans q5,q6⟩
 ·rw[List.getElem?_append_right hge]at hq;have h0:i-rs.length=0:=by
   have:=(List.getElem?_eq_some_iff.1 hq).1;simp at this;omega
  obtain rfl:i=rs.length:=by omega
  rw[h0]at hq;obtain rfl:r=q:=by simpa using hq
  have hk:∀j,(xs++[.bool r.pre,.int .i64 r.flag,.bool r.cross,.string r.strip,.string r.add,.slice A r.cond.length cap])[rs.length*6+j]?=[Value.bool r.pre,.int .i64 r.flag,.bool r.cross,.string r.strip,.string r.add,.slice A r.cond.length cap][j]?:=fun j=>by
   rw[List.getElem?_append_right (by omega),hl,Nat.add_sub_cancel_left]
  exact⟨hk 0,hk 1,hk 2,hk 3,hk 4,A,cap,hk 5,hi⟩
theorem RulesIn.mono {F F':Nat→Prop}{w:World}{xs:List Value}{rs:List Ru}(h:RulesIn F w xs rs)(hF:∀b,F b→F' b):RulesIn F' w xs rs:=
 ⟨h.1,fun i r hr=>by
  obtain⟨q0,q1,q2,q3,q4,D,dc,q5,q6⟩:=h.2 i r hr;exact⟨q0,q1,q2,q3,q4,D,dc,q5,q6.mono hF⟩⟩
theorem RulesIn.still {F:Nat→Prop}{w w':World}{xs:List Value}{rs:List Ru}(h:RulesIn F w xs rs)(hs:w.heap.size≤w'.heap.size)(hb:∀b,F b→b<w.heap.size→w'.heap[b]?=w.heap[b]?):RulesIn F w' xs rs:=
 ⟨h.1,fun i r hr=>by
  obtain⟨q0,q1,q2,q3,q4,D,dc,q5,q6⟩:=h.2 i r hr;exact⟨q0,q1,q2,q3,q4,D,dc,q5,q6.still hs hb⟩⟩
def pCells (ps:List (Int×Int)):List Value:=ps.flatMap fun p=>[.int .i64 p.1,.int .i64 p.2]
theorem pCells_at:∀(ps:List (Int×Int)) (i:Nat) p,ps[i]?=some p→(pCells ps)[i*2]?=some (.int .i64 p.1)∧(pCells ps)[i*2+1]?=some (.int .i64 p.2)
 | [],i,p,h=>by simp at h
 | q::ps,0,p,h=>by
   obtain rfl:q=p:=by simpa using h
   exact⟨rfl,rfl⟩
 | q::ps,i+1,p,h=>by
   have:=pCells_at ps i p (by simpa using h);rw[show (i+1)*2=i*2+2 by omega];exact this
structure AQ (w0 wr:World)(HA:Nat)(F:Nat→Prop)(rv pv tv:Value)(xs:List Value)(d:Rd):Prop where
 box:wr.heap[HA]?=some (.cells #[rv,pv] 57 (0,0))
 rrow:wr.ownsRow (HA+1) 123 6 rv d.rules.length xs
 rules:RulesIn F wr xs d.rules
 prow:wr.ownsRow (HA+1) 118 2 pv d.pairs.length (pCells d.pairs)
 trow:wr.ownsRow (HA+1) 3 1 tv d.at_.length (d.at_.map fun n=> .int .i64 (n:Nat))
 foot:∀b,F b→HA<b∧b<wr.heap.size∧rv.ownBlock≠some b∧pv.ownBlock≠some b∧tv.ownBlock≠some b
 base:w0.heap.size≤HA
 below:Below w0.heap.size w0 wr
theorem AQ.keep {w0 w w':World}{HA:Nat}{F:Nat→Prop}{rv pv tv:Value}{xs:List Value}{d:Rd}(h:AQ w0 w HA F rv pv tv xs d)(hb:Below w.heap.size w w'):AQ w0 w' HA F rv pv tv xs d:=
 ⟨(hb.block HA (Array.getElem?_eq_some_iff.1 h.box).1).trans h.box,own_keep9 h.rrow hb,h.rules.still hb.size fun b _ hlt=>hb.block b hlt,own_keep9 h.prow hb,own_keep9 h.trow hb,
   fun b hF=>by obtain⟨h1,h2,h3⟩:=h.foot b hF;exact⟨h1,Nat.lt_of_lt_of_le h2 hb.size,h3⟩,h.base,h.below.trans (hb.mono h.below.size)⟩
theorem own_types {w:World}{B e e' s s' n n':Nat}{v v':Value}{xs xs':List Value}(h:w.ownsRow B e s v n xs)(h':w.ownsRow B e' s' v' n' xs')(he:e≠e')(g:Nat)(hg:v.ownBlock=some g):v'.ownBlock≠some g:=by
 intro hg';rcases h.2 with ⟨rfl,_⟩|⟨q,cap,cur,rfl,_,h1,_⟩
 ·simp[Value.ownBlock]at hg
 ·rcases h'.2 with ⟨rfl,_⟩|⟨q',cap',cur',rfl,_,h1',_⟩
  ·simp[Value.ownBlock]at hg'
  ·obtain rfl:q=g:=by simpa[Value.ownBlock]using hg
   obtain rfl:q'=q:=by simpa[Value.ownBlock]using hg'
   rw[h1]at h1';injection Option.some.inj h1' with _ e2 _;exact he e2
theorem own_blk {w w':World}{B e s n:Nat}{v:Value}{xs:List Value}(h:w.ownsRow B e s v n xs)(hb:∀g,v.ownBlock=some g→w'.heap[g]?=w.heap[g]?):w'.ownsRow B e s v n xs:=by
 refine⟨h.1,?_⟩;rcases h.2 with h|⟨g,cap,cur,h1,h2,h3,h4⟩
 ·exact .inl h
 ·subst h1;exact .inr ⟨g,cap,cur,rfl,h2,(hb g rfl).trans h3,h4⟩
theorem set_other (w:World)(HA o:Nat)(v:Value){k:Nat}(hk:k≠HA):(w.setCell ⟨HA,o,none⟩ v).heap[k]?=w.heap[k]?:=Below.heap_setCell _ _ _ _ hk
theorem set_size (w:World)(a:Addr)(v:Value):(w.setCell a v).heap.size=w.heap.size:=by simp[World.setCell]
def Grew (w:World)(v v':Value):Prop:=v'.ownBlock=v.ownBlock∨∀g,v'.ownBlock=some g→w.heap.size≤g
theorem AQ.pair {w0 w w4:World}{HA:Nat}{F:Nat→Prop}{rv pv tv pv':Value}{xs:List Value}{d:Rd}{p:Int×Int}(h:AQ w0 w HA F rv pv tv xs d)
  (hown:w4.ownsRow (HA+1) 118 2 pv' (d.pairs.length+1) (pCells d.pairs++[.int .i64 p.1,.int .i64 p.2])) (hg:w.grownBy w4 pv.ownBlock) (hw:Grew w pv pv'):
  AQ w0 (w4.setCell ⟨HA,1,none⟩ pv') HA F rv pv' tv xs { d with pairs:=d.pairs++[p] }:=by
 have hHA:=(Array.getElem?_eq_some_iff.1 h.box).1;have pb:∀g,pv.ownBlock=some g→HA+1≤g∧g<w.heap.size:=h.prow.lt;have key:∀k,k<w.heap.size→k≠HA→some k≠pv.ownBlock→(w4.setCell ⟨HA,1,none⟩ pv').heap[k]?=w.heap[k]?:=fun k hk hne hp=>(set_other _ _ _ _ hne).trans (hg.block k hk hp);have hbox4:w4.heap[HA]?=some (.cells #[rv,pv] 57 (0,0)):=(hg.block HA hHA (fun e=>by have:=(pb HA e.symm).1;omega)).trans h.box;refine⟨by simp[World.setCell,Array.getElem?_modify,hbox4],own_blk h.rrow fun g hgr=>?_,?_,?_,own_blk h.trow fun g hgt=>?_,fun b hF=>?_,h.base,?_⟩
 ·have hlt:=h.rrow.lt g hgr;exact key g hlt.2 (by omega) (fun e=>own_types h.rrow h.prow (by decide) g hgr e.symm)
 ·refine h.rules.still (by rw[set_size];exact hg.size) fun b hF hlt=>?_;obtain⟨f1,_,_,f4,_⟩:=h.foot b hF;exact key b hlt (by omega) (fun e=>f4 e.symm)
 ·have e1:pCells (d.pairs++[p])=pCells d.pairs++[.int .i64 p.1,.int .i64 p.2]:=by simp[pCells]
  have e2:(d.pairs++[p]).length=d.pairs.length+1:=by simp
  show World.ownsRow _ _ _ _ _ (d.pairs++[p]).length (pCells (d.pairs++[p]));rw[e1,e2];refine own_blk hown fun g hgp=>set_other _ _ _ _ ?_;have:=(hown.lt g hgp).1;omega
 ·have hlt:=h.trow.lt g hgt;exact key g hlt.2 (by omega) (fun e=>own_types h.trow h.prow (by decide) g hgt e.symm)
 ·obtain⟨f1,f2,f3,f4,f5⟩:=h.foot b hF;refine⟨f1,by rw[set_size];exact Nat.lt_of_lt_of_le f2 hg.size,f3,fun e=>?_,f5⟩;rcases hw with hw|hw
  ·exact f4 (hw▸e)
  ·have:=hw b e;omega
 ·exact(h.below.grown hg h.below.size (fun k hk=>by have:=(pb k hk).1;have:=h.base;omega)).setCell (p:=⟨HA,1,none⟩) h.base _
theorem AQ.rule {w0 w w4 w5:World}{HA:Nat}{F:Nat→Prop}{rv pv tv rv' tv':Value}{xs:List Value}{d:Rd}{r:Ru}{A:Option Addr}{cap n:Nat}(h:AQ w0 w HA F rv pv tv xs d)(hi:ItemsIn F w (.slice A r.cond.length cap) r.cond)
  (hown:w4.ownsRow (HA+1) 123 6 rv' (d.rules.length+1) (xs++[.bool r.pre,.int .i64 r.flag,.bool r.cross,.string r.strip,.string r.add,.slice A r.cond.length cap])) (hg:w.grownBy w4 rv.ownBlock) (hw:Grew w rv rv')
  (hown2:w5.ownsRow (HA+1) 3 1 tv' (d.at_.length+1) ((d.at_.map fun n=> .int .i64 (n:Nat))++[.int .i64 n])) (hg2:w4.grownBy w5 tv.ownBlock) (hw2:Grew w4 tv tv'):
  AQ w0 (w5.setCell ⟨HA,0,none⟩ rv') HA F rv' pv tv' (xs++[.bool r.pre,.int .i64 r.flag,.bool r.cross,.string r.strip,.string r.add,.slice A r.cond.length cap]) { d with rules:=d.rules++[r],at_:=d.at_++[n] }:=by
 have hHA:=(Array.getElem?_eq_some_iff.1 h.box).1;have rb:∀g,rv.ownBlock=some g→HA+1≤g∧g<w.heap.size:=h.rrow.lt;have tb:∀g,tv.ownBlock=some g→HA+1≤g∧g<w.heap.size:=h.trow.lt;have key:∀k,k<w.heap.size→k≠HA→some k≠rv.ownBlock→some k≠tv.ownBlock→(w5.setCell ⟨HA,0,none⟩ rv').heap[k]?=w.heap[k]?:=fun k hk hne hr ht=>
  (set_other _ _ _ _ hne).trans ((hg2.block k (Nat.lt_of_lt_of_le hk hg.size) ht).trans (hg.block k hk hr))
 have hsz:w.heap.size≤w5.heap.size:=Nat.le_trans hg.size hg2.size;have hbox5:w5.heap[HA]?=some (.cells #[rv,pv] 57 (0,0)):=
  (hg2.block HA (Nat.lt_of_lt_of_le hHA hg.size) (fun e=>by have:=(tb HA e.symm).1;omega)).trans ((hg.block HA hHA (fun e=>by have:=(rb HA e.symm).1;omega)).trans h.box)
 have hstill:∀b,F b→b<w.heap.size→(w5.setCell ⟨HA,0,none⟩ rv').heap[b]?=w.heap[b]?:=fun b hF hlt=>by
  obtain⟨f1,_,f3,_,f5⟩:=h.foot b hF;exact key b hlt (by omega) (fun e=>f3 e.symm) (fun e=>f5 e.symm)
 refine⟨by simp[World.setCell,Array.getElem?_modify,hbox5],?_,?_,own_blk h.prow fun g hgp=>?_,?_,fun b hF=>?_,h.base,?_⟩
 ·have e2:(d.rules++[r]).length=d.rules.length+1:=by simp
  show World.ownsRow _ _ _ _ _ (d.rules++[r]).length _;rw[e2];refine own_blk hown fun g hgr=>(set_other _ _ _ _ ?_).trans (hg2.block g (hown.lt g hgr).2 ?_)
  ·have:=(hown.lt g hgr).1;omega
  ·intro e;have htv:tv.ownBlock=some g:=e.symm;rcases hw with hw|hw
   ·exact own_types h.rrow h.trow (by decide) g (hw▸hgr) htv
   ·have:=hw g hgr;have:=(tb g htv).2;omega
 ·exact(h.rules.snoc hi).still (by rw[set_size];exact hsz) hstill
 ·have hlt:=h.prow.lt g hgp;exact key g hlt.2 (by omega) (fun e=>own_types h.prow h.rrow (by decide) g hgp e.symm) (fun e=>own_types h.prow h.trow (by decide) g hgp e.symm)
 ·have e2:(d.at_++[n]).length=d.at_.length+1:=by simp
  show World.ownsRow _ _ _ _ _ (d.at_++[n]).length ((d.at_++[n]).map fun n=> .int .i64 (n:Nat));rw[e2,List.map_append];refine own_blk hown2 fun g hgt=>set_other _ _ _ _ ?_;have:=(hown2.lt g hgt).1;omega
 ·obtain⟨f1,f2,f3,f4,f5⟩:=h.foot b hF;refine⟨f1,by rw[set_size];exact Nat.lt_of_lt_of_le f2 hsz,fun e=>?_,f4,fun e=>?_⟩
  ·rcases hw with hw|hw
   ·exact f3 (hw▸e)
   ·have:=hw b e;omega
  ·rcases hw2 with hw2|hw2
   ·exact f5 (hw2▸e)
   ·have:=hw2 b e;have:=hg.size;omega
 ·have b4:=h.below.grown hg h.below.size (fun k hk=>by have:=(rb k hk).1;have:=h.base;omega);exact(b4.grown hg2 b4.size (fun k hk=>by have:=(tb k hk).1;have:=h.base;omega)).setCell (p:=⟨HA,0,none⟩) h.base _
theorem AQ.bad {w0 w:World}{HA:Nat}{F:Nat→Prop}{rv pv tv:Value}{xs:List Value}{d:Rd}(h:AQ w0 w HA F rv pv tv xs d)(b:Nat):AQ w0 w HA F rv pv tv xs { d with bad:=b }:=
 ⟨h.box,h.rrow,h.rules,h.prow,h.trow,h.foot,h.base,h.below⟩
theorem AQ.wide {w0 w w':World}{HA:Nat}{F:Nat→Prop}{rv pv tv:Value}{xs:List Value}{d:Rd}(h:AQ w0 w HA F rv pv tv xs d)(hb:Below w.heap.size w w'):
  AQ w0 w' HA (fun b=>F b∨(w.heap.size≤b∧b<w'.heap.size)) rv pv tv xs d:=by
 have hk:=h.keep hb;have hHA:=(Array.getElem?_eq_some_iff.1 h.box).1;refine⟨hk.box,hk.rrow,hk.rules.mono fun b hF=> .inl hF,hk.prow,hk.trow,fun b hF=>?_,hk.base,hk.below⟩;rcases hF with hF|⟨h1,h2⟩
 ·exact hk.foot b hF
 ·refine⟨by omega,h2,fun e=>?_,fun e=>?_,fun e=>?_⟩
  ·have:=(h.rrow.lt b e).2;omega
  ·have:=(h.prow.lt b e).2;omega
  ·have:=(h.trow.lt b e).2;omega
theorem AQ.reads {w0 w:World}{HA:Nat}{F:Nat→Prop}{rv pv tv:Value}{xs:List Value}{d:Rd}(h:AQ w0 w HA F rv pv tv xs d):AffAt w (.agg #[rv,pv]) ⟨d.rules,d.pairs⟩:=by
 have hR:∃A cap,rv= .slice A d.rules.length cap∧RulesAt w (.slice A d.rules.length cap) d.rules:=by
  have hc:= @World.ownsRow.cells _ _ _ _ _ _ _ h.rrow;rcases h.rrow.2 with ⟨rfl,h0⟩|⟨g,cap,cur,rfl,hb,hg,hnc,hcm,_⟩
  ·have hn:d.rules=[]:=List.eq_nil_of_length_eq_zero h0;exact⟨none,0,by rw[h0],.inl ⟨hn,none,0,by rw[h0]⟩⟩
  ·refine⟨_,cap,rfl,.inr ⟨g,0,cap,rfl,(Array.getElem?_eq_some_iff.1 hg).1,hnc,hcm,fun i r hr=>?_⟩⟩;obtain⟨q0,q1,q2,q3,q4,D,dc,q5,q6⟩:=h.rules.2 i r hr;have hcc:∀j u,xs[j]?=some u→w.cell? ⟨g,j,none⟩=some u:=fun j u hu=>by rw[←add9];exact hc (g:=g) rfl j u hu
   unfold RuCells;rw[Nat.zero_add];exact⟨hcc _ _ q0,hcc _ _ q1,hcc _ _ q2,hcc _ _ q3,hcc _ _ q4,D,dc,hcc _ _ q5,q6.at⟩
 have hP:∃A cap,pv= .slice A d.pairs.length cap∧PairsAt w (.slice A d.pairs.length cap) d.pairs:=by
  have hc:= @World.ownsRow.cells _ _ _ _ _ _ _ h.prow;rcases h.prow.2 with ⟨rfl,h0⟩|⟨g,cap,cur,rfl,hb,hg,hnc,hcm,_⟩
  ·have hn:d.pairs=[]:=List.eq_nil_of_length_eq_zero h0;exact⟨none,0,by rw[h0],.inl ⟨hn,none,0,by rw[h0]⟩⟩
  ·refine⟨_,cap,rfl,.inr ⟨g,0,cap,rfl,(Array.getElem?_eq_some_iff.1 hg).1,hnc,hcm,fun i p hp=>?_⟩⟩;obtain⟨q0,q1⟩:=pCells_at d.pairs i p hp;have hcc:∀j u,(pCells d.pairs)[j]?=some u→w.cell? ⟨g,j,none⟩=some u:=fun j u hu=>by rw[←add9];exact hc (g:=g) rfl j u hu
   rw[Nat.zero_add];exact⟨hcc _ _ q0,hcc _ _ q1⟩
 obtain⟨A,cA,rfl,hA⟩:=hR;obtain⟨B,cB,rfl,hB⟩:=hP;exact⟨A,cA,B,cB,rfl,hA,hB⟩
structure LQ (w0 wr:World)(HA:Nat)(F:Nat→Prop)(rv pv:Value)(xs:List Value)(d:Rd)(k m:Int):Prop where
 box:wr.heap[HA]?=some (.cells #[rv,pv,.int .i64 k,.int .i64 (d.bad:Nat),.int .i64 m] 93 (0,0))
 rrow:wr.ownsRow (HA+1) 123 6 rv d.rules.length xs
 rules:RulesIn F wr xs d.rules
 prow:wr.ownsRow (HA+1) 118 2 pv d.pairs.length (pCells d.pairs)
 foot:∀b,F b→HA<b∧b<wr.heap.size∧rv.ownBlock≠some b∧pv.ownBlock≠some b
 base:w0.heap.size≤HA
 below:Below w0.heap.size w0 wr
theorem LQ.keep {w0 w w':World}{HA:Nat}{F:Nat→Prop}{rv pv:Value}{xs:List Value}{d:Rd}{k m:Int}(h:LQ w0 w HA F rv pv xs d k m)(hb:Below w.heap.size w w'):LQ w0 w' HA F rv pv xs d k m:=
 ⟨(hb.block HA (Array.getElem?_eq_some_iff.1 h.box).1).trans h.box,own_keep9 h.rrow hb,h.rules.still hb.size fun b _ hlt=>hb.block b hlt,own_keep9 h.prow hb,
   fun b hF=>by obtain⟨h1,h2,h3⟩:=h.foot b hF;exact⟨h1,Nat.lt_of_lt_of_le h2 hb.size,h3⟩,h.base,h.below.trans (hb.mono h.below.size)⟩
theorem LQ.hi {w0 w:World}{HA:Nat}{F:Nat→Prop}{rv pv:Value}{xs:List Value}{d:Rd}{k m:Int}(h:LQ w0 w HA F rv pv xs d k m):HA+1≤w.heap.size:=(Array.getElem?_eq_some_iff.1 h.box).1
theorem LQ.boxc {w0 w:World}{HA:Nat}{F:Nat→Prop}{rv pv:Value}{xs:List Value}{d:Rd}{k m:Int}(h:LQ w0 w HA F rv pv xs d k m):
  w.cell? ⟨HA,0,none⟩=some rv∧w.cell? ⟨HA,1,none⟩=some pv∧w.cell? ⟨HA,2,none⟩=some (.int .i64 k)∧w.cell? ⟨HA,3,none⟩=some (.int .i64 (d.bad:Nat))∧w.cell? ⟨HA,4,none⟩=some (.int .i64 m)∧∀o,w.frozen? ⟨HA,o,none⟩=false:=by
 refine⟨?_,?_,?_,?_,?_,fun o=>?_⟩<;>simp[World.cell?,World.frozen?,h.box]
theorem LQ.put {w0 w:World}{HA:Nat}{F:Nat→Prop}{rv pv:Value}{xs:List Value}{d:Rd}{k m:Int}(h:LQ w0 w HA F rv pv xs d k m){o:Nat}{v:Value}{k' m':Int}{b:Nat}
  (hb:(w.setCell ⟨HA,o,none⟩ v).heap[HA]?=some (.cells #[rv,pv,.int .i64 k',.int .i64 (b:Nat),.int .i64 m'] 93 (0,0))):
  LQ w0 (w.setCell ⟨HA,o,none⟩ v) HA F rv pv xs { d with bad:=b } k' m':=by
 refine⟨hb,own_blk h.rrow fun g hg=>set_other _ _ _ _ ?_,h.rules.still (by rw[set_size];exact Nat.le_refl _) fun b hF _=>set_other _ _ _ _ ?_,own_blk h.prow fun g hg=>set_other _ _ _ _ ?_,fun b hF=>by rw[set_size];exact h.foot b hF,h.base,h.below.setCell (p:=⟨HA,o,none⟩) h.base _⟩
 ·have:=(h.rrow.lt g hg).1;omega
 ·have:=(h.foot b hF).1;omega
 ·have:=(h.prow.lt g hg).1;omega
theorem LQ.lines {w0 w:World}{HA:Nat}{F:Nat→Prop}{rv pv:Value}{xs:List Value}{d:Rd}{k m:Int}(h:LQ w0 w HA F rv pv xs d k m)(k':Int):
 LQ w0 (w.setCell ⟨HA,2,none⟩ (.int .i64 k')) HA F rv pv xs d k' m:=h.put (b:=d.bad) (by simp[World.setCell,Array.getElem?_modify,h.box])
theorem LQ.bad {w0 w:World}{HA:Nat}{F:Nat→Prop}{rv pv:Value}{xs:List Value}{d:Rd}{k m:Int}(h:LQ w0 w HA F rv pv xs d k m)(b:Nat):
 LQ w0 (w.setCell ⟨HA,3,none⟩ (.int .i64 b)) HA F rv pv xs { d with bad:=b } k m:=h.put (b:=b) (by simp[World.setCell,Array.getElem?_modify,h.box])
theorem LQ.mixed {w0 w:World}{HA:Nat}{F:Nat→Prop}{rv pv:Value}{xs:List Value}{d:Rd}{k m:Int}(h:LQ w0 w HA F rv pv xs d k m)(m':Int):
 LQ w0 (w.setCell ⟨HA,4,none⟩ (.int .i64 m')) HA F rv pv xs d k m':=h.put (b:=d.bad) (by simp[World.setCell,Array.getElem?_modify,h.box])
theorem LQ.pair {w0 w w4:World}{HA:Nat}{F:Nat→Prop}{rv pv pv':Value}{xs:List Value}{d:Rd}{k m:Int}{p:Int×Int}(h:LQ w0 w HA F rv pv xs d k m)
  (hown:w4.ownsRow (HA+1) 118 2 pv' (d.pairs.length+1) (pCells d.pairs++[.int .i64 p.1,.int .i64 p.2])) (hg:w.grownBy w4 pv.ownBlock) (hw:Grew w pv pv'):
  LQ w0 (w4.setCell ⟨HA,1,none⟩ pv') HA F rv pv' xs { d with pairs:=d.pairs++[p] } k m:=by
 have hHA:=(Array.getElem?_eq_some_iff.1 h.box).1;have pb:∀g,pv.ownBlock=some g→HA+1≤g∧g<w.heap.size:=h.prow.lt;have key:∀k,k<w.heap.size→k≠HA→some k≠pv.ownBlock→(w4.setCell ⟨HA,1,none⟩ pv').heap[k]?=w.heap[k]?:=fun k hk hne hp=>(set_other _ _ _ _ hne).trans (hg.block k hk hp);have hbox4:w4.heap[HA]?=some (.cells #[rv,pv,.int .i64 k,.int .i64 (d.bad:Nat),.int .i64 m] 93 (0,0)):=(hg.block HA hHA (fun e=>by have:=(pb HA e.symm).1;omega)).trans h.box;refine⟨by simp[World.setCell,Array.getElem?_modify,hbox4],own_blk h.rrow fun g hgr=>?_,?_,?_,fun b hF=>?_,h.base,?_⟩
 ·have hlt:=h.rrow.lt g hgr;exact key g hlt.2 (by omega) (fun e=>own_types h.rrow h.prow (by decide) g hgr e.symm)
 ·refine h.rules.still (by rw[set_size];exact hg.size) fun b hF hlt=>?_;obtain⟨f1,_,_,f4⟩:=h.foot b hF;exact key b hlt (by omega) (fun e=>f4 e.symm)
 ·have e1:pCells (d.pairs++[p])=pCells d.pairs++[.int .i64 p.1,.int .i64 p.2]:=by simp[pCells]
  have e2:(d.pairs++[p]).length=d.pairs.length+1:=by simp
  show World.ownsRow _ _ _ _ _ (d.pairs++[p]).length (pCells (d.pairs++[p]));rw[e1,e2];refine own_blk hown fun g hgp=>set_other _ _ _ _ ?_;have:=(hown.lt g hgp).1;omega
 ·obtain⟨f1,f2,f3,f4⟩:=h.foot b hF;refine⟨f1,by rw[set_size];exact Nat.lt_of_lt_of_le f2 hg.size,f3,fun e=>?_⟩;rcases hw with hw|hw
  ·exact f4 (hw▸e)
  ·have:=hw b e;omega
 ·exact(h.below.grown hg h.below.size (fun k hk=>by have:=(pb k hk).1;have:=h.base;omega)).setCell (p:=⟨HA,1,none⟩) h.base _
theorem LQ.rule {w0 w w4:World}{HA:Nat}{F:Nat→Prop}{rv pv rv':Value}{xs:List Value}{d:Rd}{k m:Int}{r:Ru}{A:Option Addr}{cap n:Nat}(h:LQ w0 w HA F rv pv xs d k m)(hi:ItemsIn F w (.slice A r.cond.length cap) r.cond)
  (hown:w4.ownsRow (HA+1) 123 6 rv' (d.rules.length+1) (xs++[.bool r.pre,.int .i64 r.flag,.bool r.cross,.string r.strip,.string r.add,.slice A r.cond.length cap])) (hg:w.grownBy w4 rv.ownBlock) (hw:Grew w rv rv'):
  LQ w0 (w4.setCell ⟨HA,0,none⟩ rv') HA F rv' pv (xs++[.bool r.pre,.int .i64 r.flag,.bool r.cross,.string r.strip,.string r.add,.slice A r.cond.length cap]) { d with rules:=d.rules++[r],at_:=d.at_++[n] } k m:=by
 have hHA:=(Array.getElem?_eq_some_iff.1 h.box).1;have rb:∀g,rv.ownBlock=some g→HA+1≤g∧g<w.heap.size:=h.rrow.lt;have key:∀k,k<w.heap.size→k≠HA→some k≠rv.ownBlock→(w4.setCell ⟨HA,0,none⟩ rv').heap[k]?=w.heap[k]?:=fun k hk hne hp=>(set_other _ _ _ _ hne).trans (hg.block k hk hp);have hbox4:w4.heap[HA]?=some (.cells #[rv,pv,.int .i64 k,.int .i64 (d.bad:Nat),.int .i64 m] 93 (0,0)):=(hg.block HA hHA (fun e=>by have:=(rb HA e.symm).1;omega)).trans h.box;have hstill:∀b,F b→b<w.heap.size→(w4.setCell ⟨HA,0,none⟩ rv').heap[b]?=w.heap[b]?:=fun b hF hlt=>by
  obtain⟨f1,_,f3,_⟩:=h.foot b hF;exact key b hlt (by omega) (fun e=>f3 e.symm)
 refine⟨by simp[World.setCell,Array.getElem?_modify,hbox4],?_,?_,own_blk h.prow fun g hgp=>?_,fun b hF=>?_,h.base,?_⟩
 ·have e2:(d.rules++[r]).length=d.rules.length+1:=by simp
  show World.ownsRow _ _ _ _ _ (d.rules++[r]).length _;rw[e2];refine own_blk hown fun g hgr=>set_other _ _ _ _ ?_;have:=(hown.lt g hgr).1;omega
 ·exact(h.rules.snoc hi).still (by rw[set_size];exact hg.size) hstill
 ·have hlt:=h.prow.lt g hgp;exact key g hlt.2 (by omega) (fun e=>own_types h.prow h.rrow (by decide) g hgp e.symm)
 ·obtain⟨f1,f2,f3,f4⟩:=h.foot b hF;refine⟨f1,by rw[set_size];exact Nat.lt_of_lt_of_le f2 hg.size,fun e=>?_,f4⟩;rcases hw with hw|hw
  ·exact f3 (hw▸e)
  ·have:=hw b e;omega
 ·exact(h.below.grown hg h.below.size (fun k hk=>by have:=(rb k hk).1;have:=h.base;omega)).setCell (p:=⟨HA,0,none⟩) h.base _
theorem LQ.wide {w0 w w':World}{HA:Nat}{F:Nat→Prop}{rv pv:Value}{xs:List Value}{d:Rd}{k m:Int}(h:LQ w0 w HA F rv pv xs d k m)(hb:Below w.heap.size w w'):
  LQ w0 w' HA (fun b=>F b∨(w.heap.size≤b∧b<w'.heap.size)) rv pv xs d k m:=by
 have hk:=h.keep hb;have hHA:=(Array.getElem?_eq_some_iff.1 h.box).1;refine⟨hk.box,hk.rrow,hk.rules.mono fun b hF=> .inl hF,hk.prow,fun b hF=>?_,hk.base,hk.below⟩;rcases hF with hF|⟨h1,h2⟩
 ·exact hk.foot b hF
 ·refine⟨by omega,h2,fun e=>?_,fun e=>?_⟩
  ·have:=(h.rrow.lt b e).2;omega
  ·have:=(h.prow.lt b e).2;omega
theorem LQ.reads {w0 w:World}{HA:Nat}{F:Nat→Prop}{rv pv:Value}{xs:List Value}{d:Rd}{k m:Int}(h:LQ w0 w HA F rv pv xs d k m):AffAt w (.agg #[rv,pv]) ⟨d.rules,d.pairs⟩:=by
 have hR:∃A cap,rv= .slice A d.rules.length cap∧RulesAt w (.slice A d.rules.length cap) d.rules:=by
  have hc:= @World.ownsRow.cells _ _ _ _ _ _ _ h.rrow;rcases h.rrow.2 with ⟨rfl,h0⟩|⟨g,cap,cur,rfl,hb,hg,hnc,hcm,_⟩
  ·have hn:d.rules=[]:=List.eq_nil_of_length_eq_zero h0;exact⟨none,0,by rw[h0],.inl ⟨hn,none,0,by rw[h0]⟩⟩
  ·refine⟨_,cap,rfl,.inr ⟨g,0,cap,rfl,(Array.getElem?_eq_some_iff.1 hg).1,hnc,hcm,fun i r hr=>?_⟩⟩;obtain⟨q0,q1,q2,q3,q4,D,dc,q5,q6⟩:=h.rules.2 i r hr;have hcc:∀j u,xs[j]?=some u→w.cell? ⟨g,j,none⟩=some u:=fun j u hu=>by rw[←add9];exact hc (g:=g) rfl j u hu
   unfold RuCells;rw[Nat.zero_add];exact⟨hcc _ _ q0,hcc _ _ q1,hcc _ _ q2,hcc _ _ q3,hcc _ _ q4,D,dc,hcc _ _ q5,q6.at⟩
 have hP:∃A cap,pv= .slice A d.pairs.length cap∧PairsAt w (.slice A d.pairs.length cap) d.pairs:=by
  have hc:= @World.ownsRow.cells _ _ _ _ _ _ _ h.prow;rcases h.prow.2 with ⟨rfl,h0⟩|⟨g,cap,cur,rfl,hb,hg,hnc,hcm,_⟩
  ·have hn:d.pairs=[]:=List.eq_nil_of_length_eq_zero h0;exact⟨none,0,by rw[h0],.inl ⟨hn,none,0,by rw[h0]⟩⟩
  ·refine⟨_,cap,rfl,.inr ⟨g,0,cap,rfl,(Array.getElem?_eq_some_iff.1 hg).1,hnc,hcm,fun i p hp=>?_⟩⟩;obtain⟨q0,q1⟩:=pCells_at d.pairs i p hp;have hcc:∀j u,(pCells d.pairs)[j]?=some u→w.cell? ⟨g,j,none⟩=some u:=fun j u hu=>by rw[←add9];exact hc (g:=g) rfl j u hu
   rw[Nat.zero_add];exact⟨hcc _ _ q0,hcc _ _ q1⟩
 obtain⟨A,cA,rfl,hA⟩:=hR;obtain⟨B,cB,rfl,hB⟩:=hP;exact⟨A,cA,B,cB,rfl,hA,hB⟩
theorem LQ.forms {w0 w:World}{HA:Nat}{F:Nat→Prop}{rv pv:Value}{xs:List Value}{d:Rd}{k m:Int}(h:LQ w0 w HA F rv pv xs d k m):
  ∃A c B c',rv= .slice A d.rules.length c∧pv= .slice B d.pairs.length c'∧RulesAt w (.slice A d.rules.length c) d.rules∧PairsAt w (.slice B d.pairs.length c') d.pairs:=by
 obtain⟨A,c,B,c',e,h1,h2⟩:=h.reads;injection e with e;simp only[Array.mk.injEq,List.cons.injEq,and_true]at e;exact⟨A,c,B,c',e.1,e.2,h1,h2⟩
end Go.Proofs.YtfehpcbmdancoaaGreatDoor.Af
namespace Go.Proofs.YtfehpcbmdancoaaGreatDoor
open Go Go.RowKit
def parseAll (cs:List Int):Option (List It):=parseF cs.length cs
theorem parseF_two:∀(f g:Nat) (cs:List Int),cs.length≤f→cs.length≤g→parseF f cs=parseF g cs
 | 0,g,cs,hf,_=>by
   have:cs=[]:=List.eq_nil_of_length_eq_zero (by omega);subst this;cases g<;>simp[parseF]
 | f+1,0,cs,_,hg=>by
   have:cs=[]:=List.eq_nil_of_length_eq_zero (by omega);subst this;simp[parseF]
 | f+1,g+1,cs,hf,hg=>by
   unfold parseF;split
   ·rfl
   ·split
    ·rfl
    ·rename_i it r hh;have:=(headC_says hh).2.2.1;rw[parseF_two f g r (by omega) (by omega)]
theorem parseAll_nil:parseAll []=some []:=rfl
theorem parseAll_none {c:Int}{r:List Int}(h:headC (c::r)=none):parseAll (c::r)=none:=by
 unfold parseAll;rw[List.length_cons];unfold parseF;rw[if_neg (by simp),h]
theorem parseAll_some {c:Int}{r r':List Int}{it:It}(h:headC (c::r)=some (it,r')):parseAll (c::r)=(parseAll r').map fun l=>it::l:=by
 have hl:=(headC_says h).2.2.1;unfold parseAll;rw[List.length_cons]at hl⊢;rw[parseF.eq_2,if_neg (by simp),h];dsimp only;rw[parseF_two r.length r'.length r' (by omega) (Nat.le_refl _)]
theorem parseC_all (cs:List Int):parseC cs=match parseAll cs with
 | none=>none
 | some l=>if 0<l.length∧l.length≤8 then some l else none:=rfl
theorem takeSet_none:∀(cs:List Int),(∀c∈cs,c≠93)→takeSet cs=none
 | [],_=>rfl
 | c::r,h=>by
   unfold takeSet;rw[if_neg (h c (List.mem_cons_self ..)),takeSet_none r fun x hx=>h x (List.mem_cons_of_mem _ hx)];rfl
def Read (cs:List Int)(done:List It)(k:Nat):Prop:=parseAll cs=(parseAll (cs.drop k)).map fun l=>done++l
theorem Read.start (cs:List Int):Read cs [] 0:=by
 unfold Read;rw[List.drop_zero];cases parseAll cs<;>simp
theorem dropc {cs:List Int}{k:Nat}{c:Int}(h:cs[k]?=some c):cs.drop k=c::cs.drop (k+1):=by
 have hk:=(List.getElem?_eq_some_iff.1 h).1;rw[List.drop_eq_getElem_cons hk];have:=List.getElem?_eq_getElem hk;rw[h]at this;rw[Option.some.inj this]
theorem Read.fails {cs:List Int}{done:List It}{k:Nat}{c:Int}(h:Read cs done k)(hc:cs[k]?=some c)(hn:headC (c::cs.drop (k+1))=none):parseAll cs=none:=by
 unfold Read at h;rw[dropc hc,parseAll_none hn]at h;exact h
theorem Read.step {cs:List Int}{done:List It}{k k':Nat}{c:Int}{it:It}(h:Read cs done k)(hc:cs[k]?=some c)(hn:headC (c::cs.drop (k+1))=some (it,cs.drop k')):Read cs (done++[it]) k':=by
 unfold Read at h⊢;rw[dropc hc,parseAll_some hn]at h;rw[h];cases parseAll (cs.drop k')<;>simp
theorem Read.ends {cs:List Int}{done:List It}{k:Nat}(h:Read cs done k)(hk:cs.length≤k):parseAll cs=some done:=by
 unfold Read at h;rw[List.drop_eq_nil_of_le hk,parseAll_nil]at h;simpa using h
theorem head_any (r:List Int):headC (46::r)=some (⟨true,false,[]⟩,r):=rfl
theorem head_bad (r:List Int):headC (93::r)=none:=rfl
theorem head_one {c:Int}(r:List Int)(h1:c≠46)(h2:c≠93)(h3:c≠91):headC (c::r)=some (⟨false,false,[c]⟩,r):=by
 rw[headC_cons,if_neg h1,if_neg h2,if_neg h3]
theorem head_set (r:List Int):headC (91::r)=if r.head?=some 94 then setC true r.tail else setC false r:=rfl
theorem set_none {cs:List Int}{k2:Nat}(h:∀c∈cs.drop k2,c≠93)(neg:Bool):setC neg (cs.drop k2)=none:=by
 unfold setC;rw[takeSet_none _ h]
theorem set_found {cs:List Int}{k2 j:Nat}(hkj:k2≤j)(h:∀c∈(cs.drop k2).take (j-k2),c≠93)(hj:cs[j]?=some 93)(neg:Bool):
  setC neg (cs.drop k2)=if (cs.drop k2).take (j-k2)=[]then none else some (⟨false,neg,(cs.drop k2).take (j-k2)⟩,cs.drop (j+1)):=by
 have hs:cs.drop k2=(cs.drop k2).take (j-k2)++93::cs.drop (j+1):=by
  have h1:=List.take_append_drop (j-k2) (cs.drop k2);rw[List.drop_drop,show k2+(j-k2)=j by omega,dropc hj]at h1;exact h1.symm
 unfold setC;have ht:takeSet (cs.drop k2)=some ((cs.drop k2).take (j-k2),cs.drop (j+1)):=by
  have:=takeSet_app ((cs.drop k2).take (j-k2)) (cs.drop (j+1)) h;rw[←hs]at this;exact this
 rw[ht]
def iCells9 (it:It)(sv:Value):List Value:=[.bool it.any,.bool it.not,sv]
def RowI (w:World)(xs:List Value)(l:List It)(N:Nat→Prop):Prop:=
 ∀(i:Nat) it,l[i]?=some it→∃sv,xs[i*3]?=some (.bool it.any)∧xs[i*3+1]?=some (.bool it.not)∧xs[i*3+2]?=some sv∧IntsAt w sv it.set∧∀b,sv.ownBlock=some b→b<w.heap.size∧¬N b
structure PM (w0 w:World)(v vc:Value)(xs:List Value)(l:List It)(cs:List Int)(N:Nat→Prop):Prop where
 row:w.ownsRow w0.heap.size 236 3 v l.length xs
 codes:w.ownsRow w0.heap.size 3 1 vc cs.length (cs.map (Value.int .i64))
 sets:RowI w xs l (fun b=>v.ownBlock=some b∨vc.ownBlock=some b∨N b)
 below:Below w0.heap.size w0 w
 mine:∀b,N b→w0.heap.size≤b∧b<w.heap.size∧v.ownBlock≠some b∧vc.ownBlock≠some b
 fresh:FreshX w0.heap.size xs l
theorem apart9 {w:World}{B e e' size size' n n':Nat}{v v':Value}{xs xs':List Value}(h:w.ownsRow B e size v n xs)(h':w.ownsRow B e' size' v' n' xs')(hne:e≠e'):v.ownBlock=none∨v.ownBlock≠v'.ownBlock:=by
 rcases h.2 with ⟨rfl,_⟩|⟨g,cap,cur,rfl,_,hg,_⟩
 ·left;rfl
 ·right;rcases h'.2 with ⟨rfl,_⟩|⟨g',cap',cur',rfl,_,hg',_⟩
  ·simp[Value.ownBlock]
  ·simp only[Value.ownBlock];intro e1;obtain rfl:g=g':=Option.some.inj e1;rw[hg]at hg';simp at hg';exact hne hg'.2
theorem ints_still {w w':World}{v:Value}{cs:List Int}(h:IntsAt w v cs)(hs:w.heap.size≤w'.heap.size)(hb:∀b,v.ownBlock=some b→b<w.heap.size→w'.heap[b]?=w.heap[b]?):IntsAt w' v cs:=by
 rcases h with h|⟨b,off,cap,rfl,h1,h2,h3,h4⟩
 ·exact .inl h
 ·exact .inr ⟨b,off,cap,rfl,Nat.lt_of_lt_of_le h1 hs,h2,h3,fun i c hc=>(by unfold World.cell?;rw[show (⟨b,off+i,none⟩:Addr).block=b from rfl,hb b rfl h1];exact h4 i c hc)⟩
theorem RowI.still {w w':World}{xs:List Value}{l:List It}{N N':Nat→Prop}(h:RowI w xs l N)(hs:w.heap.size≤w'.heap.size)(hb:∀b,b<w.heap.size→¬N b→w'.heap[b]?=w.heap[b]?)(hN:∀b,b<w.heap.size→N' b→N b):RowI w' xs l N':=by
 intro i it hi;obtain⟨sv,h1,h2,h3,h4,h5⟩:=h i it hi;exact⟨sv,h1,h2,h3,ints_still h4 hs fun b hv hlt=>hb b hlt (h5 b hv).2,fun b hv=>⟨Nat.lt_of_lt_of_le (h5 b hv).1 hs,fun hn=>(h5 b hv).2 (hN b (h5 b hv).1 hn)⟩⟩
theorem RowI.snoc {w:World}{xs:List Value}{l:List It}{N:Nat→Prop}(h:RowI w xs l N)(hl:xs.length=l.length*3){it:It}{sv:Value}(hv:IntsAt w sv it.set)(hb:∀b,sv.ownBlock=some b→b<w.heap.size∧¬N b):RowI w (xs++iCells9 it sv) (l++[it]) N:=by
 intro i x hi;rcases Nat.lt_or_ge i l.length with hlt|hge
 ·rw[List.getElem?_append_left hlt]at hi;obtain⟨s,h1,h2,h3,h4,h5⟩:=h i x hi;exact⟨s,by rw[List.getElem?_append_left (by omega)];exact h1,by rw[List.getElem?_append_left (by omega)];exact h2,by rw[List.getElem?_append_left (by omega)];exact h3,h4,h5⟩
 ·rw[List.getElem?_append_right hge]at hi;have h0:i-l.length=0:=by
   have:=(List.getElem?_eq_some_iff.1 hi).1;simp at this;omega
  rw[h0]at hi;obtain rfl:it=x:=by simpa using hi
  obtain rfl:i=l.length:=by omega
  refine⟨sv,?_,?_,?_,hv,hb⟩
  ·rw[List.getElem?_append_right (by omega),hl,Nat.sub_self];rfl
  ·rw[List.getElem?_append_right (by omega),hl,show l.length*3+1-l.length*3=1 by omega];rfl
  ·rw[List.getElem?_append_right (by omega),hl,show l.length*3+2-l.length*3=2 by omega];rfl
section
variable {w0 w w' : World} {v vc : Value} {xs : List Value} {l : List It} {cs : List Int} {N : Nat → Prop}
theorem PM.alloc (h:PM w0 w v vc xs l cs N)(o:Obj):PM w0 (w.alloc o) v vc xs l cs (fun b=>N b∨b=w.heap.size):=by
 refine⟨h.row.alloc o,h.codes.alloc o,h.sets.still (by simp) (fun b hb _=>Below.heap_alloc _ _ _ hb) (fun b hlt hn=>?_),h.below.alloc h.below.size o,fun b hb=>?_,h.fresh⟩
 ·rcases hn with hn|hn|hn|hn
  ·exact .inl hn
  ·exact .inr (.inl hn)
  ·exact .inr (.inr hn)
  ·omega
 ·rcases hb with hb|rfl
  ·obtain⟨h1,h2,h3,h4⟩:=h.mine b hb;exact⟨h1,by rw[World.size_alloc];omega,h3,h4⟩
  ·exact⟨h.below.size,by rw[World.size_alloc];omega,fun e=>by have:=(h.row.lt _ e).2;omega,fun e=>by have:=(h.codes.lt _ e).2;omega⟩
theorem PM.less (h:PM w0 w v vc xs l cs N){N':Nat→Prop}(hN:∀b,N' b→N b):PM w0 w v vc xs l cs N':=
 ⟨h.row,h.codes,h.sets.still (Nat.le_refl _) (fun _ _ _=>rfl) (fun b _ hn=>hn.elim .inl (fun e=>e.elim (fun e=> .inr (.inl e)) (fun e=> .inr (.inr (hN b e))))),h.below,fun b hb=>h.mine b (hN b hb),h.fresh⟩
theorem own_kept9 {w w':World}{B e size n:Nat}{v:Value}{xs:List Value}(h:w.ownsRow B e size v n xs)(hk:∀g,v.ownBlock=some g→w'.heap[g]?=w.heap[g]?):w'.ownsRow B e size v n xs:=by
 refine⟨h.1,?_⟩;rcases h.2 with hn|⟨g,cap,cur,rfl,hgb,hgg,rest⟩
 ·exact .inl hn
 ·exact .inr ⟨g,cap,cur,rfl,hgb,(hk g rfl).trans hgg,rest⟩
theorem PM.write (h:PM w0 w v vc xs l cs N)(ho:OnlyAt N w w'):PM w0 w' v vc xs l cs N:=by
 refine⟨own_kept9 h.row fun g hg=>ho.block g (h.row.lt g hg).2 (fun e=>(h.mine g e).2.2.1 hg),own_kept9 h.codes fun g hg=>ho.block g (h.codes.lt g hg).2 (fun e=>(h.mine g e).2.2.2 hg),h.sets.still ho.size (fun b hlt hn=>ho.block b hlt (fun e=>hn (.inr (.inr e)))) (fun _ _ hn=>hn),OnlyAt.below h.below ho h.below.size fun k hk=>(h.mine k hk).1,fun b hb=>?_,h.fresh⟩;obtain⟨h1,h2,h3,h4⟩:=h.mine b hb;exact⟨h1,Nat.lt_of_lt_of_le h2 ho.size,h3,h4⟩
theorem PM.item {v':Value}{it:It}{sv:Value}(h:PM w0 w v vc xs l cs N)(hown:w'.ownsRow w0.heap.size 236 3 v' (l.length+1) (xs++iCells9 it sv))(hgrow:w.grownBy w' v.ownBlock)
  (hwh:v'.ownBlock=v.ownBlock∨∀g,v'.ownBlock=some g→w.heap.size≤g) (hv:IntsAt w sv it.set) (hb:∀b,sv.ownBlock=some b→N b):PM w0 w' v' vc (xs++iCells9 it sv) (l++[it]) cs (fun _=>False):=by
 have hlo:∀z,v.ownBlock=some z→w0.heap.size≤z:=fun z hz=>(h.row.lt z hz).1;have h0:RowI w xs l (fun b=>v.ownBlock=some b∨vc.ownBlock=some b):=h.sets.still (Nat.le_refl _) (fun _ _ _=>rfl) (fun b _ hn=>hn.elim .inl (fun e=> .inr (.inl e)));have h1:RowI w (xs++iCells9 it sv) (l++[it]) (fun b=>v.ownBlock=some b∨vc.ownBlock=some b):=h0.snoc h.row.1 hv fun b hvb=>⟨(h.mine b (hb b hvb)).2.1,fun hn=>hn.elim (h.mine b (hb b hvb)).2.2.1 (h.mine b (hb b hvb)).2.2.2⟩;refine⟨by rw[List.length_append];exact hown,h.codes.kept hgrow ?_,h1.still hgrow.size (fun b hlt hn=>hgrow.block b hlt (fun e=>hn (.inl e.symm))) (fun b hlt hn=>?_),h.below.grown hgrow h.below.size hlo,fun b hb=>hb.elim,h.fresh.snoc h.row.1 fun g hg=>(h.mine g (hb g hg)).1⟩
 ·rcases apart9 h.codes h.row (by decide)with e|e
  ·exact .inl e
  ·exact .inr e
 ·rcases hn with hn|hn|hn
  ·rcases hwh with e|e
   ·exact .inl (e▸hn)
   ·have:=e b hn;omega
  ·exact .inr hn
  ·exact hn.elim
theorem PM.reads (h:PM w0 w v vc xs l cs N):ItemsNew w0.heap.size w v l:=by
 have hadd:∀(g j:Nat),(⟨g,0,none⟩:Addr).add j=⟨g,j,none⟩:=fun g j=>by unfold Addr.add;split<;>simp_all
 have hc:= @World.ownsRow.cells _ _ _ _ _ _ _ h.row;rcases h.row.2 with ⟨rfl,h0⟩|⟨g,cap,cur,rfl,hb,hg,hnc,hcm,_⟩
 ·exact .inl ⟨List.eq_nil_of_length_eq_zero h0,_,_,rfl⟩
 ·refine .inr ⟨g,0,cap,rfl,(Array.getElem?_eq_some_iff.1 hg).1,hb,hnc,hcm,fun i it hi=>?_⟩;obtain⟨sv,h1,h2,h3,h4,_⟩:=h.sets i it hi;rw[Nat.zero_add];exact⟨by rw[←hadd];exact hc (g:=g) rfl _ _ h1,by rw[←hadd];exact hc (g:=g) rfl _ _ h2,sv,by rw[←hadd];exact hc (g:=g) rfl _ _ h3,h4,h.fresh i it hi sv h3⟩
end
end Go.Proofs.YtfehpcbmdancoaaGreatDoor
namespace Go.Proofs.YtfehpcbmdancoaaGreatDoor
open Go Go.RowKit Go.Lib
theorem Tryz.infosP236:(Tryz.prog.info? 236).map (fun i=>(i.zero,i.size,i.bytes))=some (some (.agg #[.bool false,.bool false,.slice none 0 0]),3,32):=by kernel_rfl
theorem Tryz.infosP3:(Tryz.prog.info? 3).map (fun i=>(i.zero,i.size,i.bytes))=some (some (.int .i64 0),1,8):=by kernel_rfl
theorem news_rowP (w:World)(cs:Array Value)(t:TypeId):∀j u,cs.toList[j]?=some u→(w.alloc (.cells cs t)).cell? ((⟨w.heap.size,0,none⟩:Addr).add j)=some u:=by
 intro j u hu;have hadd:(⟨w.heap.size,0,none⟩:Addr).add j=⟨w.heap.size,j,none⟩:=by unfold Addr.add;split<;>simp_all
 rw[hadd,cell_of_row _ w.heap.size j cs t (0,0) (World.alloc_heap_new w _)];simpa using hu
theorem news_rowP2 (w:World)(o:Obj)(cs:Array Value)(t:TypeId):∀j u,cs.toList[j]?=some u→((w.alloc o).alloc (.cells cs t)).cell? ((⟨w.heap.size+1,0,none⟩:Addr).add j)=some u:=by
 have:=news_rowP (w.alloc o) cs t;rwa[World.size_alloc]at this
theorem add_plain9 (g j:Nat):(⟨g,0,none⟩:Addr).add j=⟨g,j,none⟩:=by unfold Addr.add;split<;>simp_all
theorem item_one (a b:Bool)(sv:Value)(h:sv.oneCell'=true):∀u∈[Value.bool a,.bool b,sv],u.oneCell'=true:=by
 intro u hu;simp only[List.mem_cons,List.not_mem_nil,or_false]at hu;rcases hu with rfl|rfl|rfl
 ·rfl
 ·rfl
 ·exact h
theorem lit_ints (w:World)(c:Int)(t:TypeId)(o:Obj):IntsAt ((w.alloc (.cells #[.int .i64 c] t)).alloc o) (.slice (some ⟨w.heap.size,0,none⟩) 1 1) [c]:=
 (IntsAt.lit w [c] _ t rfl (by simp)).keep ((Below.refl _ _).alloc (Nat.le_refl _) _)
theorem PM.goes {w0 w w':World}{v vc:Value}{xs:List Value}{l:List It}{cs:List Int}{N N':Nat→Prop}(h:PM w0 w v vc xs l cs N)(ho:OnlyAt N w w')(hN:∀b,N' b→N b∨(w.heap.size≤b∧b<w'.heap.size)):PM w0 w' v vc xs l cs N':=by
 have h1:=h.write ho;refine⟨h1.row,h1.codes,h.sets.still ho.size (fun b hlt hn=>ho.block b hlt (fun e=>hn (.inr (.inr e)))) (fun b hlt hn=>?_),h1.below,fun b hb=>?_,h1.fresh⟩
 ·rcases hn with hn|hn|hn
  ·exact .inl hn
  ·exact .inr (.inl hn)
  ·rcases hN b hn with e|e
   ·exact .inr (.inr e)
   ·omega
 ·rcases hN b hb with e|e
  ·exact h1.mine b e
  ·exact⟨Nat.le_trans h.below.size e.1,e.2,fun e2=>by have:=(h.row.lt _ e2).2;omega,fun e2=>by have:=(h.codes.lt _ e2).2;omega⟩
theorem ints_ownP {w:World}{B:Nat}{vc:Value}{cs:List Int}(h:w.ownsRow B 3 1 vc cs.length (cs.map (Value.int .i64))):IntsAt w vc cs:=by
 have hc:= @World.ownsRow.cells _ _ _ _ _ _ _ h;rcases h.2 with ⟨rfl,h0⟩|⟨g,cap,cur,rfl,hb,hg,hnc,hcm,_⟩
 ·exact .inl ⟨List.eq_nil_of_length_eq_zero h0,_,_,rfl⟩
 ·refine .inr ⟨g,0,cap,rfl,(Array.getElem?_eq_some_iff.1 hg).1,hnc,hcm,fun i c hi=>?_⟩;rw[Nat.zero_add,←add_plain9];exact hc (g:=g) rfl i _ (by rw[List.getElem?_map,hi];rfl)
def BoxP (w wr:World)(v vc:Value)(xs:List Value)(done:List It)(cs:List Int)(hb:Nat)(neg:Bool)(k2 q:Nat)(sv:Value):Prop:=
 PM w wr v vc xs done cs (fun b=>b=hb∨sv.ownBlock=some b)∧wr.heap[hb]?=some (.cells #[.bool false,.bool neg,sv] 236 (0,0))∧wr.ownsRow w.heap.size 3 1 sv q (((cs.drop k2).take q).map (Value.int .i64))∧sv.ownBlock≠some hb
theorem BoxP.start {w wr:World}{v vc:Value}{xs:List Value}{done:List It}{cs:List Int}{neg:Bool}{k2:Nat}(h:PM w wr v vc xs done cs (fun _=>False)):BoxP w (wr.alloc (.cells #[.bool false,.bool neg,.slice none 0 0] 236)) v vc xs done cs wr.heap.size neg k2 0 (.slice none 0 0):=
 ⟨(h.alloc _).less fun b hb=>hb.elim (fun e=> .inr e) (fun e=>by cases e),World.alloc_heap_new wr _,by simpa using World.ownsRow_nil _ _ _ _,fun e=>by cases e⟩
theorem BoxP.step {w wr w4:World}{v vc:Value}{xs:List Value}{done:List It}{cs:List Int}{hb k2 q gg cap4:Nat}{neg:Bool}{sv:Value}{c:Int}{o:Obj}(h:BoxP w wr v vc xs done cs hb neg k2 q sv)(hc:cs[k2+q]?=some c)
  (hown:w4.ownsRow w.heap.size 3 1 (.slice (some ⟨gg,0,none⟩) (q+1) cap4) (q+1) (((cs.drop k2).take q).map (Value.int .i64)++[.int .i64 c])) (hg:((wr.alloc o).drew).grownBy w4 sv.ownBlock) (hat:sv.ownBlock=some gg∨wr.heap.size+1≤gg):
  BoxP w (w4.setCell ⟨hb,2,none⟩ (.slice (some ⟨gg,0,none⟩) (q+1) cap4)) v vc xs done cs hb neg k2 (q+1) (.slice (some ⟨gg,0,none⟩) (q+1) cap4):=by
 obtain⟨h1,h2,h3,h4⟩:=h;have hbl:=(Array.getElem?_eq_some_iff.1 h2).1;have hgl:=(hown.lt gg rfl).2;have hgb:gg≠hb:=by
  rcases hat with e|e
  ·exact fun e2=>h4 (e2▸e)
  ·omega
 have hs4:wr.heap.size+1≤w4.heap.size:=by have:=hg.size;simpa using this
 have ho:OnlyAt (fun b=>b=hb∨sv.ownBlock=some b) wr (w4.setCell ⟨hb,2,none⟩ (.slice (some ⟨gg,0,none⟩) (q+1) cap4)):=
  (((OnlyAt.alloc _ wr o).trans (OnlyAt.drew _ _)).trans (OnlyAt.of_grown hg fun k hk=> .inr hk)).trans (OnlyAt.setCell _ ⟨hb,2,none⟩ _ (.inl rfl))
 have hsz:(w4.setCell ⟨hb,2,none⟩ (.slice (some ⟨gg,0,none⟩) (q+1) cap4)).heap.size=w4.heap.size:=by simp[World.setCell]
 have h24:w4.heap[hb]?=some (.cells #[.bool false,.bool neg,sv] 236 (0,0)):=by
  refine(hg.block hb (by show hb<(wr.alloc o).heap.size;rw[World.size_alloc];omega) (fun e=>h4 e.symm)).trans ?_;exact(Below.heap_alloc wr o hb hbl).trans h2
 refine⟨h1.goes ho fun b hb'=>?_,?_,?_,?_⟩
 ·rcases hb' with e|e
  ·exact .inl (.inl e)
  ·obtain rfl:gg=b:=Option.some.inj e;rcases hat with e2|e2
   ·exact .inl (.inr e2)
   ·exact .inr ⟨by omega,by rw[hsz];exact hgl⟩
 ·simp[World.setCell,Array.getElem?_modify,h24]
 ·have hrow:=own_kept9 hown (w':=w4.setCell ⟨hb,2,none⟩ (.slice (some ⟨gg,0,none⟩) (q+1) cap4)) fun g hg'=>by
   obtain rfl:gg=g:=Option.some.inj hg';exact Below.heap_setCell _ _ _ _ (fun e=>hgb e)
  have ht:(cs.drop k2).take (q+1)=(cs.drop k2).take q++[c]:=by
   rw[List.take_add_one,List.getElem?_drop,hc];rfl
  rw[ht,List.map_append];exact hrow
 ·exact fun e=>hgb (Option.some.inj e)
theorem BoxP.facts {w wr:World}{v vc:Value}{xs:List Value}{done:List It}{cs:List Int}{hb k2 q:Nat}{neg:Bool}{sv:Value}(h:BoxP w wr v vc xs done cs hb neg k2 q sv):
  (wr.cell? ⟨hb,0,none⟩=some (.bool false)∧wr.cell? ⟨hb,1,none⟩=some (.bool neg)∧wr.cell? ⟨hb,2,none⟩=some sv)∧(∀o,wr.frozen? ⟨hb,o,none⟩=false)∧∃S sc,sv= .slice S q sc:=by
 obtain⟨h1,h2,h3,h4⟩:=h;refine⟨⟨by simp[World.cell?,h2],by simp[World.cell?,h2],by simp[World.cell?,h2]⟩,fun o=>by simp[World.frozen?,h2],?_⟩;rcases h3.2 with ⟨rfl,h0⟩|⟨g,cap,cur,rfl,_⟩
 ·exact⟨none,0,by rw[h0]⟩
 ·exact⟨_,cap,rfl⟩
theorem rparse_any (w:World)(s:ByteArray)(hs:s.size≤100000)
  (hcodes:Calls Tryz.prog 117 #[.string s] w fun e w'=>∃v,e= .returned (.tuple #[v,.bool (codesB s.data.toList).isSome])∧w'.ownsRow w.heap.size 3 1 v ((codesB s.data.toList).getD []).length (((codesB s.data.toList).getD []).map (Value.int .i64))∧Below w.heap.size w w'):
  Calls Tryz.prog 122 #[.string s] w fun e w'=>∃v,e= .returned (.tuple #[v,.bool (parseS s).isSome])∧ItemsNew w.heap.size w' v ((parseS s).getD [])∧Below w.heap.size w w':=by
 obtain⟨i1,hi1,hz10,hz11,hz12⟩:=info_parts Tryz.infosP236;obtain⟨i2,hi2,hz20,hz21,hz22⟩:=info_parts Tryz.infosP3;have hps:parseS s=match codesB s.data.toList with|none=>none|some cs=>parseC cs:=rfl
 have CH:=hid hcodes;clear hcodes;cases hcb:codesB s.data.toList with
 | none=>
   rw[hcb]at CH hps;dsimp only at hps;rw[hps];clear hps hcb;go_enter Tryz.func122,Tryz.ntmps122;go_wp2_with fail;refine CH.out.mono ?_;rintro e w1 ⟨v,rfl,-,hb1⟩;have HB:=hid hb1;have e1:(none:Option (List Int)).isSome=false:=rfl;clear hb1 CH;go_wp2_with fail;go_ret2;exact⟨_,rfl,.inl ⟨rfl,_,_,rfl⟩,HB.out⟩
 | some cs=>
   rw[hcb]at CH hps;dsimp only at hps;rw[hps];obtain⟨Z,hZ⟩:∃Z:Option (List It),Z=parseC cs:=⟨_,rfl⟩;rw[←hZ];have HZ:=hid (And.intro (fun e:parseAll cs=none=>hZ.trans (by rw[parseC_all,e])) (fun done (e:parseAll cs=some done)=>hZ.trans (show parseC cs=if 0<done.length∧done.length≤8 then some done else none by rw[parseC_all,e])));clear hZ;have hlen:=(codesB_says hcb).2;have hsl:s.data.toList.length=s.size:=(Lib.size_eq s).symm;obtain⟨n,hn⟩:∃n,n=cs.length:=⟨_,rfl⟩;have hn5:n≤100000:=by omega
   have HN:=hid hn;clear hps hcb hlen hsl hn;go_enter Tryz.func122,Tryz.ntmps122;go_wp2_with fail;refine CH.out.mono ?_;rintro e w1 ⟨vc,rfl,hown1,hb1⟩;simp only[Option.getD_some]at hown1;rw[←HN.out]at hown1;have hvc:∃A cap,vc= .slice A n cap∧∀(i:Nat) c,cs[i]?=some c→∃g,A=some ⟨g,0,none⟩∧n≤cap:=by
    rcases hown1.2 with ⟨rfl,h0⟩|⟨g,cap,cur,rfl,_,_,hnc,_⟩
    ·exact⟨none,0,by rw[h0],fun i c hi=>by have:=(List.getElem?_eq_some_iff.1 hi).1;have:=HN.out;omega⟩
    ·exact⟨_,cap,rfl,fun i c hi=>⟨g,rfl,hnc⟩⟩
   obtain⟨A,cap,rfl,hA⟩:=hvc;have HA:=hid hA;have e1:(some cs).isSome=true:=rfl;have h0:=hid (show PM w w1 (.slice none 0 0) (.slice A n cap) [] [] cs (fun _=>False)from
    ⟨World.ownsRow_nil _ _ _ _,by rw[←HN.out];exact hown1,fun i it hi=>by simp at hi,hb1,fun b hb=>hb.elim,FreshX.nil _⟩)
   clear hown1 hb1 CH hA;go_wp2_with fail;go_loopg [6,7] n (fun g v i wr=>∃(k:Nat) (done:List It) (xs:List Value),k+g=n∧i= .int .i64 k∧done.length≤k∧Hid (Read cs done k)∧Hid (PM w wr v (.slice A n cap) xs done cs (fun _=>False)))
   case atStart=>exact⟨0,[],[],by omega,rfl,Nat.zero_le _,hid (Read.start cs),h0⟩
   case round=>
    obtain⟨k,done,xs,hk,rfl,hdk,HR,HM⟩:=hrel;clear h0;rcases Nat.eq_zero_or_pos gk with g0|g0
    ·have hkn:k=n:=by omega
     subst hkn;have hZ1:=HZ.out.2 done (HR.out.ends (by have:=HN.out;omega));have hform:∃D dc,u6= .slice D done.length dc:=by
      rcases HM.out.row.2 with ⟨h1,h2⟩|⟨g,dc,cur,h1,_⟩
      ·exact⟨none,0,by rw[h1,h2]⟩
      ·exact⟨_,dc,h1⟩
     obtain⟨D,dc,rfl⟩:=hform;obtain⟨dn,hdn⟩:∃dn,dn=done.length:=⟨_,rfl⟩;have HB:=hid (And.intro HM.out.below (And.intro HM.out.reads hdn));rw[←hdn]at hdk HB hZ1⊢;have HZ1:=hid hZ1;clear HM HR hdn hZ1;have hcase:dn=0∨(0<dn∧8<dn)∨(0<dn∧dn≤8):=by omega
     rcases hcase with h0|⟨h0,h8⟩|⟨h0,h8⟩
     ·subst h0;obtain rfl:Z=none:=HZ1.out.trans (if_neg (by omega));go_wp2_with fail;go_ret2;exact⟨_,rfl,.inl ⟨rfl,_,_,rfl⟩,HB.out.1⟩
     ·have t1:((dn:Int)==0)=false:=by rw[beq_eq_false_iff_ne];omega
      have t2:(8:Int)<dn:=by omega
      obtain rfl:Z=none:=HZ1.out.trans (if_neg (by omega));go_wp2_with fail;go_ret2;exact⟨_,rfl,.inl ⟨rfl,_,_,rfl⟩,HB.out.1⟩
     ·have t1:((dn:Int)==0)=false:=by rw[beq_eq_false_iff_ne];omega
      have t2:¬(8:Int)<dn:=by omega
      obtain rfl:Z=some done:=HZ1.out.trans (if_pos ⟨h0,h8⟩);go_wp2_with fail;go_ret2;exact⟨_,rfl,HB.out.2.1,HB.out.1⟩
    ·have hkn:(k:Int)<n:=by omega
     have tk1:(0:Int)≤k:=by omega
     obtain⟨c,hc⟩:∃c,cs[k]?=some c:=⟨_,List.getElem?_eq_getElem (by have:=HN.out;omega)⟩;obtain⟨g,rfl,hcap⟩:=HA.out k c hc;have CELL:=hid (show∀(wx:World) v xs done N,PM w wx v (.slice (some ⟨g,0,none⟩) n cap) xs done cs N→∀(i:Nat) c,cs[i]?=some c→wx.cell? ⟨g,i,none⟩=some (.int .i64 c)from fun wx v xs done N h i c hi=>by
      have:= @World.ownsRow.cells _ _ _ _ _ _ _ h.codes g rfl i (.int .i64 c) (by rw[List.getElem?_map,hi];rfl);rwa[add_plain9]at this)
     have m0:=CELL.out _ _ _ _ _ HM.out k c hc;have HC:=hid hc;clear hc;by_cases h46:c=46
     ·subst h46;have HA1:=hid (HM.out.alloc (.cells #[.bool true,.bool false,.slice none 0 0] 236));go_wp2_with (at_builtin;refine wpList_append_where _ rfl _ _ 121 rfl w.heap.size 236 i1 (.agg #[.bool false,.bool false,.slice none 0 0]) 3 32 Tryz.underlying121 hi1 hz10 hz11 hz12 rfl (by decide) u6 _ xs rfl HA1.out.row ⟨wr.heap.size,0,none⟩ 1 1 (iCells9 ⟨true,false,[]⟩ (.slice none 0 0)) rfl rfl (news_rowP _ _ _) (item_one _ _ _ rfl) (by unfold maxLen;omega) (by omega) HA1.out.below.size ?_;intro v' w4 hown4 hgrow4 hwh4;have G4:=hid (HA1.out.item (it:=⟨true,false,[]⟩) hown4 hgrow4 hwh4 (.inl ⟨rfl,_,_,rfl⟩) (fun b hb=>by cases hb));clear hown4 hgrow4 hwh4);have HR2:=hid (HR.out.step HC.out (head_any _));go_roundg (gk-1)
      case measure=>omega
      case rel=>exact⟨k+1,_,_,by omega,by go_num,by rw[List.length_append];show done.length+1≤k+1;omega,HR2,G4⟩
     by_cases h93:c=93
     ·subst h93;obtain rfl:Z=none:=HZ.out.1 (HR.out.fails HC.out (head_bad _));have HB:=hid HM.out.below;clear h46;go_wp2_with fail;go_ret2;exact⟨_,rfl,.inl ⟨rfl,_,_,rfl⟩,HB.out⟩
     by_cases h91:c=91
     ·subst h91;have hneg:∃(neg:Bool) (k2:Nat),k2=(if neg then k+2 else k+1)∧k2≤n∧headC (91::cs.drop (k+1))=setC neg (cs.drop k2)∧(neg=true→cs[k+1]?=some 94)∧(neg=false→cs[k+1]?≠some 94):=by
       by_cases h94:cs[k+1]?=some 94
       ·have hl:=(List.getElem?_eq_some_iff.1 h94).1;refine⟨true,k+2,rfl,by have:=HN.out;omega,?_,(fun _=>h94),(fun e=>by cases e)⟩;rw[head_set,dropc h94,List.head?_cons,if_pos rfl,List.tail_cons]
       ·refine⟨false,k+1,rfl,by omega,?_,(fun e=>by cases e),fun _=>h94⟩;rw[head_set,if_neg];rw[List.head?_drop];exact h94
      obtain⟨neg,k2,hk2,hk2n,hhd,hneg1,hneg2⟩:=hneg;have HH:=hid (And.intro hhd (And.intro hneg1 hneg2));clear hhd hneg1 hneg2;have PA:=hid (HM.out.alloc (.cells #[.bool false,.bool false,.slice none 0 0] 236));go_upto_region 17 with fail;go_cut [58] (fun b wx=>b= .bool neg∧wr.alloc (.cells #[.bool false,.bool false,.slice none 0 0] 236)=wx)
      case first=>
       by_cases hk1:k+1<n
       ·obtain⟨x,hx⟩:∃x,cs[k+1]?=some x:=⟨_,List.getElem?_eq_getElem (by have:=HN.out;omega)⟩;have m1:=CELL.out _ _ _ _ _ PA.out (k+1) x hx;have hk1I:(k:Int)+1<n:=by omega
        have hk10:(0:Int)≤(k:Int)+1:=by omega
        have hbeq:(x==94)=neg:=by
         cases hng:neg
         ·rw[beq_eq_false_iff_ne];intro e;exact HH.out.2.2 hng (e▸hx)
         ·have:=HH.out.2.1 hng;rw[hx]at this;rw[Option.some.inj this];rfl
        clear hx;go_wp2_with fail;go_meet;exact⟨rfl,rfl⟩
       ·have hk1I:¬(k:Int)+1<n:=by omega
        have hng:neg=false:=by
         cases hng:neg
         ·rfl
         ·have:=(List.getElem?_eq_some_iff.1 (HH.out.2.1 hng)).1;have:=HN.out;omega
        subst hng;go_wp2_with fail;go_meet;exact⟨rfl,rfl⟩
      case rest=>
       obtain⟨rfl,rfl⟩:=hcut;have HBX:=hid (show BoxP w (wr.alloc (.cells #[.bool false,.bool neg,.slice none 0 0] 236)) u6 (.slice (some ⟨g,0,none⟩) n cap) xs done cs wr.heap.size neg k2 0 (.slice none 0 0)from BoxP.start HM.out);have tkk:IntKind.i64.wrap ((k:Int)+1+1)=(k:Int)+1+1:=by rw[IntWalk.i64_in _ (by omega)]
       cases neg
       ·
        have hk2':(k2:Int)=(k:Int)+1:=by rw[hk2];simp
        have HK2:=hid (And.intro hk2' hk2n);clear hk2 hk2' hk2n;obtain⟨wo,rfl⟩:∃wo:World,wo=wr:=⟨_,rfl⟩;obtain⟨g1,hg1⟩:∃g1,g1=gk:=⟨_,rfl⟩;go_wp2_with fail;go_loopg [7] (n-k2) (fun gg2 i wx=>∃(j q:Nat) (sv:Value),q+gg2=n-k2∧i= .int .i64 j∧Hid (j=k2+q)∧Hid (∀c∈(cs.drop k2).take q,c≠93)∧Hid (BoxP w wx u6 (.slice (some ⟨g,0,none⟩) n cap) xs done cs wo.heap.size false k2 q sv))
        case atStart=>exact⟨k2,0,_,by omega,by first|(rw [HK2.out.1];done)|(rw [HK2.out.1];rfl)|(congr 1;have:=HK2.out.1;omega),hid rfl,hid (fun c hc=>by simp at hc),HBX⟩
        case round=>
         obtain⟨j,q,sv,hq,rfl,HJ,H93,HX⟩:=hrel;clear HBX;obtain⟨⟨b0,b1,b2⟩,bf,S,sc,rfl⟩:=HX.out.facts;have hjn:j≤n:=by have:=HJ.out;have:=HK2.out.2;omega
         have tj0:(0:Int)≤j:=by omega
         rcases Nat.eq_zero_or_pos gk with g00|g00
         ·have hje:j=n:=by have:=HJ.out;have:=HK2.out.2;omega
          have hjI:¬(j:Int)<n:=by omega
          have hjG:(n:Int)≤j:=by omega
          obtain rfl:Z=none:=HZ.out.1 (HR.out.fails HC.out (HH.out.1.trans (set_none (fun c hc=>H93.out c (by rw[List.take_of_length_le (by rw[List.length_drop,←HN.out];omega)];exact hc)) _)));have HB:=hid HX.out.1.below;clear hje;go_wp2_with fail;go_ret2;exact⟨_,rfl,.inl ⟨rfl,_,_,rfl⟩,HB.out⟩
         ·have hjI:(j:Int)<n:=by have:=HJ.out;have:=HK2.out.2;omega
          have hjG:¬(n:Int)≤j:=by omega
          obtain⟨c2,hc2⟩:∃c2,cs[j]?=some c2:=⟨_,List.getElem?_eq_getElem (by have:=HN.out;omega)⟩;have m2:=CELL.out _ _ _ _ _ HX.out.1 j c2 hc2;by_cases h2:c2=93
          ·subst h2;have hfound:=set_found (cs:=cs) (k2:=k2) (j:=j) (by have:=HJ.out;omega) (fun c hc=>H93.out c (by rw[show q=j-k2 by have:=HJ.out;omega];exact hc)) hc2 false;rw[show j-k2=q by have:=HJ.out;omega]at hfound;have HFD:=hid (HH.out.1.trans hfound);clear hfound hc2;rcases Nat.eq_zero_or_pos q with q0|q0
           ·obtain rfl:Z=none:=HZ.out.1 (HR.out.fails HC.out (HFD.out.trans (if_pos (by rw[q0];rfl))));have HB:=hid HX.out.1.below;subst q0;go_wp2_with fail;go_ret2;exact⟨_,rfl,.inl ⟨rfl,_,_,rfl⟩,HB.out⟩
           ·have hqE:((q:Int)==0)=false:=by rw[beq_eq_false_iff_ne];omega
            have hlenq:((cs.drop k2).take q).length=q:=by rw[List.length_take,List.length_drop];have:=HJ.out;have:=HN.out;omega
            have HR2:=hid (HR.out.step HC.out (HFD.out.trans (if_neg (fun e=>by rw[e]at hlenq;simp at hlenq;omega))));have HI:=hid (show IntsAt wr (.slice S q sc) ((cs.drop k2).take q)from by
             have:=ints_ownP (cs:=(cs.drop k2).take q) (by rw[hlenq];exact HX.out.2.2.1);exact this)
            have HA1:=hid (HX.out.1.alloc (.cells #[.bool false,.bool false,.slice S q sc] 236));clear hlenq;go_wp2_with (at_builtin;refine wpList_append_where _ rfl _ _ 121 rfl w.heap.size 236 i1 (.agg #[.bool false,.bool false,.slice none 0 0]) 3 32 Tryz.underlying121 hi1 hz10 hz11 hz12 rfl (by decide) u6 _ xs rfl HA1.out.row ⟨wr.heap.size,0,none⟩ 1 1 (iCells9 ⟨false,false,(cs.drop k2).take q⟩ (.slice S q sc)) rfl rfl (news_rowP _ _ _) (item_one _ _ _ rfl) (by unfold maxLen;omega) (by omega) HA1.out.below.size ?_;intro v' w4 hown4 hgrow4 hwh4;have G4:=hid (HA1.out.item (it:=⟨false,false,(cs.drop k2).take q⟩) hown4 hgrow4 hwh4 (HI.out.keep ((Below.refl _ _).alloc (Nat.le_refl _) _)) (fun b hb=> .inl (.inr hb)));clear hown4 hgrow4 hwh4);have tj1:IntKind.i64.wrap ((j:Int)+1)=(j:Int)+1:=by rw[IntWalk.i64_in _ (by omega)]
            go_roundg (n-(j+1))
            case measure=>have:=HK2.out;have:=HJ.out;omega
            case rel=>exact⟨j+1,_,_,by omega,by go_num,by rw[List.length_append];have:=HK2.out;have:=HJ.out;show done.length+1≤j+1;omega,HR2,G4⟩
          ·have d2:(c2 != 93)=true:=by simpa using h2
           have H93b:=hid (show∀c∈(cs.drop k2).take (q+1),c≠93 from fun c hc=>by
            rw[List.take_add_one,List.getElem?_drop,show k2+q=j from HJ.out.symm,hc2]at hc;rcases List.mem_append.1 hc with e|e
            ·exact H93.out c e
            ·rw[List.mem_singleton.1 e];exact h2)
           have HC2:=hid (show cs[k2+q]?=some c2 by rw[←HJ.out];exact hc2);clear h2 hc2;have hbl:=HX.out.1.mine wo.heap.size (.inl rfl);have HO:=hid (And.intro hbl (show g<wr.heap.size from(HX.out.1.codes.lt g rfl).2));have q2:(wr.alloc (.cells #[.int .i64 c2] 3)).cell? ⟨wo.heap.size,2,none⟩=some (.slice S q sc):=(((Below.refl wr.heap.size wr).alloc (Nat.le_refl _) _).cell (p:=⟨wo.heap.size,2,none⟩) hbl.2.1).trans b2;have qm:(wr.alloc (.cells #[.int .i64 c2] 3)).cell? ⟨g,j,none⟩=some (.int .i64 c2):=(((Below.refl wr.heap.size wr).alloc (Nat.le_refl _) _).cell (p:=⟨g,j,none⟩) HO.out.2).trans m2;have hgo:∀(w4:World),((wr.alloc (.cells #[.int .i64 c2] 3)).drew).grownBy w4 (Value.slice S q sc).ownBlock→w4.heap[wo.heap.size]?=some (.cells #[.bool false,.bool false,.slice S q sc] 236 (0,0)):=fun w4 hg4=>by
            refine(hg4.block _ (by show wo.heap.size<(wr.alloc _).heap.size;rw[World.size_alloc];have:=HO.out.1.2.1;omega) (fun e=>HX.out.2.2.2 e.symm)).trans ?_;exact(Below.heap_alloc wr _ _ HO.out.1.2.1).trans HX.out.2.1
           have HGO:=hid hgo;have h1c:∀u∈[Value.int .i64 c2],u.oneCell'=true:=by
            intro u hu;simp only[List.mem_cons,List.not_mem_nil,or_false]at hu;subst hu;rfl
           have hqn:q≤100000:=by omega
           have hbs:=HX.out.1.below.size;have tj1:IntKind.i64.wrap ((j:Int)+1)=(j:Int)+1:=by rw[IntWalk.i64_in _ (by omega)]
           clear hbl hgo;go_upto_region 21 with fail;go_region_law ((refine step_append_lies _ (by rfl) _ _ _ (by rfl) w.heap.size 3 i2 _ 1 8 Tryz.underlying42 hi2 hz20 hz21 hz22 rfl (by omega) (.slice S q sc) q (((cs.drop k2).take q).map (Value.int .i64)) (by rfl) ((HX.out.2.2.1.alloc _).drew) ⟨wr.heap.size,0,none⟩ 1 1 [.int .i64 c2] (by rfl) (by rfl) (World.news_of_block (cs:=#[.int .i64 c2]) (t:=3) (fr:=(0,0)) (World.alloc_heap_new wr _)) h1c (by omega) (by unfold maxLen;omega) (by omega) (by simp;omega) (wr.heap.size+1) (by simp) ?_;intro gg cap4 w4 hown4 hgrow4 hat4 hlt4;have m4:=(show w4.cell? ⟨wo.heap.size,2,none⟩=some (.slice S q sc)by simp[World.cell?,HGO.out _ hgrow4]);have f4:=(show w4.frozen? ⟨wo.heap.size,2,none⟩=false by simp[World.frozen?,HGO.out _ hgrow4])))
           all_goals
            have HX2:=hid (HX.out.step HC2.out hown4 hgrow4 (hat4.imp id (fun e=>by omega)));have HJ2:=hid (show j+1=k2+(q+1)by have:=HJ.out;omega);clear hown4 hgrow4 hat4 hlt4 m4 f4 b0 b1 b2 q2 qm m2;go_wp2_with fail;go_roundg (gk-1)
            case measure=>omega
            case rel=>exact⟨j+1,q+1,_,by omega,by go_num,HJ2,H93b,HX2⟩
       ·
        have hk2':(k2:Int)=(k:Int)+2:=by rw[hk2];simp
        have HK2:=hid (And.intro hk2' hk2n);clear hk2 hk2' hk2n;obtain⟨wo,rfl⟩:∃wo:World,wo=wr:=⟨_,rfl⟩;obtain⟨g1,hg1⟩:∃g1,g1=gk:=⟨_,rfl⟩;go_wp2_with fail;go_loopg [7] (n-k2) (fun gg2 i wx=>∃(j q:Nat) (sv:Value),q+gg2=n-k2∧i= .int .i64 j∧Hid (j=k2+q)∧Hid (∀c∈(cs.drop k2).take q,c≠93)∧Hid (BoxP w wx u6 (.slice (some ⟨g,0,none⟩) n cap) xs done cs wo.heap.size true k2 q sv))
        case atStart=>exact⟨k2,0,_,by omega,by first|(rw [HK2.out.1];done)|(rw [HK2.out.1];rfl)|(congr 1;have:=HK2.out.1;omega),hid rfl,hid (fun c hc=>by simp at hc),HBX⟩
        case round=>
         obtain⟨j,q,sv,hq,rfl,HJ,H93,HX⟩:=hrel;clear HBX;obtain⟨⟨b0,b1,b2⟩,bf,S,sc,rfl⟩:=HX.out.facts;have hjn:j≤n:=by have:=HJ.out;have:=HK2.out.2;omega
         have tj0:(0:Int)≤j:=by omega
         rcases Nat.eq_zero_or_pos gk with g00|g00
         ·have hje:j=n:=by have:=HJ.out;have:=HK2.out.2;omega
          have hjI:¬(j:Int)<n:=by omega
          have hjG:(n:Int)≤j:=by omega
          obtain rfl:Z=none:=HZ.out.1 (HR.out.fails HC.out (HH.out.1.trans (set_none (fun c hc=>H93.out c (by rw[List.take_of_length_le (by rw[List.length_drop,←HN.out];omega)];exact hc)) _)));have HB:=hid HX.out.1.below;clear hje;go_wp2_with fail;go_ret2;exact⟨_,rfl,.inl ⟨rfl,_,_,rfl⟩,HB.out⟩
         ·have hjI:(j:Int)<n:=by have:=HJ.out;have:=HK2.out.2;omega
          have hjG:¬(n:Int)≤j:=by omega
          obtain⟨c2,hc2⟩:∃c2,cs[j]?=some c2:=⟨_,List.getElem?_eq_getElem (by have:=HN.out;omega)⟩;have m2:=CELL.out _ _ _ _ _ HX.out.1 j c2 hc2;by_cases h2:c2=93
          ·subst h2;have hfound:=set_found (cs:=cs) (k2:=k2) (j:=j) (by have:=HJ.out;omega) (fun c hc=>H93.out c (by rw[show q=j-k2 by have:=HJ.out;omega];exact hc)) hc2 true;rw[show j-k2=q by have:=HJ.out;omega]at hfound;have HFD:=hid (HH.out.1.trans hfound);clear hfound hc2;rcases Nat.eq_zero_or_pos q with q0|q0
           ·obtain rfl:Z=none:=HZ.out.1 (HR.out.fails HC.out (HFD.out.trans (if_pos (by rw[q0];rfl))));have HB:=hid HX.out.1.below;subst q0;go_wp2_with fail;go_ret2;exact⟨_,rfl,.inl ⟨rfl,_,_,rfl⟩,HB.out⟩
           ·have hqE:((q:Int)==0)=false:=by rw[beq_eq_false_iff_ne];omega
            have hlenq:((cs.drop k2).take q).length=q:=by rw[List.length_take,List.length_drop];have:=HJ.out;have:=HN.out;omega
            have HR2:=hid (HR.out.step HC.out (HFD.out.trans (if_neg (fun e=>by rw[e]at hlenq;simp at hlenq;omega))));have HI:=hid (show IntsAt wr (.slice S q sc) ((cs.drop k2).take q)from by
             have:=ints_ownP (cs:=(cs.drop k2).take q) (by rw[hlenq];exact HX.out.2.2.1);exact this)
            have HA1:=hid (HX.out.1.alloc (.cells #[.bool false,.bool true,.slice S q sc] 236));clear hlenq;go_wp2_with (at_builtin;refine wpList_append_where _ rfl _ _ 121 rfl w.heap.size 236 i1 (.agg #[.bool false,.bool false,.slice none 0 0]) 3 32 Tryz.underlying121 hi1 hz10 hz11 hz12 rfl (by decide) u6 _ xs rfl HA1.out.row ⟨wr.heap.size,0,none⟩ 1 1 (iCells9 ⟨false,true,(cs.drop k2).take q⟩ (.slice S q sc)) rfl rfl (news_rowP _ _ _) (item_one _ _ _ rfl) (by unfold maxLen;omega) (by omega) HA1.out.below.size ?_;intro v' w4 hown4 hgrow4 hwh4;have G4:=hid (HA1.out.item (it:=⟨false,true,(cs.drop k2).take q⟩) hown4 hgrow4 hwh4 (HI.out.keep ((Below.refl _ _).alloc (Nat.le_refl _) _)) (fun b hb=> .inl (.inr hb)));clear hown4 hgrow4 hwh4);have tj1:IntKind.i64.wrap ((j:Int)+1)=(j:Int)+1:=by rw[IntWalk.i64_in _ (by omega)]
            go_roundg (n-(j+1))
            case measure=>have:=HK2.out;have:=HJ.out;omega
            case rel=>exact⟨j+1,_,_,by omega,by go_num,by rw[List.length_append];have:=HK2.out;have:=HJ.out;show done.length+1≤j+1;omega,HR2,G4⟩
          ·have d2:(c2 != 93)=true:=by simpa using h2
           have H93b:=hid (show∀c∈(cs.drop k2).take (q+1),c≠93 from fun c hc=>by
            rw[List.take_add_one,List.getElem?_drop,show k2+q=j from HJ.out.symm,hc2]at hc;rcases List.mem_append.1 hc with e|e
            ·exact H93.out c e
            ·rw[List.mem_singleton.1 e];exact h2)
           have HC2:=hid (show cs[k2+q]?=some c2 by rw[←HJ.out];exact hc2);clear h2 hc2;have hbl:=HX.out.1.mine wo.heap.size (.inl rfl);have HO:=hid (And.intro hbl (show g<wr.heap.size from(HX.out.1.codes.lt g rfl).2));have q2:(wr.alloc (.cells #[.int .i64 c2] 3)).cell? ⟨wo.heap.size,2,none⟩=some (.slice S q sc):=(((Below.refl wr.heap.size wr).alloc (Nat.le_refl _) _).cell (p:=⟨wo.heap.size,2,none⟩) hbl.2.1).trans b2;have qm:(wr.alloc (.cells #[.int .i64 c2] 3)).cell? ⟨g,j,none⟩=some (.int .i64 c2):=(((Below.refl wr.heap.size wr).alloc (Nat.le_refl _) _).cell (p:=⟨g,j,none⟩) HO.out.2).trans m2;have hgo:∀(w4:World),((wr.alloc (.cells #[.int .i64 c2] 3)).drew).grownBy w4 (Value.slice S q sc).ownBlock→w4.heap[wo.heap.size]?=some (.cells #[.bool false,.bool true,.slice S q sc] 236 (0,0)):=fun w4 hg4=>by
            refine(hg4.block _ (by show wo.heap.size<(wr.alloc _).heap.size;rw[World.size_alloc];have:=HO.out.1.2.1;omega) (fun e=>HX.out.2.2.2 e.symm)).trans ?_;exact(Below.heap_alloc wr _ _ HO.out.1.2.1).trans HX.out.2.1
           have HGO:=hid hgo;have h1c:∀u∈[Value.int .i64 c2],u.oneCell'=true:=by
            intro u hu;simp only[List.mem_cons,List.not_mem_nil,or_false]at hu;subst hu;rfl
           have hqn:q≤100000:=by omega
           have hbs:=HX.out.1.below.size;have tj1:IntKind.i64.wrap ((j:Int)+1)=(j:Int)+1:=by rw[IntWalk.i64_in _ (by omega)]
           clear hbl hgo;go_upto_region 21 with fail;go_region_law ((refine step_append_lies _ (by rfl) _ _ _ (by rfl) w.heap.size 3 i2 _ 1 8 Tryz.underlying42 hi2 hz20 hz21 hz22 rfl (by omega) (.slice S q sc) q (((cs.drop k2).take q).map (Value.int .i64)) (by rfl) ((HX.out.2.2.1.alloc _).drew) ⟨wr.heap.size,0,none⟩ 1 1 [.int .i64 c2] (by rfl) (by rfl) (World.news_of_block (cs:=#[.int .i64 c2]) (t:=3) (fr:=(0,0)) (World.alloc_heap_new wr _)) h1c (by omega) (by unfold maxLen;omega) (by omega) (by simp;omega) (wr.heap.size+1) (by simp) ?_;intro gg cap4 w4 hown4 hgrow4 hat4 hlt4;have m4:=(show w4.cell? ⟨wo.heap.size,2,none⟩=some (.slice S q sc)by simp[World.cell?,HGO.out _ hgrow4]);have f4:=(show w4.frozen? ⟨wo.heap.size,2,none⟩=false by simp[World.frozen?,HGO.out _ hgrow4])))
           all_goals
            have HX2:=hid (HX.out.step HC2.out hown4 hgrow4 (hat4.imp id (fun e=>by omega)));have HJ2:=hid (show j+1=k2+(q+1)by have:=HJ.out;omega);clear hown4 hgrow4 hat4 hlt4 m4 f4 b0 b1 b2 q2 qm m2;go_wp2_with fail;go_roundg (gk-1)
            case measure=>omega
            case rel=>exact⟨j+1,q+1,_,by omega,by go_num,HJ2,H93b,HX2⟩
     ·have d1:(c==46)=false:=by rw[beq_eq_false_iff_ne];exact h46
      have d2:(c==93)=false:=by rw[beq_eq_false_iff_ne];exact h93
      have d3:(c==91)=false:=by rw[beq_eq_false_iff_ne];exact h91
      have HR2:=hid (HR.out.step HC.out (head_one _ h46 h93 h91));have HA1:=hid ((HM.out.alloc (.cells #[.int .i64 c] 3)).alloc (.cells #[.bool false,.bool false,.slice (some ⟨wr.heap.size,0,none⟩) 1 1] 236));clear h46 h93 h91;go_wp2_with (at_builtin;refine wpList_append_where _ rfl _ _ 121 rfl w.heap.size 236 i1 (.agg #[.bool false,.bool false,.slice none 0 0]) 3 32 Tryz.underlying121 hi1 hz10 hz11 hz12 rfl (by decide) u6 _ xs rfl HA1.out.row ⟨wr.heap.size+1,0,none⟩ 1 1 (iCells9 ⟨false,false,[c]⟩ (.slice (some ⟨wr.heap.size,0,none⟩) 1 1)) rfl rfl (news_rowP2 _ _ _ _) (item_one _ _ _ rfl) (by unfold maxLen;omega) (by omega) HA1.out.below.size ?_;intro v' w4 hown4 hgrow4 hwh4;have G4:=hid (HA1.out.item (it:=⟨false,false,[c]⟩) hown4 hgrow4 hwh4 (lit_ints _ _ _ _) (fun b hb=>by cases hb;exact .inl (.inr rfl)));clear hown4 hgrow4 hwh4);go_roundg (gk-1)
      case measure=>omega
      case rel=>exact⟨k+1,_,_,by omega,by go_num,by rw[List.length_append];show done.length+1≤k+1;omega,HR2,G4⟩
end Go.Proofs.YtfehpcbmdancoaaGreatDoor
