/- A row of bytes that grows by one: the elder row still reads as it did. What stands while all forms are gathered. -/
import Derived.Deep.AppendLies
import Derived.Deep.RegionLaw
import Derived.Laws.IdiomStrings
import Derived.Test.YtfehpcbmdancoaaGreatDoorPdPbIState
import Derived.Test.YtfehpcbmdancoaaGreatDoorPdPbNPlain
namespace Go.Proofs.YtfehpcbmdancoaaGreatDoor.Dw
open Go Go.RowKit Go.Lib
theorem append_old {P:Program}(w:World)(base:Nat)(t ty e:TypeId)(i:TypeInfo)(z:Value)(size bytes:Nat)(ht:P.underlying t=some (.slice e))(hi:P.info? e=some i)(hz:i.zero=some z)
  (hsize:i.size=size) (hby:i.bytes=bytes) (hzs:z.cells.size=size) (hsz:0<size)
  (v:Value) (n:Nat) (xs:List Value) (hown:w.ownsRow base e size v n xs)
  (a:Addr) (m c:Nat) (news:List Value) (hl:news.length=m*size) (hnews:∀j u,news[j]?=some u→w.cell? (a.add j)=some u) (h1:∀u∈news,u.oneCell'=true)
  (h63:n+m≤maxLen) (hbytes:(n+m)*bytes≤140737488355328) (hB:base≤w.heap.size) {v':Value} {w':World} (hr:(Builtin.append_ #[t,t] ty #[v,.slice (some a) m c]).run P w= .ok v' w'):
  w'.ownsRow base e size v n xs:=by
 obtain⟨v2,w2,hr2,r2,r3,_⟩:=run_append_own (P:=P) w base t ty e i z size bytes ht hi hz hsize hby hzs hsz v n xs hown a m c news hl hnews h1 h63 hbytes hB;rw[hr]at hr2;cases hr2;refine⟨hown.1,?_⟩;rcases hown.2 with ⟨rfl,rfl⟩|⟨g,cap,cur,rfl,hbg,hg,hnc,hcm,hcs,htake⟩
 ·exact .inl ⟨rfl,rfl⟩
 ·right;subst hsize;subst hby
  by_cases hroom:n+m≤cap
  ·have hfit:n*i.size+news.length≤cur.size:=by rw[hl,hcs,←Nat.add_mul];exact Nat.mul_le_mul_right _ hroom
   have hr2:=run_append_room (P:=P) w t ty e i ht hi g n cap cur hg a m c news hl hnews h1 hroom hfit;rw[hr]at hr2;cases hr2;rcases r2.2 with ⟨e1,_⟩|⟨g2,cap2,cur2,e1,k1,k2,k3,k4,k5,k6⟩
   ·cases e1
   ·injection e1 with e2 e3 e4;injection e2 with e2;injection e2 with e2;subst e2 e4;refine⟨g,cap,cur2,rfl,hbg,k2,hnc,hcm,k5,?_⟩;have h9:=congrArg (List.take (n*i.size)) k6;rw[List.take_take,Nat.min_eq_left (Nat.mul_le_mul_right _ (by omega)),List.take_append_of_le_length (by rw[hown.1];exact Nat.le_refl _),←hown.1,List.take_length]at h9;rw[←hown.1];exact h9
  ·have holds:∀j u,xs[j]?=some u→w.cell? ((⟨g,0,none⟩:Addr).add j)=some u:=hown.cells (g:=g) rfl;have hsmall:n+m≤9223372036854775807:=by simp only[maxLen]at h63;omega
   have hr2:=run_append_grow (P:=P) w t ty e i z ht hi hz ⟨g,0,none⟩ n cap xs hown.1 holds a m c news hl hnews (by omega) (by omega) (growslice_fits (by omega) hbytes);rw[hr]at hr2;cases hr2;refine⟨g,cap,cur,rfl,hbg,?_,hnc,hcm,hcs,htake⟩;refine Eq.trans ?_ hg;have hlt:=(Array.getElem?_eq_some_iff.1 hg).1
   first
    | exact Below.heap_alloc _ _ _ hlt
    | (simp [World.alloc,World.drew];rw[Array.getElem?_push_lt hlt])
def HeadQ (w:World)(B:Nat)(v:Value)(hs:List UInt8):Prop:=w.ownsRow B 5 1 v hs.length (hs.map u8V)
theorem HeadQ.keep {w w':World}{B:Nat}{v:Value}{hs:List UInt8}(h:HeadQ w B v hs)(hk:∀g,v.ownBlock=some g→w'.heap[g]?=w.heap[g]?):HeadQ w' B v hs:=by
 refine⟨h.1,?_⟩;rcases h.2 with h|⟨g,cap,cur,rfl,h2,h3,h4⟩
 ·exact .inl h
 ·exact .inr ⟨g,cap,cur,rfl,h2,(hk g rfl).trans h3,h4⟩
theorem head_nil (w:World)(B:Nat):HeadQ w B (.slice none 0 0) []:=World.ownsRow_nil _ _ _ _
theorem HeadQ.form {w:World}{B:Nat}{v:Value}{hs:List UInt8}(h:HeadQ w B v hs):∃A cap,v= .slice A hs.length cap:=by
 rcases h.2 with ⟨h1,h2⟩|⟨g,cap,cur,h1,_⟩
 ·exact⟨none,0,by rw[h1,h2]⟩
 ·exact⟨_,_,h1⟩
theorem HeadQ.form1 {w:World}{B:Nat}{v:Value}{hs:List UInt8}{c:UInt8}(h:HeadQ w B v (hs++[c])):∃A cap,v= .slice A (hs.length+1) cap:=by
 obtain⟨A,cap,e⟩:=h.form;exact⟨A,cap,by rw[e,List.length_append];rfl⟩
theorem step_append_byte {w:World}{ops:Array Oper}{o:Oper}{a:Act}{K:Act→World→Prop}{Q:Exit→Act→World→Prop}{E:Prop}(hgd:o.guard=none)(s x:Operand)
  (ho:o.op= .call { callee:= .builtin .append,args:=#[s,x],argTypes:=#[72,72] }) (B:Nat) (v:Value) (hs:List UInt8) (q:Nat) (c:UInt8) (hsv:a.eval s=v) (hown:HeadQ w B v hs) (hx:a.eval x= .slice (some ⟨q,0,none⟩) 1 1) (hc:w.cell? ⟨q,0,none⟩=some (.int .u8 c.toNat)) (hb:hs.length≤1000000000) (hB:B≤w.heap.size)
  (h:∀v' w',HeadQ w' B v' (hs++[c])→HeadQ w' B v hs→w.grownBy w' v.ownBlock→(v'.ownBlock=v.ownBlock∨∀g,v'.ownBlock=some g→w.heap.size≤g)→K (a.put o.dst v') w'):if Region.wanted o (yielded ops a.tmps)=true then Oper.wp Tryz.prog o a w K Q else E:=by
 have hw:Region.wanted o (yielded ops a.tmps)=true:=by simp[Region.wanted,hgd]
 rw[if_pos hw];obtain⟨i0,hi,hz0,hz1,hz2⟩:=info_parts Tryz.infosO5;have hnw:∀j y,([u8V c]:List Value)[j]?=some y→w.cell? ((⟨q,0,none⟩:Addr).add j)=some y:=fun j y hy=>by
  cases j with
  | zero=>simp at hy;subst hy;rw[add9];exact hc
  | succ j=>simp at hy
 have h1c:∀u∈([u8V c]:List Value),u.oneCell'=true:=fun u hu=>by rw[List.mem_singleton]at hu;subst hu;rfl
 obtain⟨v',w',r1,r2,r3,_⟩:=run_append_own (P:=Tryz.prog) (w:=w) B 72 o.type 5 i0 _ 1 1 Tryz.underlying72 hi hz0 hz1 hz2 rfl (by decide) v hs.length (hs.map u8V) hown ⟨q,0,none⟩ 1 1 [u8V c] (by rfl) hnw h1c (by unfold maxLen;omega) (by omega) hB;have r4:=append_where (P:=Tryz.prog) w B 72 o.type 5 i0 _ 1 1 Tryz.underlying72 hi hz0 hz1 hz2 rfl (by decide) v hs.length (hs.map u8V) hown ⟨q,0,none⟩ 1 1 [u8V c] (by rfl) hnw h1c (by unfold maxLen;omega) (by omega) r1;have r5:=append_old (P:=Tryz.prog) w B 72 o.type 5 i0 _ 1 1 Tryz.underlying72 hi hz0 hz1 hz2 rfl (by decide) v hs.length (hs.map u8V) hown ⟨q,0,none⟩ 1 1 [u8V c] (by rfl) hnw h1c (by unfold maxLen;omega) (by omega) hB r1;unfold Oper.wp;simp[execOp,ho,resolve,invoke,builtin,hsv,hx,r1,Result.andThen];exact h _ _ (by unfold HeadQ;rw[List.map_append,List.length_append];exact r2) r5 r3 r4
structure Fq (w0 w:World)(N p:Nat)(v:Value)(xs:List ByteArray):Prop where
 b0:w.heap[N]?=some (.cells #[.pointer (some ⟨p,0,none⟩)] 27 (0,0))
 b1:w.heap[N+1]?=some (.cells #[v] 24 (0,0))
 b2:w.heap[N+2]?=some (.cells #[.func (.func 38) #[] #[.pointer (some ⟨N,0,none⟩),.pointer (some ⟨N+1,0,none⟩),.pointer (some ⟨N+2,0,none⟩)]] 71 (0,0))
 row:w.ownsRow (N+3) 9 1 v xs.length (xs.map Value.string)
 below:Below N w0 w
theorem Fq.keep {w0 w w':World}{N p:Nat}{v:Value}{xs:List ByteArray}(h:Fq w0 w N p v xs){T:Nat→Prop}(ho:OnlyAt T w w')(hT:∀k,T k→N+3≤k∧v.ownBlock≠some k):Fq w0 w' N p v xs:=by
 have l0:=(Array.getElem?_eq_some_iff.1 h.b0).1;have l1:=(Array.getElem?_eq_some_iff.1 h.b1).1;have l2:=(Array.getElem?_eq_some_iff.1 h.b2).1;refine⟨(ho.block _ l0 fun hh=>by have:=(hT _ hh).1;omega).trans h.b0,(ho.block _ l1 fun hh=>by have:=(hT _ hh).1;omega).trans h.b1,(ho.block _ l2 fun hh=>by have:=(hT _ hh).1;omega).trans h.b2,⟨h.row.1,?_⟩,OnlyAt.below h.below ho (by omega) fun k hk=>by have:=(hT k hk).1;omega⟩;rcases h.row.2 with hh|⟨g,cap,cur,rfl,h2,h3,h4⟩
 ·exact .inl hh
 ·exact .inr ⟨g,cap,cur,rfl,h2,(ho.block g (Array.getElem?_eq_some_iff.1 h3).1 fun hh=>(hT g hh).2 rfl).trans h3,h4⟩
theorem Fq.apart {w0 w:World}{N p:Nat}{v hv:Value}{xs:List ByteArray}{hs:List UInt8}{B:Nat}(h:Fq w0 w N p v xs)(hh:HeadQ w B hv hs):∀g,hv.ownBlock=some g→v.ownBlock≠some g:=by
 intro g hg he;rcases h.row.2 with ⟨rfl,_⟩|⟨g1,cap,cur,rfl,_,h3,_⟩
 ·cases he
 ·rcases hh.2 with ⟨rfl,_⟩|⟨g2,cap2,cur2,rfl,_,k3,_⟩
  ·cases hg
  ·simp only[Value.ownBlock,Option.some.injEq]at he hg;subst he hg;rw[h3]at k3;simp only[Option.some.injEq,Obj.cells.injEq]at k3;exact absurd k3.2.1 (by decide)
structure Fg (w w':World)(N:Nat)(v v' hv:Value):Prop where
 only:OnlyAt (fun k=>k=N+1∨v.ownBlock=some k∨hv.ownBlock=some k) w w'
 lies:v'.ownBlock=v.ownBlock∨∀g,v'.ownBlock=some g→w.heap.size≤g
theorem Fg.refl (w:World)(N:Nat)(v hv:Value):Fg w w N v v hv:=⟨OnlyAt.refl _ _,.inl rfl⟩
theorem Fg.trans {w w' w'':World}{N:Nat}{v v' v'' hv hv':Value}(h:Fg w w' N v v' hv)(_hN:N+1<w.heap.size)(k:Fg w' w'' N v' v'' hv')(hh:hv'.ownBlock=hv.ownBlock∨∀g,hv'.ownBlock=some g→w.heap.size≤g):Fg w w'' N v v'' hv:=by
 refine⟨⟨k.only.os.trans h.only.os,k.only.tape.trans h.only.tape,k.only.output.trans h.only.output,Nat.le_trans h.only.size k.only.size,fun i hi ht=>?_⟩,?_⟩
 ·refine(k.only.block i (Nat.lt_of_lt_of_le hi h.only.size) ?_).trans (h.only.block i hi ht);rintro (e|e|e)
  ·exact ht (.inl e)
  ·rcases h.lies with h1|h1
   ·exact ht (.inr (.inl (h1▸e)))
   ·have:=h1 i e;omega
  ·rcases hh with h1|h1
   ·exact ht (.inr (.inr (h1▸e)))
   ·have:=h1 i e;omega
 ·rcases k.lies with h2|h2
  ·rcases h.lies with h1|h1
   ·exact .inl (h2.trans h1)
   ·exact .inr fun g hg=>h1 g (h2▸hg)
  ·exact .inr fun g hg=>Nat.le_trans h.only.size (h2 g hg)
theorem Fq.lt {w0 w:World}{N p:Nat}{v:Value}{xs:List ByteArray}(h:Fq w0 w N p v xs):N+2<w.heap.size:=(Array.getElem?_eq_some_iff.1 h.b2).1
theorem Fq.cells {w0 w:World}{N p q:Nat}{v:Value}{xs:List ByteArray}(h:Fq w0 w N p v xs)(hN:w0.heap.size=N)(hp:w0.cell? ⟨p,0,none⟩=some (.pointer (some ⟨q,0,none⟩))):
  w.cell? ⟨N,0,none⟩=some (.pointer (some ⟨p,0,none⟩))∧w.cell? ⟨N+1,0,none⟩=some v∧w.cell? ⟨N+2,0,none⟩=some (.func (.func 38) #[] #[.pointer (some ⟨N,0,none⟩),.pointer (some ⟨N+1,0,none⟩),.pointer (some ⟨N+2,0,none⟩)])∧w.cell? ⟨p,0,none⟩=some (.pointer (some ⟨q,0,none⟩))∧w.frozen? ⟨N+1,0,none⟩=false:=by
 refine⟨by simp[World.cell?,h.b0],by simp[World.cell?,h.b1],by simp[World.cell?,h.b2],?_,by simp[World.frozen?,h.b1]⟩;subst hN;exact(cell_old h.below (World.block_lt_of_cell? _ _ hp)).trans hp
theorem Fq.push {w0 w w4:World}{N p:Nat}{v v' hv:Value}{xs:List ByteArray}{x:ByteArray}{hs:List UInt8}{ob:Obj}(h:Fq w0 w N p v xs)(hh:HeadQ w (N+3) hv hs)(hown:w4.ownsRow (N+3) 9 1 v' (xs.length+1) (xs.map Value.string++[.string x]))(hg:(w.alloc ob).grownBy w4 v.ownBlock)(hwh:v'.ownBlock=v.ownBlock∨∀g,v'.ownBlock=some g→(w.alloc ob).heap.size≤g):
  Fq w0 (w4.setCell ⟨N+1,0,none⟩ v') N p v' (xs++[x])∧HeadQ (w4.setCell ⟨N+1,0,none⟩ v') (N+3) hv hs∧Fg w (w4.setCell ⟨N+1,0,none⟩ v') N v v' hv:=by
 have hlt:=h.lt;have hap:=h.apart hh;have hvB:∀g,v.ownBlock=some g→N+3≤g:=fun g hg=>(h.row.lt g hg).1;have hvB':∀g,v'.ownBlock=some g→N+3≤g:=fun g hg=>(hown.lt g hg).1;have ho4:OnlyAt (fun k=>v.ownBlock=some k) w w4:=(OnlyAt.alloc _ _ _).trans (OnlyAt.of_grown hg fun k hk=>hk);have ho5:OnlyAt (fun k=>k=N+1) w4 (w4.setCell ⟨N+1,0,none⟩ v'):=OnlyAt.setCell _ _ _ rfl;have key:∀k,k<w.heap.size→v.ownBlock≠some k→k≠N+1→(w4.setCell ⟨N+1,0,none⟩ v').heap[k]?=w.heap[k]?:=fun k hk h1 h2=>(ho5.block k (Nat.lt_of_lt_of_le hk ho4.size) h2).trans (ho4.block k hk h1);have e1:w4.heap[N+1]?=some (.cells #[v] 24 (0,0)):=(ho4.block _ (by omega) (fun e=>by have:=hvB _ e;omega)).trans h.b1;refine⟨⟨(key N (by omega) (fun e=>by have:=hvB _ e;omega) (by omega)).trans h.b0,?_,(key (N+2) (by omega) (fun e=>by have:=hvB _ e;omega) (by omega)).trans h.b2,?_,?_⟩,?_,?_⟩
 ·have:=heap_set (o:=0) e1 v';simpa using this
 ·rw[List.length_append,List.map_append];refine⟨hown.1,?_⟩;rcases hown.2 with hh'|⟨g,cap,cur,rfl,h2,h3,h4⟩
  ·exact .inl hh'
  ·exact .inr ⟨g,cap,cur,rfl,h2,(ho5.block g (Array.getElem?_eq_some_iff.1 h3).1 (by omega)).trans h3,h4⟩
 ·exact OnlyAt.below (OnlyAt.below h.below ho4 (by omega) fun k hk=>by have:=hvB k hk;omega) ho5 (by have:=ho4.size;omega) fun k hk=>by omega
 ·exact hh.keep fun g hg=>key g (hh.lt g hg).2 (hap g hg) (by have:=(hh.lt g hg).1;omega)
 ·refine⟨(ho4.mono fun k hk=> .inr (.inl hk)).trans (ho5.mono fun k hk=> .inl hk),?_⟩;rcases hwh with hw|hw
  ·exact .inl hw
  ·exact .inr fun g hg=>by have:=hw g hg;rw[World.size_alloc]at this;omega
theorem Fg.of_below {w w':World}(N:Nat)(v hv:Value)(h:Below w.heap.size w w'):Fg w w' N v v hv:=⟨OnlyAt.of_below h,.inl rfl⟩
theorem HeadQ.back {w w5:World}{B:Nat}{v v':Value}{hs:List UInt8}{c:UInt8}(h1:HeadQ w B v' (hs++[c]))(h2:HeadQ w B v hs)(h5:HeadQ w5 B v' (hs++[c]))(hk:∀g,v.ownBlock=some g→v'.ownBlock≠some g→w5.heap[g]?=w.heap[g]?):HeadQ w5 B v hs:=by
 refine⟨h2.1,?_⟩;rcases h2.2 with hh|⟨g,cap,cur,rfl,a1,a2,a3,a4,a5,a6⟩
 ·exact .inl hh
 ·right;by_cases hv:v'.ownBlock=some g
  ·rcases h1.2 with ⟨rfl,_⟩|⟨g1,cap1,cur1,rfl,b1,b2,b3,b4,b5,b6⟩
   ·cases hv
   ·simp only[Value.ownBlock,Option.some.injEq]at hv;subst hv;rw[a2]at b2;simp only[Option.some.injEq,Obj.cells.injEq]at b2;obtain⟨rfl,-⟩:=b2;have hc:cap1=cap:=by omega
    subst hc;rcases h5.2 with ⟨e,_⟩|⟨g5,cap5,cur5,e,c1,c2,c3,c4,c5,c6⟩
    ·cases e
    ·injection e with e1 e2 e3;injection e1 with e1;injection e1 with e1;subst e1 e3;refine⟨g1,cap1,cur5,rfl,a1,c2,a3,a4,c5,?_⟩;have h9:=congrArg (List.take (hs.length*1)) c6;rw[List.take_take,Nat.min_eq_left (by rw[List.length_append];simp),List.map_append,List.take_append_of_le_length (by simp)]at h9;rw[h9];exact List.take_of_length_le (by simp)
  ·exact⟨g,cap,cur,rfl,a1,(hk g rfl hv).trans a2,a3,a4,a5,a6⟩
theorem conv_head {w:World}{B:Nat}{v:Value}{hs:List UInt8}(h:HeadQ w B v hs):(convert 72 9 v).run Tryz.prog w= .ok (.string ⟨hs.toArray⟩) w:=by
 rcases h.2 with ⟨rfl,h0⟩|⟨g,cap,cur,rfl,a1,a2,a3,a4,a5,a6⟩
 ·obtain rfl:=List.eq_nil_of_length_eq_zero h0;rw[run_convert_bytes_string w 72 9 5 none 0 0 Tryz.underlying72 Tryz.underlying5 Tryz.underlying9];rfl
 ·exact run_convert_bytes_back w 72 9 5 ⟨g,0,none⟩ cap hs Tryz.underlying72 Tryz.underlying5 Tryz.underlying9 (fun j hj=>by
   have hc:= @World.ownsRow.cells _ _ _ _ _ _ _ h;refine hc (g:=g) rfl j _ ?_;rw[List.getElem?_map,List.getElem?_eq_getElem hj];rfl)
theorem Fq.grown {w0 w w4:World}{N p:Nat}{v:Value}{xs:List ByteArray}{ob:Obj}(h:Fq w0 w N p v xs)(hg:(w.alloc ob).grownBy w4 v.ownBlock):w4.cell? ⟨N+1,0,none⟩=some v∧w4.frozen? ⟨N+1,0,none⟩=false:=by
 have hlt:=h.lt;have e:w4.heap[N+1]?=some (.cells #[v] 24 (0,0)):=(hg.block (N+1) (by rw[World.size_alloc];omega) (fun e=>by have:=(h.row.lt _ e.symm).1;omega)).trans ((Below.heap_alloc _ _ _ (by omega)).trans h.b1);exact⟨by simp[World.cell?,e],by simp[World.frozen?,e]⟩
theorem Fq.below_ {w0 w w':World}{N p:Nat}{v:Value}{xs:List ByteArray}(h:Fq w0 w N p v xs)(hb:Below w.heap.size w w'):Fq w0 w' N p v xs:=h.keep (OnlyAt.of_below (T:=fun _=>False) hb) fun _ hk=>hk.elim
theorem HeadQ.below_ {w w':World}{B:Nat}{v:Value}{hs:List UInt8}(h:HeadQ w B v hs)(hb:Below w.heap.size w w'):HeadQ w' B v hs:=h.keep fun g hg=>hb.block g (h.lt g hg).2
theorem from_turn {w0 wr wn wa w3 w5:World}{N p:Nat}{vj v5 hv hv3:Value}{xs ys:List ByteArray}{hs:List UInt8}{c:UInt8}(hq:Fq w0 wr N p vj xs)(hh:HeadQ wr (N+3) hv hs)(hbn:Below wr.heap.size wr wn)(hba:Below wn.heap.size wn wa)
  (h3:HeadQ w3 (N+3) hv3 (hs++[c])) (h3':HeadQ w3 (N+3) hv hs) (hg:wa.grownBy w3 hv.ownBlock) (hwh:hv3.ownBlock=hv.ownBlock∨∀g,hv3.ownBlock=some g→wa.heap.size≤g)
  (_hq5:Fq w0 w5 N p v5 ys) (h5:HeadQ w5 (N+3) hv3 (hs++[c])) (hf:Fg w3 w5 N vj v5 hv3):HeadQ w5 (N+3) hv hs∧Fg wr w5 N vj v5 hv:=by
 have hlt:=hq.lt;have hqa:=(hq.below_ hbn).below_ hba;have hha:=(hh.below_ hbn).below_ hba;have ho3:OnlyAt (fun k=>hv.ownBlock=some k) wa w3:=OnlyAt.of_grown hg fun k hk=>hk;have hsz:=hbn.size;have hsz2:=hba.size;have hsz3:=ho3.size;have hap:=hqa.apart hha;have f1:Fg wr w3 N vj vj hv:=⟨((OnlyAt.of_below hbn).trans (OnlyAt.of_below hba)).trans (ho3.mono fun k hk=> .inr (.inr hk)),.inl rfl⟩;refine⟨h3.back h3' h5 fun g hg1 hne=>hf.only.block g (h3'.lt g hg1).2 ?_,f1.trans (by omega) hf ?_⟩
 ·rintro (e|e|e)
  ·have:=(h3'.lt g hg1).1;omega
  ·exact hap g hg1 e
  ·exact hne e
 ·rcases hwh with e|e
  ·exact .inl e
  ·exact .inr fun g hg1=>by have:=e g hg1;omega
theorem Fq.head {w0 wa w3:World}{N p:Nat}{v hv:Value}{xs:List ByteArray}{hs:List UInt8}(h:Fq w0 wa N p v xs)(hh:HeadQ wa (N+3) hv hs)(hg:wa.grownBy w3 hv.ownBlock):Fq w0 w3 N p v xs:=
 h.keep (OnlyAt.of_grown (T:=fun k=>hv.ownBlock=some k) hg fun _k hk=>hk) fun k hk=>⟨(hh.lt k hk).1,h.apart hh k hk⟩
end Go.Proofs.YtfehpcbmdancoaaGreatDoor.Dw
