/- A range over a function whose body never leaves: what the iterator may write (T), what the rounds keep (R and T): two sets of blocks, whoever laid them and when. -/
import Derived.RangeFuncNested
import Derived.RangeFuncLeaves
import Derived.RangeFuncBound
import Derived.Laws.AppendOwn
namespace Go.Proofs.YtfehpcbmdancoaaGreatDoor
open Go Go.RowKit
structure OnlyAt (T:Nat→Prop)(W W':World):Prop where
 os:W'.os=W.os
 tape:W'.tape=W.tape
 output:W'.output=W.output
 size:W.heap.size≤W'.heap.size
 block:∀k,k<W.heap.size→¬T k→W'.heap[k]?=W.heap[k]?
theorem OnlyAt.refl (T:Nat→Prop)(W:World):OnlyAt T W W:=⟨rfl,rfl,rfl,Nat.le_refl _,fun _ _ _=>rfl⟩
theorem OnlyAt.trans {T:Nat→Prop}{A B C:World}(h:OnlyAt T A B)(k:OnlyAt T B C):OnlyAt T A C:=
 ⟨k.os.trans h.os,k.tape.trans h.tape,k.output.trans h.output,Nat.le_trans h.size k.size,fun i hi ht=>(k.block i (Nat.lt_of_lt_of_le hi h.size) ht).trans (h.block i hi ht)⟩
theorem OnlyAt.mono {T T':Nat→Prop}{A B:World}(h:OnlyAt T A B)(ht:∀k,T k→T' k):OnlyAt T' A B:=
 ⟨h.os,h.tape,h.output,h.size,fun i hi hn=>h.block i hi (fun hh=>hn (ht i hh))⟩
theorem OnlyAt.alloc (T:Nat→Prop)(W:World)(o:Obj):OnlyAt T W (W.alloc o):=⟨rfl,rfl,rfl,by simp,fun k hk _=>Below.heap_alloc _ _ _ hk⟩
theorem OnlyAt.drew (T:Nat→Prop)(W:World):OnlyAt T W W.drew:=⟨rfl,rfl,rfl,Nat.le_refl _,fun _ _ _=>rfl⟩
theorem OnlyAt.putObj {T:Nat→Prop}(W:World)(l:Nat)(o:Obj)(h:T l):OnlyAt T W (W.putObj l o):=
 ⟨rfl,rfl,rfl,by simp,fun k _ hn=>World.putObj_heap_other (fun e=>hn (by rw[e];exact h))⟩
theorem OnlyAt.setCell {T:Nat→Prop}(W:World)(p:Addr)(v:Value)(h:T p.block):OnlyAt T W (W.setCell p v):=
 ⟨rfl,rfl,rfl,by simp[World.setCell],fun k _ hn=>Below.heap_setCell _ _ _ _ (fun e=>hn (by rw[e];exact h))⟩
theorem OnlyAt.of_below {T:Nat→Prop}{W W':World}(h:Below W.heap.size W W'):OnlyAt T W W':=
 ⟨h.os,h.tape,h.output,h.size,fun k hk _=>h.block k hk⟩
theorem OnlyAt.below {T:Nat→Prop}{B:Nat}{a W W':World}(hb:Below B a W)(h:OnlyAt T W W')(hB:B≤W.heap.size)(ht:∀k,T k→B≤k):Below B a W':=
 hb.trans ⟨h.os,h.tape,h.output,h.size,fun k hk=>h.block k (by omega) (fun hh=>by have:=ht k hh;omega)⟩
theorem OnlyAt.of_grown {T:Nat→Prop}{W W':World}{row:Option Nat}(hg:W.grownBy W' row)(hr:∀k,row=some k→T k):OnlyAt T W W':=
 ⟨hg.os,hg.tape,hg.output,hg.size,fun k hk hn=>hg.block k hk (fun e=>hn (hr k e.symm))⟩
structure KeepsAt (T:Nat→Prop)(W W':World):Prop where
 size:W.heap.size≤W'.heap.size
 block:∀k,k<W.heap.size→T k→W'.heap[k]?=W.heap[k]?
theorem KeepsAt.refl (T:Nat→Prop)(W:World):KeepsAt T W W:=⟨Nat.le_refl _,fun _ _ _=>rfl⟩
theorem KeepsAt.trans {T:Nat→Prop}{A B C:World}(h:KeepsAt T A B)(k:KeepsAt T B C):KeepsAt T A C:=
 ⟨Nat.le_trans h.size k.size,fun i hi ht=>(k.block i (Nat.lt_of_lt_of_le hi h.size) ht).trans (h.block i hi ht)⟩
theorem KeepsAt.mono {T T':Nat→Prop}{A B:World}(h:KeepsAt T A B)(ht:∀k,T' k→T k):KeepsAt T' A B:=⟨h.size,fun i hi hn=>h.block i hi (ht i hn)⟩
theorem KeepsAt.of_only {S T:Nat→Prop}{A B:World}(h:OnlyAt S A B)(hd:∀k,T k→¬S k):KeepsAt T A B:=⟨h.size,fun k hk ht=>h.block k hk (hd k ht)⟩
def Stab {β:Type}(I:(Nat→Prop)→β→World→Prop):Prop:=
 ∀T T' s W W',I T s W→OnlyAt T W W'→(∀k,T' k→T k∨(W.heap.size≤k∧k<W'.heap.size))→I T' s W'
theorem Stab.same {β:Type}{I:(Nat→Prop)→β→World→Prop}(h:Stab I){T:Nat→Prop}{s:β}{W W':World}(hs:I T s W)(ho:OnlyAt T W W'):I T s W':=h T T s W W' hs ho (fun _ hk=> .inl hk)
def Gives {α:Type}(P:Program)(g:Nat)(lb:Array Value)(encs:α→Array Value)(xs:List α)(R:Nat→Prop)(W:World):Prop:=
 ∀(l:Nat) (J:(Nat→Prop)→List α→World→Prop),Stab J→
  (∀T pre x W1,(pre++[x]) <+:xs→J T pre W1→YieldAt Fence.wide 0 P l (encs x) W1 fun e W2=>e= .returned (.bool true)∧J T (pre++[x]) W2∧KeepsAt (fun k=>R k∨T k) W1 W2)→
  J (fun _=>False) [] W→
  Calls P g (#[.func (.yield l) #[] #[]]++lb) W fun e W'=>(∃v,e= .returned v)∧∃T,J T xs W'
theorem RoundIn.wideIn {n m l0 l:Nat}{P:Program}{f:FuncId}{tmps:Array Value}{assign body:Code}{w:World}{R:Ending→World→Prop}(h:RoundIn Fence.wide n P l f tmps assign body w R):
 RoundIn (Fence.wide.inRound l0) m P l f tmps assign body w R:=⟨h.1,fun c cs _=>h.2 c cs (room_wide _)⟩
theorem RoundIn.wideOut {n m l:Nat}{P:Program}{f:FuncId}{tmps:Array Value}{assign body:Code}{w:World}{R:Ending→World→Prop}(h:RoundIn Fence.wide n P l f tmps assign body w R):
 RoundIn Fence.wide m P l f tmps assign body w R:=⟨h.1,fun c cs _=>h.2 c cs (room_wide _)⟩
theorem alloc_set (w:World)(cs:Array Value)(t:TypeId)(i:Nat)(v:Value):(w.alloc (.cells cs t)).setCell ⟨w.heap.size,i,none⟩ v=w.alloc (.cells (cs.setIfInBounds i v) t):=by
 unfold World.setCell World.alloc;simp only;congr 1;apply Array.ext (by simp);intro j h1 h2;simp only[Array.getElem_modify,Array.getElem_push];split
 ·rename_i h;subst h;simp
 ·rename_i h;simp at h1;rw[dif_pos (by omega)];rw[dif_pos (by omega)]
variable {P : Program} {n : Nat}
theorem wpIn_gives {α:Type}{g:Operand}{ps:Array Tmp}{assign body:Code}{Q:Exit→Act→World→Prop}{a:Act}{w:World}
  {gf:Nat} {lb:Array Value} (hg:a.eval g= .func (.func gf) #[] lb) (eg:∀args w,(callFunc gf args).run P w= .ok (.enter gf args) w) (h1:1≤n)
  {encs:α→Array Value} {xs:List α} {R:Nat→Prop} (hseq:∀W1,OnlyAt (fun _=>False) w W1→Gives P gf lb encs xs R W1) (hps:∀x,(encs x).size=ps.size) (hR:∀k,R k→k<w.heap.size)
  (I:(Nat→Prop)→List α→World→Prop) (hI:Stab I) (h0:I (fun _=>False) [] w)
  (Ax:(Nat→Prop)→List α→α→Act→World→Prop) (hAx:∀pre x a',Stab (fun T (_:Unit) W=>Ax T pre x a' W))
  (hassign:∀(l:Nat) (T:Nat→Prop) (pre:List α) (x:α) (W:World) (K:Act→World→Prop),(pre++[x]) <+:xs→I T pre W→(∀k,T k→k<W.heap.size)→
   (∀a' W',OnlyAt (fun _=>False) W W'→Ax T pre x a' W'→K a' W')→
   assign.wpIn (Fence.wide.inRound l) n P (Exit.then K (fun _ _ _=>False)) { tmps:=(ps.zip (encs x)).foldl (fun t (p,v)=>t.setIfInBounds p v) a.tmps,defers:=[] } W)
  (hbody:∀(l:Nat) (T:Nat→Prop) (pre:List α) (x:α) (a':Act) (W:World),(pre++[x]) <+:xs→Ax T pre x a' W→(∀k,T k→k<W.heap.size)→
   body.wpIn (Fence.wide.inRound l) n P (fun e _ W'=>e= .normal∧I T (pre++[x]) W'∧KeepsAt (fun k=>R k∨T k) W W') a' W)
  (hdone:∀(D:Nat) (T:Nat→Prop) (W:World),w.heap.size≤D→T D→I T xs W→W.heap[D]?=some (.deferred (some []))→Q .normal { a with defers:={ target:= .collected D,args:=#[] } ::a.defers } W):
  (Code.rangeFunc g ps assign body).wpIn Fence.wide n P Q a w:=by
 refine wpIn_rangeFunc ?_;intro fn hfn;rw[show Fence.wide.round=none from rfl];obtain⟨rec,hrec⟩:∃rec:LoopState→Option Code→Loop,rec=fun st pe=>{ state:=st,pending:=pe,fn,tmps:=a.tmps,params:=ps,assign,body,defers:=w.heap.size }:=⟨_,rfl⟩;obtain⟨W1,hW1⟩:∃W1,(w.alloc (.deferred (some []))).alloc (.loop (rec .ready none))=W1:=⟨_,rfl⟩;obtain⟨D,hD⟩:∃D,D=w.heap.size:=⟨_,rfl⟩;obtain⟨l,hl⟩:∃l,l=w.heap.size+1:=⟨_,rfl⟩;have hDl:D≠l:=by omega
 have hs1:W1.heap.size=w.heap.size+2:=by rw[←hW1];simp
 have hL1:W1.heap[l]?=some (.loop (rec .ready none)):=by
  rw[←hW1,hl];have:=World.alloc_heap_new (w.alloc (.deferred (some []))) (.loop (rec .ready none));rwa[World.size_alloc]at this
 have hK1:W1.heap[D]?=some (.deferred (some [])):=by
  rw[←hW1,hD];exact(Below.heap_alloc _ _ _ (by simp)).trans (World.alloc_heap_new w _)
 have ho1:OnlyAt (fun _=>False) w W1:=by rw[←hW1];exact(OnlyAt.alloc _ _ _).trans (OnlyAt.alloc _ _ _)
 refine⟨l,[{ target:= .collected D,args:=#[] }],W1,{ target:= .fn (.func gf) lb,args:=#[.func (.yield l) #[] #[]] },W1,gf,
  #[.func (.yield l) #[] #[]]++lb,W1,?_,?_,?_,?_,fun _=>h1,?_⟩
 ·rw[←hW1,hrec,hl,hD];exact run_enterLoop_outer _ _ _ _ _
 ·simp only[resolve,hg];simp[go_sem]
 ·intro f' _;trivial
 ·simp[invoke,go_sem,eg]
 ·refine callsIn_wide.2 ?_;refine(hseq W1 ho1 l (fun T pre W=>I (fun k=>T k∨k=D∨k=l) pre W∧(W.heap[l]?=some (.loop (rec .ready none))∧W.heap[D]?=some (.deferred (some [])))∧(¬T l∧¬T D)∧∀k,T k→k<W.heap.size) ?_ ?_ ?_).mono ?_
  ·
   rintro T T' s A B ⟨hi,⟨hl',hk'⟩,⟨hnl,hnd⟩,hlt⟩ ho ht;have hlA:l<A.heap.size:=(Array.getElem?_eq_some_iff.1 hl').1;have hDA:D<A.heap.size:=(Array.getElem?_eq_some_iff.1 hk').1;refine⟨hI _ _ s A B hi (ho.mono (fun k h=> .inl h)) ?_,⟨(ho.block _ hlA hnl).trans hl',(ho.block _ hDA hnd).trans hk'⟩,⟨fun h=>?_,fun h=>?_⟩,fun k hk=>?_⟩
   ·rintro k (hk|hk)
    ·rcases ht k hk with h|h
     ·exact .inl (.inl h)
     ·exact .inr h
    ·exact .inl (.inr hk)
   ·rcases ht _ h with h|h
    ·exact hnl h
    ·omega
   ·rcases ht _ h with h|h
    ·exact hnd h
    ·omega
   ·rcases ht k hk with h|h
    ·have:=hlt k h;have:=ho.size;omega
    ·exact h.2
  ·
   rintro T pre x W hpre ⟨hi,⟨hl',hk'⟩,⟨hnl,hnd⟩,hlt⟩;have hlW:l<W.heap.size:=(Array.getElem?_eq_some_iff.1 hl').1;have hDW:D<W.heap.size:=(Array.getElem?_eq_some_iff.1 hk').1;have hTW:∀k,(T k∨k=D∨k=l)→k<W.heap.size:=by
    rintro k (hk|rfl|rfl)
    ·exact hlt k hk
    ·exact hDW
    ·exact hlW
   have hy:=run_yield (P:=P) (args:=encs x) hl' (by rw[hrec];exact hps x);rw[hrec]at hy;refine⟨fn,_,assign,body,hy,RoundIn.wideOut (n:=n) (roundIn_of_wpIn hfn (hassign l _ pre x W _ hpre hi hTW ?_))⟩;clear hy;intro a' Wa hoa hax;have hla:Wa.heap[l]?=some (.loop (rec .ready none)):=(hoa.block _ hlW id).trans hl';have hka:Wa.heap[D]?=some (.deferred (some [])):=(hoa.block _ hDW id).trans hk';have hlWa:l<Wa.heap.size:=(Array.getElem?_eq_some_iff.1 hla).1;refine⟨_,run_beginRound hla (by rw[hrec]),?_⟩;have hob:OnlyAt (fun k=>T k∨k=D∨k=l) Wa (Wa.putObj l (.loop { rec .ready none with state:= .busy })):=OnlyAt.putObj _ _ _ (.inr (.inr rfl));have hlb:(Wa.putObj l (.loop { rec .ready none with state:= .busy })).heap[l]?=some (.loop { rec .ready none with state:= .busy }):=World.putObj_heap_same hlWa;have hkb:(Wa.putObj l (.loop { rec .ready none with state:= .busy })).heap[D]?=some (.deferred (some [])):=(World.putObj_heap_other hDl).trans hka;refine wpIn_mono (hbody l _ pre x a' _ hpre ((hAx pre x a').same (s:=()) hax hob) (fun k hk=>Nat.lt_of_lt_of_le (hTW k hk) (Nat.le_trans hoa.size hob.size))) ?_;rintro e a3 W3 ⟨rfl,hi3,hk3⟩;have hlb':=(Array.getElem?_eq_some_iff.1 hlb).1;have hkb':=(Array.getElem?_eq_some_iff.1 hkb).1;have hl3:W3.heap[l]?=some (.loop { rec .ready none with state:= .busy }):=(hk3.block _ hlb' (.inr (.inr (.inr rfl)))).trans hlb;have hd3:W3.heap[D]?=some (.deferred (some [])):=(hk3.block _ hkb' (.inr (.inr (.inl rfl)))).trans hkb;have hl3':=(Array.getElem?_eq_some_iff.1 hl3).1;have hr:=run_endRound (P:=P) none hl3;rw[hrec]at hr;have hoe:OnlyAt (fun k=>T k∨k=D∨k=l) W3 (W3.putObj l (.loop (rec .ready none))):=OnlyAt.putObj _ _ _ (.inr (.inr rfl));refine⟨_,_,hr,rfl,?_⟩;rw[hrec]at hoe;refine⟨⟨hI.same hi3 hoe,⟨?_,(World.putObj_heap_other hDl).trans hd3⟩,⟨hnl,hnd⟩,fun k hk=>?_⟩,?_⟩
   ·rw[hrec];exact World.putObj_heap_same hl3'
   ·exact Nat.lt_of_lt_of_le (hlt k hk) (Nat.le_trans hoa.size (Nat.le_trans hob.size (Nat.le_trans hk3.size hoe.size)))
   ·refine⟨Nat.le_trans hoa.size (Nat.le_trans hob.size (Nat.le_trans hk3.size hoe.size)),fun k hk hrt=>?_⟩;have hkl:k≠l:=by
     rintro rfl;rcases hrt with h|h
     ·have:=hR _ h;omega
     ·exact hnl h
    refine(World.putObj_heap_other hkl).trans ((hk3.block k ?_ ?_).trans ((World.putObj_heap_other hkl).trans (hoa.block k hk id)))
    ·exact Nat.lt_of_lt_of_le hk (Nat.le_trans hoa.size hob.size)
    ·rcases hrt with h|h
     ·exact .inl h
     ·exact .inr (.inl h)
  ·refine⟨hI _ _ [] w W1 h0 ho1 ?_,⟨hL1,hK1⟩,⟨id,id⟩,fun _ h=>h.elim⟩;rintro k (h|rfl|rfl)
   ·exact h.elim
   ·right;omega
   ·right;omega
  ·
   rintro e W2 ⟨⟨v,rfl⟩,T,hi,⟨hl',hk'⟩,⟨hnl,hnd⟩,hlt⟩;refine⟨none,_,by have:=run_endLoop (P:=P) hl' (by rw[hrec];simp);rw[hrec]at this;exact this,?_⟩;exact hdone D _ _ (by omega) (.inr (.inl rfl)) (hI.same hi (OnlyAt.putObj _ _ _ (.inr (.inr rfl)))) ((World.putObj_heap_other hDl).trans hk')
end Go.Proofs.YtfehpcbmdancoaaGreatDoor
namespace Go.Proofs.YtfehpcbmdancoaaGreatDoor
open Go Go.RowKit
theorem append_where {P:Program}(w:World)(base:Nat)(t ty e:TypeId)(i:TypeInfo)(z:Value)(size bytes:Nat)(ht:P.underlying t=some (.slice e))(hi:P.info? e=some i)(hz:i.zero=some z)
  (hsize:i.size=size) (hby:i.bytes=bytes) (hzs:z.cells.size=size) (hsz:0<size)
  (v:Value) (n:Nat) (xs:List Value) (hown:w.ownsRow base e size v n xs)
  (a:Addr) (m c:Nat) (news:List Value) (hl:news.length=m*size) (hnews:∀j u,news[j]?=some u→w.cell? (a.add j)=some u) (h1:∀u∈news,u.oneCell'=true)
  (h63:n+m≤maxLen) (hbytes:(n+m)*bytes≤140737488355328) {v':Value} {w':World} (hr:(Builtin.append_ #[t,t] ty #[v,.slice (some a) m c]).run P w= .ok v' w'):
  v'.ownBlock=v.ownBlock∨∀g,v'.ownBlock=some g→w.heap.size≤g:=by
 rcases hown.2 with ⟨rfl,rfl⟩|⟨g,cap,cur,rfl,hbg,hg,hnc,hcm,hcs,htake⟩
 ·right;have hx:xs=[]:=List.eq_nil_of_length_eq_zero (by simpa using hown.1);subst hx;obtain⟨v2,w2,hr2,ho2,_⟩:=run_append_own (P:=P) w w.heap.size t ty e i z size bytes ht hi hz hsize hby hzs hsz (.slice none 0 0) 0 [] (World.ownsRow_nil _ _ _ _) a m c news hl hnews h1 h63 hbytes (Nat.le_refl _);rw[hr]at hr2;cases hr2;intro g hgb;exact(ho2.lt g hgb).1
 ·subst hsize;subst hby
  by_cases hroom:n+m≤cap
  ·left;have hfit:n*i.size+news.length≤cur.size:=by rw[hl,hcs,←Nat.add_mul];exact Nat.mul_le_mul_right _ hroom
   have hr2:=run_append_room (P:=P) w t ty e i ht hi g n cap cur hg a m c news hl hnews h1 hroom hfit;rw[hr]at hr2;cases hr2;rfl
  ·right;have holds:∀j u,xs[j]?=some u→w.cell? ((⟨g,0,none⟩:Addr).add j)=some u:=hown.cells (g:=g) rfl;have hsmall:n+m≤9223372036854775807:=by simp only[maxLen]at h63;omega
   have hr2:=run_append_grow (P:=P) w t ty e i z ht hi hz ⟨g,0,none⟩ n cap xs hown.1 holds a m c news hl hnews (by omega) (by omega) (growslice_fits (by omega) hbytes);rw[hr]at hr2;cases hr2;intro k hk;simp[Value.ownBlock]at hk;omega
theorem wpList_append_where {P:Program}(w:World){ops:Array Oper}{rest:List Oper}{o:Oper}{a:Act}{Q:Exit→Act→World→Prop}(hgd:o.guard=none)(s x:Operand)(t:TypeId)
  (ho:o.op= .call { callee:= .builtin .append,args:=#[s,x],argTypes:=#[t,t] })
  (base:Nat) (e:TypeId) (i:TypeInfo) (z:Value) (size bytes:Nat) (ht:P.underlying t=some (.slice e)) (hi:P.info? e=some i) (hz:i.zero=some z)
  (hsize:i.size=size) (hby:i.bytes=bytes) (hzs:z.cells.size=size) (hsz:0<size)
  (v:Value) (n:Nat) (xs:List Value) (hs:a.eval s=v) (hown:w.ownsRow base e size v n xs)
  (ad:Addr) (m c:Nat) (news:List Value) (hx:a.eval x= .slice (some ad) m c) (hl:news.length=m*size) (hnews:∀j u,news[j]?=some u→w.cell? (ad.add j)=some u) (h1:∀u∈news,u.oneCell'=true)
  (h63:n+m≤maxLen) (hbytes:(n+m)*bytes≤140737488355328) (hbase:base≤w.heap.size)
  (h:∀v' w',w'.ownsRow base e size v' (n+m) (xs++news)→w.grownBy w' v.ownBlock→(v'.ownBlock=v.ownBlock∨∀g,v'.ownBlock=some g→w.heap.size≤g)→wpList P ops Q rest (a.put o.dst v') w'):wpList P ops Q (o::rest) a w:=by
 refine wpList_plain hgd fun K hK=>?_;obtain⟨v',w',hr,h2,h3,_⟩:=run_append_own (P:=P) w base t o.type e i z size bytes ht hi hz hsize hby hzs hsz v n xs hown ad m c news hl hnews h1 h63 hbytes hbase;have h4:=append_where (P:=P) w base t o.type e i z size bytes ht hi hz hsize hby hzs hsz v n xs hown ad m c news hl hnews h1 h63 hbytes hr;unfold Oper.wp execOp;simp only[ho,resolve,invoke,builtin,Sem.run_bind,Sem.run_pure,Result.andThen_ok,List.map_toArray,List.map_cons,List.map_nil,hs,hx,hr];exact hK _ _ (h v' w' h2 h3 h4)
def Stops {α:Type}(P:Program)(g:Nat)(lb:Array Value)(encs:α→Array Value)(Adm:List α→α→Prop)(S:List α→Prop)(R:Nat→Prop)(W:World):Prop:=
 ∀(l:Nat) (J Jx:(Nat→Prop)→List α→World→Prop),Stab J→Stab Jx→
  (∀T pre x W1,Adm pre x→J T pre W1→YieldAt Fence.wide 0 P l (encs x) W1 fun e W2=>
   ((e= .returned (.bool true)∧J T (pre++[x]) W2)∨(e= .returned (.bool false)∧Jx T (pre++[x]) W2))∧KeepsAt (fun k=>R k∨T k) W1 W2)→
  J (fun _=>False) [] W→
  Calls P g (#[.func (.yield l) #[] #[]]++lb) W fun e W'=>(∃v,e= .returned v)∧∃T xs,(S xs∧J T xs W')∨Jx T xs W'
def stopPost {α:Type}(I:(Nat→Prop)→List α→World→Prop)(Ix:Code→(Nat→Prop)→List α→World→Prop)(R T:Nat→Prop)(xs:List α)(W:World):Exit→Act→World→Prop
 | .normal,_,W'=>I T xs W'∧KeepsAt (fun k=>R k∨T k) W W'
 | .ret,_,W'=>Ix .ret T xs W'∧KeepsAt (fun k=>R k∨T k) W W'
 | .exit id,_,W'=>Ix (.exit id) T xs W'∧KeepsAt (fun k=>R k∨T k) W W'
 | .goto t,_,W'=>Ix (.goto t) T xs W'∧KeepsAt (fun k=>R k∨T k) W W'
 | _,_,_=>False
variable {P : Program} {n : Nat}
theorem wpIn_stops {α:Type}{g:Operand}{ps:Array Tmp}{assign body:Code}{Q:Exit→Act→World→Prop}{a:Act}{w:World}
  {gf:Nat} {lb:Array Value} (hg:a.eval g= .func (.func gf) #[] lb) (eg:∀args w,(callFunc gf args).run P w= .ok (.enter gf args) w) (h1:1≤n)
  {encs:α→Array Value} {Adm:List α→α→Prop} {S:List α→Prop} {R:Nat→Prop} (hseq:∀W1,OnlyAt (fun _=>False) w W1→Stops P gf lb encs Adm S R W1) (hps:∀x,(encs x).size=ps.size) (hR:∀k,R k→k<w.heap.size)
  (I:(Nat→Prop)→List α→World→Prop) (hI:Stab I) (Ix:Code→(Nat→Prop)→List α→World→Prop) (hIx:∀c,Stab (Ix c)) (h0:I (fun _=>False) [] w)
  (Ax:(Nat→Prop)→List α→α→Act→World→Prop) (hAx:∀pre x a',Stab (fun T (_:Unit) W=>Ax T pre x a' W))
  (hassign:∀(l:Nat) (T:Nat→Prop) (pre:List α) (x:α) (W:World) (K:Act→World→Prop),Adm pre x→I T pre W→(∀k,T k→k<W.heap.size)→
   (∀a' W',OnlyAt (fun _=>False) W W'→Ax T pre x a' W'→K a' W')→
   assign.wpIn (Fence.wide.inRound l) n P (Exit.then K (fun _ _ _=>False)) { tmps:=(ps.zip (encs x)).foldl (fun t (p,v)=>t.setIfInBounds p v) a.tmps,defers:=[] } W)
  (hbody:∀(l:Nat) (T:Nat→Prop) (pre:List α) (x:α) (a':Act) (W:World),Adm pre x→Ax T pre x a' W→(∀k,T k→k<W.heap.size)→
   body.wpIn (Fence.wide.inRound l) n P (stopPost I Ix R T (pre++[x]) W) a' W)
  (hdone:∀(D:Nat) (T:Nat→Prop) (xs:List α) (W:World),w.heap.size≤D→T D→S xs→I T xs W→W.heap[D]?=some (.deferred (some []))→Q .normal { a with defers:={ target:= .collected D,args:=#[] } ::a.defers } W)
  (hstop:∀(D:Nat) (T:Nat→Prop) (c:Code) (xs:List α) (W:World),w.heap.size≤D→T D→Ix c T xs W→W.heap[D]?=some (.deferred (some []))→c.wpIn Fence.wide n P Q { a with defers:={ target:= .collected D,args:=#[] } ::a.defers } W):
  (Code.rangeFunc g ps assign body).wpIn Fence.wide n P Q a w:=by
 refine wpIn_rangeFunc ?_;intro fn hfn;rw[show Fence.wide.round=none from rfl];obtain⟨rec,hrec⟩:∃rec:LoopState→Option Code→Loop,rec=fun st pe=>{ state:=st,pending:=pe,fn,tmps:=a.tmps,params:=ps,assign,body,defers:=w.heap.size }:=⟨_,rfl⟩;obtain⟨W1,hW1⟩:∃W1,(w.alloc (.deferred (some []))).alloc (.loop (rec .ready none))=W1:=⟨_,rfl⟩;obtain⟨D,hD⟩:∃D,D=w.heap.size:=⟨_,rfl⟩;obtain⟨l,hl⟩:∃l,l=w.heap.size+1:=⟨_,rfl⟩;have hDl:D≠l:=by omega
 have hs1:W1.heap.size=w.heap.size+2:=by rw[←hW1];simp
 have hL1:W1.heap[l]?=some (.loop (rec .ready none)):=by
  rw[←hW1,hl];have:=World.alloc_heap_new (w.alloc (.deferred (some []))) (.loop (rec .ready none));rwa[World.size_alloc]at this
 have hK1:W1.heap[D]?=some (.deferred (some [])):=by
  rw[←hW1,hD];exact(Below.heap_alloc _ _ _ (by simp)).trans (World.alloc_heap_new w _)
 have ho1:OnlyAt (fun _=>False) w W1:=by rw[←hW1];exact(OnlyAt.alloc _ _ _).trans (OnlyAt.alloc _ _ _)
 have book:∀(o:Obj) (I0:(Nat→Prop)→List α→World→Prop),Stab I0→Stab (fun T pre W=>I0 (fun k=>T k∨k=D∨k=l) pre W∧(W.heap[l]?=some o∧W.heap[D]?=some (.deferred (some [])))∧(¬T l∧¬T D)∧∀k,T k→k<W.heap.size):=by
  rintro o I0 hI0 T T' s A B ⟨hi,⟨hl',hk'⟩,⟨hnl,hnd⟩,hlt⟩ ho ht;have hlA:l<A.heap.size:=(Array.getElem?_eq_some_iff.1 hl').1;have hDA:D<A.heap.size:=(Array.getElem?_eq_some_iff.1 hk').1;refine⟨hI0 _ _ s A B hi (ho.mono (fun k h=> .inl h)) ?_,⟨(ho.block _ hlA hnl).trans hl',(ho.block _ hDA hnd).trans hk'⟩,⟨fun h=>?_,fun h=>?_⟩,fun k hk=>?_⟩
  ·rintro k (hk|hk)
   ·rcases ht k hk with h|h
    ·exact .inl (.inl h)
    ·exact .inr h
   ·exact .inl (.inr hk)
  ·rcases ht _ h with h|h
   ·exact hnl h
   ·omega
  ·rcases ht _ h with h|h
   ·exact hnd h
   ·omega
  ·rcases ht k hk with h|h
   ·have:=hlt k h;have:=ho.size;omega
   ·exact h.2
 refine⟨l,[{ target:= .collected D,args:=#[] }],W1,{ target:= .fn (.func gf) lb,args:=#[.func (.yield l) #[] #[]] },W1,gf,
  #[.func (.yield l) #[] #[]]++lb,W1,?_,?_,?_,?_,fun _=>h1,?_⟩
 ·rw[←hW1,hrec,hl,hD];exact run_enterLoop_outer _ _ _ _ _
 ·simp only[resolve,hg];simp[go_sem]
 ·intro f' _;trivial
 ·simp[invoke,go_sem,eg]
 ·refine callsIn_wide.2 ?_;refine(hseq W1 ho1 l (fun T pre W=>I (fun k=>T k∨k=D∨k=l) pre W∧(W.heap[l]?=some (.loop (rec .ready none))∧W.heap[D]?=some (.deferred (some [])))∧(¬T l∧¬T D)∧∀k,T k→k<W.heap.size)
   (fun T pre W=>∃c,Ix c (fun k=>T k∨k=D∨k=l) pre W∧(W.heap[l]?=some (.loop (rec .done (some c)))∧W.heap[D]?=some (.deferred (some [])))∧(¬T l∧¬T D)∧∀k,T k→k<W.heap.size)
   (book _ I hI) ?_ ?_ ?_).mono ?_
  ·rintro T T' s A B ⟨c,hc⟩ ho ht;exact⟨c,book _ (Ix c) (hIx c) T T' s A B hc ho ht⟩
  ·
   rintro T pre x W hadm ⟨hi,⟨hl',hk'⟩,⟨hnl,hnd⟩,hlt⟩;have hlW:l<W.heap.size:=(Array.getElem?_eq_some_iff.1 hl').1;have hDW:D<W.heap.size:=(Array.getElem?_eq_some_iff.1 hk').1;have hTW:∀k,(T k∨k=D∨k=l)→k<W.heap.size:=by
    rintro k (hk|rfl|rfl)
    ·exact hlt k hk
    ·exact hDW
    ·exact hlW
   have hy:=run_yield (P:=P) (args:=encs x) hl' (by rw[hrec];exact hps x);rw[hrec]at hy;refine⟨fn,_,assign,body,hy,RoundIn.wideOut (n:=n) (roundIn_of_wpIn hfn (hassign l _ pre x W _ hadm hi hTW ?_))⟩;clear hy;intro a' Wa hoa hax;have hla:Wa.heap[l]?=some (.loop (rec .ready none)):=(hoa.block _ hlW id).trans hl';have hka:Wa.heap[D]?=some (.deferred (some [])):=(hoa.block _ hDW id).trans hk';have hlWa:l<Wa.heap.size:=(Array.getElem?_eq_some_iff.1 hla).1;refine⟨_,run_beginRound hla (by rw[hrec]),?_⟩;have hob:OnlyAt (fun k=>T k∨k=D∨k=l) Wa (Wa.putObj l (.loop { rec .ready none with state:= .busy })):=OnlyAt.putObj _ _ _ (.inr (.inr rfl));have hlb:(Wa.putObj l (.loop { rec .ready none with state:= .busy })).heap[l]?=some (.loop { rec .ready none with state:= .busy }):=World.putObj_heap_same hlWa;have hkb:(Wa.putObj l (.loop { rec .ready none with state:= .busy })).heap[D]?=some (.deferred (some [])):=(World.putObj_heap_other hDl).trans hka;have hlb':=(Array.getElem?_eq_some_iff.1 hlb).1;have hkb':=(Array.getElem?_eq_some_iff.1 hkb).1;have fin:∀(jump:Option Code) (W3:World),KeepsAt (fun k=>R k∨T k∨k=D∨k=l) (Wa.putObj l (.loop { rec .ready none with state:= .busy })) W3→
     ∃W4,(Instr.endRound l jump).run P W3= .ok (.bool jump.isNone) W4∧OnlyAt (fun k=>T k∨k=D∨k=l) W3 W4∧W4.heap[l]?=some (.loop (rec (if jump.isNone then .ready else .done) jump))∧W4.heap[D]?=some (.deferred (some []))∧
      (∀k,T k→k<W4.heap.size)∧KeepsAt (fun k=>R k∨T k) W W4:=by
    intro jump W3 hk3;have hl3:W3.heap[l]?=some (.loop { rec .ready none with state:= .busy }):=(hk3.block _ hlb' (.inr (.inr (.inr rfl)))).trans hlb;have hd3:W3.heap[D]?=some (.deferred (some [])):=(hk3.block _ hkb' (.inr (.inr (.inl rfl)))).trans hkb;have hl3':=(Array.getElem?_eq_some_iff.1 hl3).1;have hr:=run_endRound (P:=P) jump hl3;rw[hrec]at hr;have hoe:OnlyAt (fun k=>T k∨k=D∨k=l) W3 (W3.putObj l (.loop (rec (if jump.isNone then .ready else .done) jump))):=OnlyAt.putObj _ _ _ (.inr (.inr rfl));refine⟨_,hr,?_⟩;rw[hrec]at hoe;have hsz:=Nat.le_trans hoa.size (Nat.le_trans hob.size (Nat.le_trans hk3.size hoe.size));refine⟨hoe,?_,(World.putObj_heap_other hDl).trans hd3,fun k hk=>Nat.lt_of_lt_of_le (hlt k hk) hsz,hsz,fun k hk hrt=>?_⟩
    ·rw[hrec];exact World.putObj_heap_same hl3'
    ·have hkl:k≠l:=by
      rintro rfl;rcases hrt with h|h
      ·have:=hR _ h;omega
      ·exact hnl h
     refine(World.putObj_heap_other hkl).trans ((hk3.block k ?_ ?_).trans ((World.putObj_heap_other hkl).trans (hoa.block k hk id)))
     ·exact Nat.lt_of_lt_of_le hk (Nat.le_trans hoa.size hob.size)
     ·rcases hrt with h|h
      ·exact .inl h
      ·exact .inr (.inl h)
   refine wpIn_mono (hbody l _ pre x a' _ hadm ((hAx pre x a').same (s:=()) hax hob) (fun k hk=>Nat.lt_of_lt_of_le (hTW k hk) (Nat.le_trans hoa.size hob.size))) ?_;rintro e a3 W3 hp;cases e with
   | normal=>
     obtain⟨hi3,hk3⟩:=hp;obtain⟨W4,hr,hoe,hl4,hd4,hlt4,hk4⟩:=fin none W3 hk3;exact⟨_,_,hr,.inl ⟨rfl,hI.same hi3 hoe,⟨hl4,hd4⟩,⟨hnl,hnd⟩,hlt4⟩,hk4⟩
   | ret=>
     obtain⟨hi3,hk3⟩:=hp;obtain⟨W4,hr,hoe,hl4,hd4,hlt4,hk4⟩:=fin (some .ret) W3 hk3;exact⟨_,_,hr,.inr ⟨rfl,.ret,(hIx _).same hi3 hoe,⟨hl4,hd4⟩,⟨hnl,hnd⟩,hlt4⟩,hk4⟩
   | exit id=>
     obtain⟨hi3,hk3⟩:=hp;obtain⟨W4,hr,hoe,hl4,hd4,hlt4,hk4⟩:=fin (some (.exit id)) W3 hk3;exact⟨_,_,hr,.inr ⟨rfl,.exit id,(hIx _).same hi3 hoe,⟨hl4,hd4⟩,⟨hnl,hnd⟩,hlt4⟩,hk4⟩
   | goto t=>
     obtain⟨hi3,hk3⟩:=hp;obtain⟨W4,hr,hoe,hl4,hd4,hlt4,hk4⟩:=fin (some (.goto t)) W3 hk3;exact⟨_,_,hr,.inr ⟨rfl,.goto t,(hIx _).same hi3 hoe,⟨hl4,hd4⟩,⟨hnl,hnd⟩,hlt4⟩,hk4⟩
   | panic ch=>exact hp.elim
   | outgrown=>exact hp.elim
  ·refine⟨hI _ _ [] w W1 h0 ho1 ?_,⟨hL1,hK1⟩,⟨id,id⟩,fun _ h=>h.elim⟩;rintro k (h|rfl|rfl)
   ·exact h.elim
   ·right;omega
   ·right;omega
  ·
   rintro e W2 ⟨⟨v,rfl⟩,T,xs,⟨hS,hi,⟨hl',hk'⟩,-,-⟩|⟨c,hi,⟨hl',hk'⟩,-,-⟩⟩
   ·refine⟨none,_,by have:=run_endLoop (P:=P) hl' (by rw[hrec];simp);rw[hrec]at this;exact this,?_⟩;exact hdone D _ _ _ (by omega) (.inr (.inl rfl)) hS (hI.same hi (OnlyAt.putObj _ _ _ (.inr (.inr rfl)))) ((World.putObj_heap_other hDl).trans hk')
   ·refine⟨some c,_,by have:=run_endLoop (P:=P) hl' (by rw[hrec];simp);rw[hrec]at this;exact this,?_⟩;exact hstop D _ c _ _ (by omega) (.inr (.inl rfl)) ((hIx c).same hi (OnlyAt.putObj _ _ _ (.inr (.inr rfl)))) ((World.putObj_heap_other hDl).trans hk')
end Go.Proofs.YtfehpcbmdancoaaGreatDoor
