/- Rising lists of texts, plain: no program. -/
import Derived.Test.YtfehpcbmdancoaaGreatDoorProg
import Derived.Lib.Hide
import Derived.Lib.MapLaws
import Derived.WalkKit
import Derived.WalkSpells
import Derived.WalkLawsBesides
import Derived.IntWalk
import Derived.BigQuiet
import Derived.BigRegion
import Derived.Deep.QuietTactic
import Derived.Deep.LoopGhost
import Derived.Below
import Derived.Outline
import Derived.WalkMore
import Derived.Laws.Rows
import Derived.Maps.RangeWalk
import Derived.Maps.Ext
import Derived.Maps.OwnIn
import Derived.DeepKeys4
import Derived.Deep.AppendLies
import Derived.Deep.RegionLaw
import Derived.StillTailTactics
import Derived.RangeFuncBox
import Derived.Shelf.Abstract
import Derived.Shelf.RegionOpen
import Derived.OwnWalkIn
import Derived.TacticsInMore
import Derived.LoopNIn
import Derived.LoopIn
import Derived.Deep.RegionHeld3
import Derived.Test.YtfehpcbmdancoaaGreatDoorPdPbSGives
set_option maxRecDepth 100000
set_option maxHeartbeats 4000000
namespace Go.Proofs.YtfehpcbmdancoaaGreatDoor.Dw
def ltS (a b:ByteArray):Prop:=a.data.toList<b.data.toList
instance (a b:ByteArray):Decidable (ltS a b):=inferInstanceAs (Decidable (a.data.toList<b.data.toList))
theorem ltS_irrefl (a:ByteArray):¬ltS a a:=List.lt_irrefl _
theorem ltS_trans {a b c:ByteArray}(h:ltS a b)(k:ltS b c):ltS a c:=List.lt_trans h k
theorem ltS_total {a b:ByteArray}(h:¬ltS a b)(hne:a≠b):ltS b a:=by
 have h1:b.data.toList≤a.data.toList:=List.not_lt.1 h;rcases Classical.em (b.data.toList<a.data.toList)with h2|h2
 ·exact h2
 ·exfalso;apply hne;have h3:=List.not_lt.1 h2;have h4:a.data.toList=b.data.toList:=List.le_antisymm h3 h1;have h5:a.data=b.data:=Array.toList_inj.1 h4;cases a;cases b;simp at h5;rw[h5]
theorem ltS_asymm {a b:ByteArray}(h:ltS a b):¬ltS b a:=fun k=>ltS_irrefl a (ltS_trans h k)
def Rising (l:List ByteArray):Prop:=l.Pairwise ltS
def putL:List ByteArray→ByteArray→List ByteArray
 | [],s=>[s]
 | a::r,s=>if ltS a s then a::putL r s else if a=s then a::r else s::a::r
theorem putL_mem (s x:ByteArray):∀l,x∈putL l s↔x=s∨x∈l
 | []=>by simp[putL]
 | a::r=>by
   unfold putL;split
   ·rw[List.mem_cons,putL_mem s x r,List.mem_cons];constructor
    ·rintro (h|h|h)
     ·exact .inr (.inl h)
     ·exact .inl h
     ·exact .inr (.inr h)
    ·rintro (h|h|h)
     ·exact .inr (.inl h)
     ·exact .inl h
     ·exact .inr (.inr h)
   ·split
    ·rename_i h;subst h;rw[List.mem_cons];constructor
     ·exact .inr
     ·rintro (h|h)
      ·exact .inl h
      ·exact h
    ·rw[List.mem_cons]
theorem putL_rising (s:ByteArray):∀l,Rising l→Rising (putL l s)
 | [],_=>by simp[putL,Rising]
 | a::r,h=>by
   obtain⟨h1,h2⟩:=List.pairwise_cons.1 h;unfold putL;split
   ·rename_i hlt;refine List.pairwise_cons.2 ⟨fun x hx=>?_,putL_rising s r h2⟩;rcases (putL_mem s x r).1 hx with rfl|hx
    ·exact hlt
    ·exact h1 x hx
   ·rename_i hn;split
    ·exact h
    ·rename_i hne;have hsa:=ltS_total hn hne;refine List.pairwise_cons.2 ⟨fun x hx=>?_,h⟩;rcases List.mem_cons.1 hx with rfl|hx
     ·exact hsa
     ·exact ltS_trans hsa (h1 x hx)
theorem putL_length (s:ByteArray):∀l,(putL l s).length≤l.length+1
 | []=>by simp[putL]
 | a::r=>by
   unfold putL;split
   ·have:=putL_length s r;simp only[List.length_cons];omega
   ·split<;>simp
theorem rising_eq:∀{l m:List ByteArray},Rising l→Rising m→(∀x,x∈l↔x∈m)→l=m
 | [],[],_,_,_=>rfl
 | [],b::m,_,_,h=>absurd ((h b).2 (List.mem_cons_self ..)) (by simp)
 | a::l,[],_,_,h=>absurd ((h a).1 (List.mem_cons_self ..)) (by simp)
 | a::l,b::m,hl,hm,h=>by
   obtain⟨l1,l2⟩:=List.pairwise_cons.1 hl;obtain⟨m1,m2⟩:=List.pairwise_cons.1 hm;have hab:a=b:=by
    rcases List.mem_cons.1 ((h a).1 (List.mem_cons_self ..))with e|e
    ·exact e
    ·rcases List.mem_cons.1 ((h b).2 (List.mem_cons_self ..))with e'|e'
     ·exact e'.symm
     ·exact absurd (l1 b e') (ltS_asymm (m1 a e))
   subst hab;congr 1;refine rising_eq l2 m2 fun x=>?_;have hx:=h x;rw[List.mem_cons,List.mem_cons]at hx;constructor
   ·intro hm';rcases hx.1 (.inr hm')with e|e
    ·subst e;exact absurd (l1 x hm') (ltS_irrefl x)
    ·exact e
   ·intro hm';rcases hx.2 (.inr hm')with e|e
    ·subst e;exact absurd (m1 x hm') (ltS_irrefl x)
    ·exact e
abbrev Bs:=List UInt8
def tl1 (c:UInt8):Bs→Option Bs
 | b::r=>if b=c then some r else none
 | []=>none
def tails (c:UInt8)(l:List Bs):List Bs:=l.filterMap (tl1 c)
def ends:List Bs→Bs→List Bs
 | l,[]=>l
 | l,c::p=>ends (tails c l) p
def Above (c:UInt8)(L:List Bs):Prop:=∀x∈L,∃b r,x=b::r∧c<b
def fins (f:Bool):List Bs:=if f then [[]]else []
theorem mem_tails {c:UInt8}{l:List Bs}{x:Bs}:x∈tails c l↔c::x∈l:=by
 unfold tails;rw[List.mem_filterMap];constructor
 ·rintro⟨w,hw,e⟩;cases w with
  | nil=>cases e
  | cons b r=>
    simp only[tl1]at e;split at e
    ·rename_i h;subst h;cases e;exact hw
    ·cases e
 ·intro h;exact⟨_,h,by simp[tl1]⟩
theorem mem_ends {x:Bs}:∀{p:Bs} {l:List Bs},x∈ends l p↔p++x∈l
 | [],l=>Iff.rfl
 | c::p,l=>by
   show x∈ends (tails c l) p↔_;rw[mem_ends,mem_tails,List.cons_append]
theorem ends_nil:∀p:Bs,ends [] p=[]
 | []=>rfl
 | _::p=>ends_nil p
theorem ends_app:∀(l:List Bs) (p q:Bs),ends l (p++q)=ends (ends l p) q
 | _,[],_=>rfl
 | l,_::p,q=>ends_app (tails _ l) p q
theorem tails_map (c:UInt8)(M:List Bs):tails c (M.map (c:: ·))=M:=by
 unfold tails;rw[List.filterMap_map];have:(tl1 c∘fun x=>c::x)=some:=by funext x;simp[tl1]
 rw[this,List.filterMap_some]
theorem tails_map_ne {b c:UInt8}(h:c≠b)(M:List Bs):tails b (M.map (c:: ·))=[]:=by
 unfold tails;rw[List.filterMap_map,List.filterMap_eq_nil_iff];intro x _;simp[tl1,h]
theorem tails_above {c:UInt8}{L:List Bs}(h:Above c L):tails c L=[]:=by
 unfold tails;rw[List.filterMap_eq_nil_iff];intro x hx;obtain⟨b,r,rfl,hb⟩:=h x hx;simp only[tl1];rw[if_neg];intro e;subst e;exact absurd hb (UInt8.lt_irrefl _)
theorem tails_app (c:UInt8)(l m:List Bs):tails c (l++m)=tails c l++tails c m:=by
 unfold tails;rw[List.filterMap_append]
theorem tails_fins (c:UInt8)(f:Bool):tails c (fins f)=[]:=by cases f<;>rfl
theorem tails_one {c:UInt8}{M L:List Bs}(h:Above c L):tails c (M.map (c:: ·)++L)=M:=by
 rw[tails_app,tails_map,tails_above h,List.append_nil]
theorem tails_other {b c:UInt8}{M L:List Bs}(h:c≠b):tails b (M.map (c:: ·)++L)=tails b L:=by
 rw[tails_app,tails_map_ne h,List.nil_append]
theorem split_inj {c c':UInt8}{M M' L L':List Bs}(e:M.map (c:: ·)++L=M'.map (c':: ·)++L')(h:M≠[])(h':M'≠[])(ha:Above c L)(ha':Above c' L'):c=c'∧M=M'∧L=L':=by
 have hc:c=c':=by
  cases M with
  | nil=>exact absurd rfl h
  | cons x M=>
    cases M' with
    | nil=>exact absurd rfl h'
    | cons y M'=>
      simp only[List.map_cons,List.cons_append,List.cons.injEq]at e;exact e.1.1
 subst hc;have hM:M=M':=by rw[←tails_one (M:=M) ha,e,tails_one ha']
 subst hM;exact⟨rfl,rfl,List.append_cancel_left e⟩
theorem above_ne {c:UInt8}{L:List Bs}(h:Above c L):∀x∈L,x≠[]:=by
 intro x hx;obtain⟨b,r,rfl,_⟩:=h x hx;simp
structure GA where
 nodes:List (Bool×Nat)
 arcs:List (UInt8×Nat×Nat)
 N:List (List Bs)
 A:List (List Bs)
def GA.none:GA:=⟨[],[],[],[]⟩
structure GA.Ok (g:GA):Prop where
 nl:g.nodes.length=g.N.length
 al:g.arcs.length=g.A.length
 nd:g.N.Nodup
 ad:([] ::g.A).Nodup
 node:∀(s:Nat) f i,g.nodes[s]?=some (f,i)→∃L,([] ::g.A)[i]?=some L∧g.N[s]?=some (fins f++L)
 arc:∀(k:Nat) c t i,g.arcs[k]?=some (c,t,i)→∃M L,g.N[t]?=some M∧([] ::g.A)[i]?=some L∧g.A[k]?=some (M.map (c:: ·)++L)∧M≠[]∧Above c L∧i≤k
theorem GA.ok_none:GA.none.Ok:=by
 refine⟨rfl,rfl,List.nodup_nil,by simp[GA.none],?_,?_⟩
 ·intro s f i h;simp[GA.none]at h
 ·intro k c t i h;simp[GA.none]at h
theorem inj_at {α:Type}{l:List α}(h:l.Nodup){i j:Nat}{x:α}(hi:l[i]?=some x)(hj:l[j]?=some x):i=j:=
 (List.getElem?_inj (List.getElem?_eq_some_iff.1 hi).1 h).1 (hi.trans hj.symm)
theorem GA.Ok.ne {g:GA}(h:g.Ok){i:Nat}{L:List Bs}(hL:([] ::g.A)[i]?=some L):∀x∈L,x≠[]:=by
 cases i with
 | zero=>simp at hL;subst hL;intro x hx;cases hx
 | succ k=>
   rw[List.getElem?_cons_succ]at hL;have hk:k<g.arcs.length:=by rw[h.al];exact(List.getElem?_eq_some_iff.1 hL).1
   obtain⟨M,L',_,_,e,_,ha,_⟩:=h.arc k _ _ _ (show g.arcs[k]?=some ((g.arcs[k]).1,(g.arcs[k]).2.1,(g.arcs[k]).2.2)from List.getElem?_eq_getElem hk);rw[hL]at e;rw[Option.some.inj e];intro x hx;rcases List.mem_append.1 hx with hx|hx
   ·obtain⟨y,_,rfl⟩:=List.mem_map.1 hx;simp
   ·exact above_ne ha x hx
theorem fins_inj {f f':Bool}{L L':List Bs}(e:fins f++L=fins f'++L')(h:∀x∈L,x≠[])(h':∀x∈L',x≠[]):f=f'∧L=L':=by
 cases f<;>cases f'<;>simp only[fins,if_true,List.nil_append,List.cons_append,Bool.false_eq_true,if_false]at e
 ·exact⟨rfl,e⟩
 ·exfalso;subst e;exact h [] (List.mem_cons_self ..) rfl
 ·exfalso;subst e;exact h' [] (List.mem_cons_self ..) rfl
 ·exact⟨rfl,(List.cons.inj e).2⟩
theorem GA.Ok.node_new {g:GA}(h:g.Ok){f:Bool}{i:Nat}{L:List Bs}(hi:([] ::g.A)[i]?=some L)(hn:(f,i) ∉ g.nodes):fins f++L ∉ g.N:=by
 intro hm;obtain⟨s,hs⟩:=List.getElem?_of_mem hm;have hlt:s<g.nodes.length:=by rw[h.nl];exact(List.getElem?_eq_some_iff.1 hs).1
 have hg:g.nodes[s]?=some ((g.nodes[s]).1,(g.nodes[s]).2):=List.getElem?_eq_getElem hlt;obtain⟨L',h1,h2⟩:=h.node s _ _ hg;rw[hs]at h2;obtain⟨e1,e2⟩:=fins_inj (Option.some.inj h2) (h.ne hi) (h.ne h1);subst e2;have e3:=inj_at h.ad hi h1;apply hn;rw[e1,e3];exact List.mem_of_getElem? hg
theorem GA.Ok.arc_new {g:GA}(h:g.Ok){c:UInt8}{t i:Nat}{M L:List Bs}(ht:g.N[t]?=some M)(hi:([] ::g.A)[i]?=some L)(hM:M≠[])(ha:Above c L)(hn:(c,t,i) ∉ g.arcs):M.map (c:: ·)++L ∉ g.A:=by
 intro hm;obtain⟨s,hs⟩:=List.getElem?_of_mem hm;have hlt:s<g.arcs.length:=by rw[h.al];exact(List.getElem?_eq_some_iff.1 hs).1
 have hg:g.arcs[s]?=some ((g.arcs[s]).1,(g.arcs[s]).2.1,(g.arcs[s]).2.2):=List.getElem?_eq_getElem hlt;obtain⟨M',L',h1,h2,h3,h4,h5,_⟩:=h.arc s _ _ _ hg;rw[hs]at h3;obtain⟨e1,e2,e3⟩:=split_inj (Option.some.inj h3) hM h4 ha h5;subst e2 e3;have e4:=inj_at h.ad hi h2;have e5:=inj_at h.nd ht h1;apply hn;rw[e4,e5,e1];exact List.mem_of_getElem? hg
theorem map_ne {c:UInt8}{M L:List Bs}(h:M≠[]):M.map (c:: ·)++L≠[]:=by
 cases M with
 | nil=>exact absurd rfl h
 | cons x M=>simp
structure GA.Le (g g':GA):Prop where
 N:∀(s:Nat) L,g.N[s]?=some L→g'.N[s]?=some L
 A:∀(k:Nat) L,([] ::g.A)[k]?=some L→([] ::g'.A)[k]?=some L
theorem GA.Le.refl (g:GA):g.Le g:=⟨fun _ _ h=>h,fun _ _ h=>h⟩
theorem GA.Le.trans {g g' g'':GA}(h:g.Le g')(k:g'.Le g''):g.Le g'':=⟨fun s L e=>k.N s L (h.N s L e),fun s L e=>k.A s L (h.A s L e)⟩
theorem GA.Le.mem {g g':GA}(h:g.Le g'){L:List Bs}(hL:L∈g.N):L∈g'.N:=by
 obtain⟨s,hs⟩:=List.getElem?_of_mem hL;exact List.mem_of_getElem? (h.N s L hs)
theorem snoc_at {α:Type}{l:List α}{x y:α}{k:Nat}(h:l[k]?=some x):(l++[y])[k]?=some x:=by
 rw[List.getElem?_append_left (List.getElem?_eq_some_iff.1 h).1];exact h
theorem snoc_inv {α:Type}{l:List α}{x y:α}{k:Nat}(h:(l++[y])[k]?=some x):l[k]?=some x∨k=l.length∧x=y:=by
 rcases Nat.lt_trichotomy k l.length with hk|hk|hk
 ·rw[List.getElem?_append_left hk]at h;exact .inl h
 ·subst hk;simp at h;exact .inr ⟨rfl,h.symm⟩
 ·rw[List.getElem?_eq_none (by simp;omega)]at h;cases h
def GA.addNode (g:GA)(f:Bool)(i:Nat)(L:List Bs):GA:=⟨g.nodes++[(f,i)],g.arcs,g.N++[fins f++L],g.A⟩
def GA.addArc (g:GA)(c:UInt8)(t i:Nat)(M L:List Bs):GA:=⟨g.nodes,g.arcs++[(c,t,i)],g.N,g.A++[M.map (c:: ·)++L]⟩
theorem nodup_snoc {α:Type}{l:List α}{x:α}(h:l.Nodup)(hx:x ∉ l):(l++[x]).Nodup:=by
 rw[List.nodup_append];refine⟨h,by simp,?_⟩;intro a ha b hb e;simp at hb;subst hb e;exact hx ha
theorem GA.le_node (g:GA)(f:Bool)(i:Nat)(L:List Bs):g.Le (g.addNode f i L):=⟨fun _ _ h=>snoc_at h,fun _ _ h=>h⟩
theorem GA.le_arc (g:GA)(c:UInt8)(t i:Nat)(M L:List Bs):g.Le (g.addArc c t i M L):=
 ⟨fun _ _ h=>h,fun k L' h=>by show ([] ::(g.A++[_]))[k]?=_;rw[←List.cons_append];exact snoc_at h⟩
theorem GA.Ok.addNode {g:GA}(h:g.Ok){f:Bool}{i:Nat}{L:List Bs}(hi:([] ::g.A)[i]?=some L)(hn:(f,i) ∉ g.nodes):(g.addNode f i L).Ok:=by
 refine⟨by simp[GA.addNode,h.nl],h.al,nodup_snoc h.nd (h.node_new hi hn),h.ad,?_,?_⟩
 ·intro s f' i' hs;rcases snoc_inv hs with hs|⟨rfl,e⟩
  ·obtain⟨L',h1,h2⟩:=h.node s f' i' hs;exact⟨L',h1,snoc_at h2⟩
  ·cases e;exact⟨L,hi,by show (g.N++[_])[g.nodes.length]?=_;rw[h.nl];simp⟩
 ·intro k c t j hk;obtain⟨M,L',h1,h2,h3,h4⟩:=h.arc k c t j hk;exact⟨M,L',snoc_at h1,h2,h3,h4⟩
theorem GA.Ok.addArc {g:GA}(h:g.Ok){c:UInt8}{t i:Nat}{M L:List Bs}(ht:g.N[t]?=some M)(hi:([] ::g.A)[i]?=some L)(hM:M≠[])(ha:Above c L)(hn:(c,t,i) ∉ g.arcs):(g.addArc c t i M L).Ok:=by
 have hle:=g.le_arc c t i M L;refine⟨h.nl,by simp[GA.addArc,h.al],h.nd,?_,?_,?_⟩
 ·show ([] ::(g.A++[_])).Nodup;rw[←List.cons_append];refine nodup_snoc h.ad ?_;rw[List.mem_cons];rintro (e|e)
  ·exact map_ne hM e
  ·exact h.arc_new ht hi hM ha hn e
 ·intro s f' i' hs;obtain⟨L',h1,h2⟩:=h.node s f' i' hs;exact⟨L',hle.A _ _ h1,h2⟩
 ·intro k c' t' j hk;rcases snoc_inv hk with hk|⟨rfl,e⟩
  ·obtain⟨M',L',h1,h2,h3,h4⟩:=h.arc k c' t' j hk;exact⟨M',L',h1,hle.A _ _ h2,snoc_at h3,h4⟩
  ·cases e;refine⟨M,L,ht,hle.A _ _ hi,by show (g.A++[_])[g.arcs.length]?=_;rw[h.al];simp,hM,ha,?_⟩;have:=(List.getElem?_eq_some_iff.1 hi).1;rw[h.al];simp at this;omega
def SetS (W:List Bs)(L:List Bs):Prop:=L=W∨∃p,ends W p≠[]∧L=ends W p
def SetR (R:List Bs)(L:List Bs):Prop:=∃c p,ends R (c::p)≠[]∧L=ends R (c::p)
theorem setR_nil (L:List Bs):¬SetR [] L:=by
 rintro⟨c,p,h,_⟩;exact h (ends_nil _)
theorem setR_step {c:UInt8}{M R L:List Bs}(hM:M≠[])(ha:Above c R):SetR (M.map (c:: ·)++R) L↔SetS M L∨SetR R L:=by
 constructor
 ·rintro⟨b,p,h1,h2⟩;by_cases hb:c=b
  ·subst hb;change ends (tails c _) p≠[]at h1;change L=ends (tails c _) p at h2;rw[tails_one ha]at h1 h2;exact .inl (.inr ⟨p,h1,h2⟩)
  ·change ends (tails b _) p≠[]at h1;change L=ends (tails b _) p at h2;rw[tails_other hb]at h1 h2;exact .inr ⟨b,p,h1,h2⟩
 ·have key:∀p,ends (M.map (c:: ·)++R) (c::p)=ends M p:=fun p=>by
   show ends (tails c _) p=_;rw[tails_one ha]
  rintro ((rfl|⟨p,h1,h2⟩)|⟨b,p,h1,h2⟩)
  ·exact⟨c,[],by rw[key];exact hM,(key []).symm⟩
  ·exact⟨c,p,by rw[key];exact h1,by rw[key];exact h2⟩
  ·have hb:c≠b:=by
    rintro rfl;apply h1;show ends (tails c R) p=[];rw[tails_above ha,ends_nil]
   have e:ends (M.map (c:: ·)++R) (b::p)=ends R (b::p):=by
    show ends (tails b _) p=ends (tails b R) p;rw[tails_other hb]
   exact⟨b,p,by rw[e];exact h1,by rw[e];exact h2⟩
theorem setS_fins {f:Bool}{R L:List Bs}:SetS (fins f++R) L↔L=fins f++R∨SetR R L:=by
 have key:∀c p,ends (fins f++R) (c::p)=ends R (c::p):=fun c p=>by
  show ends (tails c _) p=ends (tails c R) p;rw[tails_app,tails_fins,List.nil_append]
 constructor
 ·rintro (h|⟨p,h1,h2⟩)
  ·exact .inl h
  ·cases p with
   | nil=>exact .inl h2
   | cons c p=>rw[key]at h1 h2;exact .inr ⟨c,p,h1,h2⟩
 ·rintro (h|⟨c,p,h1,h2⟩)
  ·exact .inl h
  ·exact .inr ⟨c::p,by rw[key];exact h1,by rw[key];exact h2⟩
structure Made (g g':GA)(S:List Bs→Prop):Prop where
 only:∀L∈g'.N,L∈g.N∨S L
 all:∀L,S L→L∈g'.N
theorem Made.start (g:GA):Made g g (SetR []):=⟨fun _ h=> .inl h,fun L h=>absurd h (setR_nil L)⟩
theorem Made.step {g g1 g2:GA}{c:UInt8}{M R:List Bs}(h1:Made g g1 (SetR R))(h2:Made g1 g2 (SetS M))(hle:g1.Le g2)(hM:M≠[])(ha:Above c R):Made g g2 (SetR (M.map (c:: ·)++R)):=by
 refine⟨fun L hL=>?_,fun L hL=>?_⟩
 ·rw[setR_step hM ha];rcases h2.only L hL with h|h
  ·rcases h1.only L h with h|h
   ·exact .inl h
   ·exact .inr (.inr h)
  ·exact .inr (.inl h)
 ·rcases (setR_step hM ha).1 hL with h|h
  ·exact h2.all L h
  ·exact hle.mem (h1.all L h)
theorem Made.end_ {g g1 g2:GA}{f:Bool}{R:List Bs}(h1:Made g g1 (SetR R))(hle:g1.Le g2)(h2:∀L∈g2.N,L∈g1.N∨L=fins f++R)(h3:fins f++R∈g2.N):Made g g2 (SetS (fins f++R)):=by
 refine⟨fun L hL=>?_,fun L hL=>?_⟩
 ·rw[setS_fins];rcases h2 L hL with h|h
  ·rcases h1.only L h with h|h
   ·exact .inl h
   ·exact .inr (.inr h)
  ·exact .inr (.inl h)
 ·rcases setS_fins.1 hL with h|h
  ·rw[h];exact h3
  ·exact hle.mem (h1.all L h)
theorem Made.arcs {g g1 g2:GA}{S:List Bs→Prop}(h:Made g g1 S)(e:g2.N=g1.N):Made g g2 S:=⟨by rw[e];exact h.only,by rw[e];exact h.all⟩
def chainF (arcs:List (UInt8×Nat×Nat)):Nat→Nat→List (UInt8×Nat×Nat)
 | 0,_=>[]
 | _+1,0=>[]
 | fuel+1,i+1=>match arcs[i]? with
   | some (c,t,n)=>(c,t,n)::chainF arcs fuel n
   | none=>[]
def GA.chain (g:GA)(i:Nat):List (UInt8×Nat×Nat):=chainF g.arcs (i+1) i
theorem chainF_more (g:GA)(h:g.Ok):∀(f i:Nat),i<f→chainF g.arcs f i=chainF g.arcs (i+1) i
 | 0,_,hf=>by omega
 | f+1,0,_=>rfl
 | f+1,i+1,hf=>by
   show (match g.arcs[i]? with|some (c,t,n)=>(c,t,n)::chainF g.arcs f n|none=>[])=(match g.arcs[i]? with|some (c,t,n)=>(c,t,n)::chainF g.arcs (i+1) n|none=>[]);cases e:g.arcs[i]? with
   | none=>rfl
   | some x=>
     obtain⟨c,t,n⟩:=x;obtain⟨_,_,_,_,_,_,_,hn⟩:=h.arc i c t n e;dsimp only;rw[chainF_more g h f n (by omega),chainF_more g h (i+1) n (by omega)]
theorem chain_zero (g:GA):g.chain 0=[]:=rfl
theorem chain_succ {g:GA}(h:g.Ok){i:Nat}{c:UInt8}{t n:Nat}(e:g.arcs[i]?=some (c,t,n)):g.chain (i+1)=(c,t,n)::g.chain n:=by
 obtain⟨_,_,_,_,_,_,_,hn⟩:=h.arc i c t n e;show (match g.arcs[i]? with|some (c,t,n)=>(c,t,n)::chainF g.arcs (i+1) n|none=>[])=_;rw[e];dsimp only;rw[chainF_more g h (i+1) n (by omega)];rfl
def leads (N:List (List Bs))(l:List (UInt8×Nat×Nat)):List Bs:=l.flatMap fun x=>(N.getD x.2.1 []).map (x.1:: ·)
structure ChainOk (N:List (List Bs))(l:List (UInt8×Nat×Nat)):Prop where
 rise:l.Pairwise (fun x y=>x.1<y.1)
 there:∀x∈l,∃M,N[x.2.1]?=some M∧M≠[]
theorem chain_ok {g:GA}(h:g.Ok):∀(i:Nat) (L:List Bs),([] ::g.A)[i]?=some L→L=leads g.N (g.chain i)∧ChainOk g.N (g.chain i):=by
 intro i
 induction i using Nat.strongRecOn with
 | ind i ih=>
   intro L hL;cases i with
   | zero=>
     simp at hL;subst hL;exact⟨rfl,List.Pairwise.nil,fun x hx=>by cases hx⟩
   | succ k=>
     rw[List.getElem?_cons_succ]at hL;have hk:k<g.arcs.length:=by rw[h.al];exact(List.getElem?_eq_some_iff.1 hL).1
     obtain⟨⟨c,t,n⟩,hg⟩:∃x,g.arcs[k]?=some x:=⟨_,List.getElem?_eq_getElem hk⟩;obtain⟨M,L',h1,h2,h3,h4,h5,h6⟩:=h.arc k c t n hg;rw[hL]at h3;obtain⟨e1,e2,e3⟩:=ih n (by omega) L' h2;rw[chain_succ h hg];refine⟨?_,List.pairwise_cons.2 ⟨?_,e2⟩,?_⟩
     ·rw[Option.some.inj h3];show _=(g.N.getD t []).map (c:: ·)++leads g.N (g.chain n);rw[←e1,List.getD_eq_getElem?_getD,h1];rfl
     ·intro y hy;obtain⟨M',k1,k2⟩:=e3 y hy;obtain⟨z,hz⟩:=List.exists_mem_of_ne_nil M' k2;have hmem:y.1::z∈L':=by
       rw[e1];refine List.mem_flatMap.2 ⟨y,hy,?_⟩;rw[List.getD_eq_getElem?_getD,k1];exact List.mem_map.2 ⟨z,hz,rfl⟩
      obtain⟨b,r,e,hb⟩:=h5 _ hmem;cases e;exact hb
     ·intro y hy;rcases List.mem_cons.1 hy with rfl|hy
      ·exact⟨M,h1,h4⟩
      ·exact e3 y hy
theorem leads_above {N:List (List Bs)}{c:UInt8}{l:List (UInt8×Nat×Nat)}(h:∀x∈l,c<x.1):Above c (leads N l):=by
 intro y hy;obtain⟨x,hx,hy⟩:=List.mem_flatMap.1 hy;obtain⟨z,_,rfl⟩:=List.mem_map.1 hy;exact⟨_,_,rfl,h x hx⟩
def goes (l:List (UInt8×Nat×Nat))(c:UInt8):Option Nat:=(l.find? fun x=>decide (x.1=c)).map fun x=>x.2.1
theorem goes_ok {N:List (List Bs)}:∀{l:List (UInt8×Nat×Nat)},ChainOk N l→∀c,match goes l c with
  | some t=>N[t]?=some (tails c (leads N l))∧tails c (leads N l)≠[]
  | none=>tails c (leads N l)=[]
 | [],_,c=>rfl
 | x::l,h,c=>by
   obtain⟨h1,h2⟩:=List.pairwise_cons.1 h.rise;have hl:ChainOk N l:=⟨h2,fun y hy=>h.there y (List.mem_cons_of_mem _ hy)⟩;obtain⟨M,k1,k2⟩:=h.there x (List.mem_cons_self ..);have e:leads N (x::l)=M.map (x.1:: ·)++leads N l:=by
    show (N.getD x.2.1 []).map _++_=_;rw[List.getD_eq_getElem?_getD,k1];rfl
   rw[e];by_cases hc:x.1=c
   ·subst hc;have:goes (x::l) x.1=some x.2.1:=by simp[goes]
    rw[this];dsimp only;rw[tails_one (leads_above h1)];exact⟨k1,k2⟩
   ·have:goes (x::l) c=goes l c:=by simp[goes,hc]
    rw[this,tails_other hc];exact goes_ok hl c
def wt (W:List Bs):Nat:=(W.map List.length).sum
theorem wt_app (V W:List Bs):wt (V++W)=wt V+wt W:=by simp[wt]
theorem wt_map (c:UInt8):∀M:List Bs,wt (M.map (c:: ·))=wt M+M.length
 | []=>rfl
 | x::M=>by
   have:=wt_map c M;simp only[wt,List.map_cons,List.sum_cons,List.length_cons]at this⊢;omega
theorem wt_fins (f:Bool):wt (fins f)=0:=by cases f<;>rfl
end Go.Proofs.YtfehpcbmdancoaaGreatDoor.Dw
namespace Go.Proofs.YtfehpcbmdancoaaGreatDoor.Dw
open Go Go.RowKit Go.Lib
theorem cell_old {w w':World}{p:Addr}(hb:Below w.heap.size w w')(hp:p.block<w.heap.size):w'.cell? p=w.cell? p:=by
 unfold World.cell?;rw[hb.block p.block hp]
theorem news_row (w:World)(cs:Array Value)(t:TypeId):∀j u,cs.toList[j]?=some u→(w.alloc (.cells cs t)).cell? ((⟨w.heap.size,0,none⟩:Addr).add j)=some u:=by
 intro j u hu;have hadd:(⟨w.heap.size,0,none⟩:Addr).add j=⟨w.heap.size,j,none⟩:=by unfold Addr.add;split<;>simp_all
 rw[hadd,cell_of_row _ w.heap.size j cs t (0,0) (World.alloc_heap_new w _)];simpa using hu
theorem add9 (g j:Nat):(⟨g,0,none⟩:Addr).add j=⟨g,j,none⟩:=by unfold Addr.add;split<;>simp_all
theorem own_open9 {w:World}{B e size n:Nat}{v:Value}{xs:List Value}(h:w.ownsRow B e size v n xs)(hn:0<n):
  ∃g cap,v= .slice (some ⟨g,0,none⟩) n cap∧g<w.heap.size∧n≤cap∧cap≤maxLen∧∀j u,xs[j]?=some u→w.cell? ⟨g,j,none⟩=some u:=by
 have hc:= @World.ownsRow.cells _ _ _ _ _ _ _ h;rcases h.2 with ⟨_,rfl⟩|⟨g,cap,cur,rfl,hb,hg,hnc,hcm,_⟩
 ·omega
 ·refine⟨g,cap,rfl,(Array.getElem?_eq_some_iff.1 hg).1,hnc,hcm,fun j u hu=>?_⟩;have hadd:(⟨g,0,none⟩:Addr).add j=⟨g,j,none⟩:=by unfold Addr.add;split<;>simp_all
  rw[←hadd];exact hc (g:=g) rfl j u hu
theorem own_keep9 {w w':World}{B:Nat}{e:TypeId}{size n:Nat}{v:Value}{xs:List Value}(h:w.ownsRow B e size v n xs)(hb:Below w.heap.size w w'):w'.ownsRow B e size v n xs:=by
 refine⟨h.1,?_⟩;rcases h.2 with h|⟨g,cap,cur,h1,h2,h3,h4⟩
 ·exact .inl h
 ·exact .inr ⟨g,cap,cur,h1,h2,(hb.block g (Array.getElem?_eq_some_iff.1 h3).1).trans h3,h4⟩
def StrsAt (w:World)(v:Value)(l:List ByteArray):Prop:=
 (l=[]∧∃a cap,v= .slice a 0 cap)∨∃b off cap,v= .slice (some ⟨b,off,none⟩) l.length cap∧b<w.heap.size∧l.length≤cap∧cap≤maxLen∧∀(i:Nat) s,l[i]?=some s→w.cell? ⟨b,off+i,none⟩=some (.string s)
theorem StrsAt.keep {w w':World}{v:Value}{l:List ByteArray}(h:StrsAt w v l)(hb:Below w.heap.size w w'):StrsAt w' v l:=by
 rcases h with h|⟨b,off,cap,rfl,h1,h2,h3,h4⟩
 ·exact .inl h
 ·exact .inr ⟨b,off,cap,rfl,Nat.lt_of_lt_of_le h1 hb.size,h2,h3,fun i c hc=>(cell_old (p:=⟨b,off+i,none⟩) hb h1).trans (h4 i c hc)⟩
theorem strs_form {w:World}{v:Value}{l:List ByteArray}(h:StrsAt w v l):∃A cap,v= .slice A l.length cap:=by
 rcases h with ⟨rfl,a,c,e⟩|⟨b,off,c,e,_⟩
 ·exact⟨a,c,e⟩
 ·exact⟨_,c,e⟩
theorem strs_open {w:World}{A:Option Addr}{n cap:Nat}{l:List ByteArray}(h:StrsAt w (.slice A n cap) l):∀(k:Nat) s,l[k]?=some s→∃b off,A=some ⟨b,off,none⟩∧b<w.heap.size∧n≤cap∧w.cell? ⟨b,off+k,none⟩=some (.string s):=by
 intro k e hk;rcases h with ⟨rfl,_⟩|⟨b,off,c,e',h1,h2,h3,h4⟩
 ·simp at hk
 ·injection e' with e1 e2 e3;subst e1 e2 e3;exact⟨b,off,rfl,h1,h2,h4 k e hk⟩
theorem strs_own {w:World}{B n:Nat}{v:Value}{l:List ByteArray}(h:w.ownsRow B 9 1 v n (l.map Value.string))(hn:n=l.length):StrsAt w v l:=by
 subst hn;have hc:= @World.ownsRow.cells _ _ _ _ _ _ _ h;rcases h.2 with ⟨rfl,h0⟩|⟨g,cap,cur,rfl,hb,hg,hnc,hcm,_⟩
 ·exact .inl ⟨List.eq_nil_of_length_eq_zero h0,_,_,rfl⟩
 ·refine .inr ⟨g,0,cap,rfl,(Array.getElem?_eq_some_iff.1 hg).1,hnc,hcm,fun i c hi=>?_⟩;rw[Nat.zero_add,←add9];exact hc (g:=g) rfl i _ (by rw[List.getElem?_map,hi];rfl)
theorem strs_bd {w:World}{v:Value}{l:List ByteArray}(h:StrsAt w v l):l.length≤9223372036854775807:=by
 rcases h with ⟨e,_⟩|⟨b,off,cap,e,h1,h2,h3,h4⟩
 ·rw[e];simp
 ·unfold maxLen at h3;omega
def IntsAt (w:World)(v:Value)(cs:List Int):Prop:=
 (cs=[]∧∃a cap,v= .slice a 0 cap)∨∃b off cap,v= .slice (some ⟨b,off,none⟩) cs.length cap∧b<w.heap.size∧cs.length≤cap∧cap≤maxLen∧∀(i:Nat) c,cs[i]?=some c→w.cell? ⟨b,off+i,none⟩=some (.int .i64 c)
theorem ints_open {w:World}{v:Value}{cs:List Int}(h:IntsAt w v cs):∃A cap,v= .slice A cs.length cap∧∀(i:Nat) c,cs[i]?=some c→∃q o,A=some ⟨q,o,none⟩∧q<w.heap.size∧cs.length≤cap∧w.cell? ⟨q,o+i,none⟩=some (.int .i64 c):=by
 obtain⟨rfl,a,cap,rfl⟩|⟨b,off,cap,rfl,hlt,hcap,hm,hc⟩:=h
 ·exact⟨a,cap,rfl,fun i c hi=>by simp at hi⟩
 ·exact⟨_,cap,rfl,fun i c hi=>⟨b,off,rfl,hlt,hcap,hc i c hi⟩⟩
end Go.Proofs.YtfehpcbmdancoaaGreatDoor.Dw
namespace Go.Proofs.YtfehpcbmdancoaaGreatDoor.Dw
open Go Go.RowKit Go.Lib Go.Maps
theorem laid15:laidOutB Tryz.prog=true:=by kernel_rfl
theorem node_row:(144:TypeId)<Tryz.prog.types.size:=by
 have h:Nat.ble (144+1) Tryz.prog.types.size=true:=by kernel_rfl
 exact Nat.le_of_ble_eq_true h
theorem arc_row:(149:TypeId)<Tryz.prog.types.size:=by
 have h:Nat.ble (149+1) Tryz.prog.types.size=true:=by kernel_rfl
 exact Nat.le_of_ble_eq_true h
theorem node_wide:(match Tryz.prog.underlying 144 with|some (.array _ _)|some (.struct _)=>true|_=>false)=true:=by kernel_rfl
theorem arc_wide:(match Tryz.prog.underlying 149 with|some (.array _ _)|some (.struct _)=>true|_=>false)=true:=by kernel_rfl
theorem node_at:Tryz.prog.keyTypeAt 2 144=true:=by kernel_rfl
theorem arc_at:Tryz.prog.keyTypeAt 2 149=true:=by kernel_rfl
theorem three_le:2+1≤10000:=Nat.le_of_ble_eq_true rfl
theorem keyed_node:Keyed Tryz.prog 144:=Keyed.of_law (deep_law_laid laid15 (m:=2) three_le node_row node_at node_wide)
theorem keyed_arc:Keyed Tryz.prog 149:=Keyed.of_law (deep_law_laid laid15 (m:=2) three_le arc_row arc_at arc_wide)
theorem node_cells:Tryz.prog.cellsOf 144=2:=by kernel_rfl
theorem arc_cells:Tryz.prog.cellsOf 149=3:=by kernel_rfl
theorem node_key:Tryz.prog.keyType 144=true:=by kernel_rfl
theorem arc_key:Tryz.prog.keyType 149=true:=by kernel_rfl
theorem bool_cells:Tryz.prog.cellsOf 4=1:=by kernel_rfl
theorem i32_cells:Tryz.prog.cellsOf 21=1:=by kernel_rfl
theorem u8_cells:Tryz.prog.cellsOf 5=1:=by kernel_rfl
theorem types_pos:∃m,Tryz.prog.types.size=m+1:=by
 have h:1≤Tryz.prog.types.size:=Nat.le_trans (Nat.le_add_left 1 _) node_row;exact⟨Tryz.prog.types.size-1,(Nat.sub_add_cancel h).symm⟩
def nodeC (x:Bool×Nat):List Value:=[.bool x.1,.int .i32 ((x.2:Int)-1)]
def arcC (x:UInt8×Nat×Nat):List Value:=[.int .u8 x.1.toNat,.int .i32 x.2.1,.int .i32 ((x.2.2:Int)-1)]
def nodeFit (x:Bool×Nat):Prop:=x.2≤2000000000
def arcFit (x:UInt8×Nat×Nat):Prop:=x.2.1≤2000000000∧x.2.2≤2000000000
def nodeK (x:Bool×Nat):Lit:= .string (keyBytes [.bool x.1,.int .i32 ((x.2:Int)-1)])
def arcK (x:UInt8×Nat×Nat):Lit:= .string (keyBytes [.int .u8 x.1.toNat,.int .i32 x.2.1,.int .i32 ((x.2.2:Int)-1)])
theorem wf32 {i:Int}(h: -1≤i∧i≤2000000000):(Lit.int .i32 i).wf=true:=by
 simp[Lit.wf,IntKind.min,IntKind.max,IntKind.signed,IntKind.bits];omega
theorem wf8 (c:UInt8):(Lit.int .u8 c.toNat).wf=true:=by
 have:=c.toNat_lt;simp[Lit.wf,IntKind.min,IntKind.max,IntKind.signed,IntKind.bits];omega
theorem key_node (x:Bool×Nat)(hx:nodeFit x):keyOf Tryz.prog 144 (.agg (nodeC x).toArray)=some (nodeK x):=by
 obtain⟨m,hm⟩:=types_pos;have h1:=wf32 (i:=(x.2:Int)-1) (by unfold nodeFit at hx;omega);unfold keyOf nodeC nodeK;rw[Tryz.underlying144];simp only[node_key,Value.formed,Tryz.underlying144,node_cells,hm,Value.cells];simp[Program.keyLits,Tryz.underlying144,Tryz.underlying4,Tryz.underlying21,node_cells,bool_cells,i32_cells,h1]
theorem key_arc (x:UInt8×Nat×Nat)(hx:arcFit x):keyOf Tryz.prog 149 (.agg (arcC x).toArray)=some (arcK x):=by
 obtain⟨m,hm⟩:=types_pos;have h1:=wf32 (i:=(x.2.2:Int)-1) (by unfold arcFit at hx;omega);have h2:=wf32 (i:=(x.2.1:Int)) (by unfold arcFit at hx;omega);have h3:=wf8 x.1;unfold keyOf arcC arcK;rw[Tryz.underlying149];simp only[arc_key,Value.formed,Tryz.underlying149,arc_cells,hm,Value.cells];simp[Program.keyLits,Tryz.underlying149,Tryz.underlying5,Tryz.underlying21,arc_cells,u8_cells,i32_cells,h1,h2,h3]
theorem node_wf {x:Bool×Nat}(hx:x.2≤2000000000):∀a∈[Lit.bool x.1,.int .i32 ((x.2:Int)-1)],a.keyWf:=by
 simp only[List.mem_cons,List.not_mem_nil,or_false];rintro a (rfl|rfl)
 ·trivial
 ·exact wf32 (by omega)
theorem arc_wf {x:UInt8×Nat×Nat}(hx:x.2.1≤2000000000∧x.2.2≤2000000000):∀a∈[Lit.int .u8 x.1.toNat,.int .i32 x.2.1,.int .i32 ((x.2.2:Int)-1)],a.keyWf:=by
 simp only[List.mem_cons,List.not_mem_nil,or_false];rintro a (rfl|rfl|rfl)
 ·exact wf8 _
 ·exact wf32 (by omega)
 ·exact wf32 (by omega)
theorem nodeK_inj {x y:Bool×Nat}(hx:nodeFit x)(hy:nodeFit y)(e:nodeK x=nodeK y):x=y:=by
 unfold nodeFit at hx hy;have h:=keyBytes_inj (l:=[.bool x.1,.int .i32 ((x.2:Int)-1)]) (l':=[.bool y.1,.int .i32 ((y.2:Int)-1)]) ⟨trivial,rfl,trivial⟩
  (node_wf hx) (node_wf hy) (by injection e)
 obtain⟨a,b⟩:=x;obtain⟨c,d⟩:=y;simp only[List.cons.injEq,Lit.bool.injEq,Lit.int.injEq,true_and,and_true]at h;obtain⟨rfl,h⟩:=h;obtain rfl:b=d:=by omega
 rfl
theorem arcK_inj {x y:UInt8×Nat×Nat}(hx:arcFit x)(hy:arcFit y)(e:arcK x=arcK y):x=y:=by
 unfold arcFit at hx hy;have h:=keyBytes_inj (l:=[.int .u8 x.1.toNat,.int .i32 x.2.1,.int .i32 ((x.2.2:Int)-1)]) (l':=[.int .u8 y.1.toNat,.int .i32 y.2.1,.int .i32 ((y.2.2:Int)-1)]) ⟨rfl,rfl,rfl,trivial⟩
  (arc_wf hx) (arc_wf hy) (by injection e)
 obtain⟨a,b,b'⟩:=x;obtain⟨c,d,d'⟩:=y;simp only[List.cons.injEq,Lit.int.injEq,true_and,and_true]at h;obtain⟨h0,h1,h2⟩:=h;obtain rfl:a=c:=UInt8.toNat_inj.1 (by omega);obtain rfl:b=d:=by omega
 obtain rfl:b'=d':=by omega
 rfl
theorem zero_i32 (w:World):(zeroValue 21).run Tryz.prog w= .ok (.int .i32 0) w:=by kernel_rfl
structure Kind (α:Type) where
 t:TypeId
 mt:TypeId
 val:α→Value
 key:α→Lit
 fit:α→Prop
 keyed:Keyed Tryz.prog t
 under:Tryz.prog.underlying mt=some (.map t 21)
 law:∀x,fit x→keyOf Tryz.prog t (val x)=some (key x)
 inj:∀{x y},fit x→fit y→key x=key y→x=y
 lit:∀x,WideAt.IsKeyLit (key x)
structure Know {α:Type}(K:Kind α)(w:World)(b k:Nat)(f:α→Option Nat):Prop where
 own:∃D:DataW Unit,w.ownsMap Tryz.prog K.t (plainElem Tryz.prog 21) b k D∧∀x,K.fit x→Maps.has D (K.key x)=(f x).isSome∧∀d,f x=some d→D.atKey (K.key x) (.lit (.int .i32 0))= .lit (.int .i32 d)
variable {α : Type} {K : Kind α} {w w' : World} {b k : Nat} {f : α → Option Nat}
theorem Know.lt (h:Know K w b k f):b<w.heap.size:=by
 obtain⟨D,h1,_⟩:=h.own;exact h1.lt
theorem Know.same (h:Know K w b k f)(hb:w'.heap[b]?=w.heap[b]?):Know K w' b k f:=by
 obtain⟨D,⟨es,clock,h1,h2⟩,h3⟩:=h.own;exact⟨D,⟨es,clock,hb.trans h1,h2⟩,h3⟩
theorem Know.made (hb:w.heap[b]?=some (.map #[] 0)):Know K w b 0 (fun _=>none):=by
 refine⟨.map [],?_,fun c _=>⟨by simp[Maps.has],fun d h=>by cases h⟩⟩;have:=World.ownsMap_made (H:=Unit) w Tryz.prog K.t (plainElem Tryz.prog 21);obtain⟨es,clock,h1,h2⟩:=this;have h3:=(World.alloc_heap_new w (.map #[] 0)).symm.trans h1;exact⟨es,clock,hb.trans h3,h2⟩
theorem Know.put [DecidableEq α](h:Know K w b k f){c:α}{d:Nat}(hc:K.fit c)(hd:d≤2000000000)(hk:k<maxLen):
  ∃w',(Instr.mapUpdate K.mt (.map (some b)) (K.val c) (.int .i32 d)).run Tryz.prog w= .ok () w'∧Know K w' b (k+1) (fun x=>if x=c then some d else f x)∧w.grownBy w' (some b):=by
 obtain⟨D,h1,h2⟩:=h.own;obtain⟨w',hr,ho,hg⟩:=h1.update K.keyed K.under hk (K.law c hc) (plainElem_int Tryz.underlying21 (wf32 (i:=d) (by omega)));refine⟨w',hr,⟨_,ho,fun x hx=>?_⟩,hg⟩;by_cases e:x=c
 ·subst e;simp only[if_true];refine⟨has_put_same h1.isMap (K.lit _) _,fun y hy=>?_⟩;rw[atKey_put_same h1.isMap (K.lit _)];cases hy;rfl
 ·have hne:K.key x≠K.key c:=fun hh=>e (K.inj hx hc hh);simp only[if_neg e];rw[has_put_other hne];exact⟨(h2 x hx).1,fun y hy=>by rw[atKey_put_other hne];exact(h2 x hx).2 y hy⟩
theorem Know.look (h:Know K w b k f){c:α}(hc:K.fit c):
  ∃x,(Instr.lookup K.mt (.map (some b)) (K.val c) true).run Tryz.prog w= .ok (.tuple #[.int .i32 x,.bool (f c).isSome]) w∧∀d:Nat,f c=some d→x=d:=by
 obtain⟨D,h1,h2⟩:=h.own;obtain⟨v,ps,hr,hv⟩:=h1.look_ok K.keyed K.under (zero_i32 w) (plainElem_int Tryz.underlying21 (by decide)) (K.law c hc);obtain⟨x,rfl,hx,_⟩:=plainElem_int_inv Tryz.underlying21 hv;refine⟨x,by rw[hr,(h2 c hc).1],fun d hd=>?_⟩;have:=(h2 c hc).2 d hd;rw[this]at hx;simp at hx;exact hx.1.symm
def kNode:Kind (Bool×Nat):=⟨144,179,fun x=> .agg (nodeC x).toArray,nodeK,nodeFit,keyed_node,Tryz.underlying179,key_node,nodeK_inj,fun _=>trivial⟩
def kArc:Kind (UInt8×Nat×Nat):=⟨149,180,fun x=> .agg (arcC x).toArray,arcK,arcFit,keyed_arc,Tryz.underlying180,key_arc,arcK_inj,fun _=>trivial⟩
end Go.Proofs.YtfehpcbmdancoaaGreatDoor.Dw
namespace Go.Proofs.YtfehpcbmdancoaaGreatDoor.Dw
open Go Go.RowKit Go.Lib Go.Maps
theorem only1 (w:World)(p:Addr)(v:Value):OnlyAt (fun z=>z=p.block) w (w.setCell p v):=OnlyAt.setCell w p v rfl
theorem new_cell (w:World)(cs:Array Value)(t:TypeId)(i:Nat):(w.alloc (.cells cs t)).cell? ⟨w.heap.size,i,none⟩=cs[i]?:=by
 unfold World.cell?;dsimp only;rw[World.alloc_heap_new];rfl
theorem heap_set {w:World}{b o:Nat}{cs:Array Value}{t:TypeId}{f:Nat×Nat}(h:w.heap[b]?=some (.cells cs t f))(v:Value):(w.setCell ⟨b,o,none⟩ v).heap[b]?=some (.cells (cs.setIfInBounds o v) t f):=by
 unfold World.setCell;simp[Array.getElem?_modify,h]
theorem row_ne {w:World}{B e e' size n b:Nat}{v:Value}{xs:List Value}{cs:Array Value}{fr:Nat×Nat}(h:w.ownsRow B e size v n xs)(hb:w.heap[b]?=some (.cells cs e' fr))(hne:e≠e'):v.ownBlock≠some b:=by
 rcases h.2 with ⟨rfl,_⟩|⟨g,cap,cur,rfl,_,hg,_⟩
 ·simp[Value.ownBlock]
 ·simp only[Value.ownBlock,ne_eq,Option.some.injEq];rintro rfl;rw[hg]at hb;simp only[Option.some.injEq,Obj.cells.injEq]at hb;exact hne hb.2.1
theorem row_neM {H:Type}{w:World}{B e size n b k:Nat}{P:Program}{t:TypeId}{R:Value→Option (DataW H×List MemPlace)}{D:DataW H}{v:Value}{xs:List Value}(h:w.ownsRow B e size v n xs)(hb:w.ownsMap P t R b k D):v.ownBlock≠some b:=by
 obtain⟨es,clock,h1,_⟩:=hb;rcases h.2 with ⟨rfl,_⟩|⟨g,cap,cur,rfl,_,hg,_⟩
 ·simp[Value.ownBlock]
 ·simp only[Value.ownBlock,ne_eq,Option.some.injEq];rintro rfl;rw[hg]at h1;cases h1
theorem box_neM {H:Type}{w:World}{b b' k:Nat}{P:Program}{t e:TypeId}{R:Value→Option (DataW H×List MemPlace)}{D:DataW H}{cs:Array Value}{fr:Nat×Nat}(h:w.heap[b]?=some (.cells cs e fr))(hb:w.ownsMap P t R b' k D):b≠b':=by
 obtain⟨es,clock,h1,_⟩:=hb;rintro rfl;rw[h]at h1;cases h1
theorem row_shape {w:World}{B e size n:Nat}{v:Value}{xs:List Value}(hr:w.ownsRow B e size v n xs):∃A cap,v= .slice A n cap:=by
 rcases hr.2 with ⟨rfl,rfl⟩|⟨g,cap,cur,h1,-⟩
 ·exact⟨_,_,rfl⟩
 ·exact⟨_,_,h1⟩
theorem row_frame {w w':World}{B e size n:Nat}{v:Value}{xs:List Value}(h:w.ownsRow B e size v n xs)(hb:∀g,v.ownBlock=some g→w'.heap[g]?=w.heap[g]?):w'.ownsRow B e size v n xs:=by
 refine⟨h.1,?_⟩;rcases h.2 with h|⟨g,cap,cur,rfl,h2,h3,h4⟩
 ·exact .inl h
 ·exact .inr ⟨g,cap,cur,rfl,h2,(hb g rfl).trans h3,h4⟩
theorem Tryz.infosI144:(Tryz.prog.info? 144).map (fun i=>(i.zero,i.size,i.bytes))=some (some (.agg #[.bool false,.int .i32 0]),2,8):=by kernel_rfl
theorem numn_old {w:World}{pa ms k d:Nat}{f:Bool×Nat→Option Nat}(hK:Know kNode w ms k f)(x:Bool×Nat)(hx:nodeFit x)(hd:f x=some d):
  Calls Tryz.prog 179 #[.map (some ms),.pointer (some ⟨pa,0,none⟩),.agg #[.bool x.1,.int .i32 ((x.2:Int)-1)]] w fun e w'=>e= .returned (.int .i32 d)∧Below w.heap.size w w':=by
 have h1:Know kNode (w.alloc (.cells #[.bool x.1,.int .i32 ((x.2:Int)-1)] 144)) ms k f:=hK.same (Below.heap_alloc _ _ _ hK.lt);obtain⟨y,hl,hy⟩:=h1.look hx;obtain rfl:=hy d hd;rw[hd]at hl;dsimp only[Option.isSome,kNode,nodeC]at hl;clear hK h1 hy hd hx;go_enter Tryz.func179,Tryz.ntmps179;go_wp2;go_ret;exact⟨rfl,(Below.refl _ _).alloc (Nat.le_refl _) _⟩
theorem numn_new {w:World}{pa ms k n cap:Nat}{A:Option Addr}{x1 x2:Value}{xs:List Value}{f:Bool×Nat→Option Nat}(hbox:w.heap[pa]?=some (.cells #[.slice A n cap,x1,x2] 84 (0,0)))
  (hown:w.ownsRow 0 144 2 (.slice A n cap) n xs) (hn:n≤1900000000) (hK:Know kNode w ms k f) (hk:k≤1900000000) (x:Bool×Nat) (hx:nodeFit x) (hf:f x=none):
  Calls Tryz.prog 179 #[.map (some ms),.pointer (some ⟨pa,0,none⟩),.agg #[.bool x.1,.int .i32 ((x.2:Int)-1)]] w fun e w'=>e= .returned (.int .i32 n)∧∃g cap',
   OnlyAt (fun z=>z=pa∨z=ms∨(Value.slice A n cap).ownBlock=some z) w w'∧((Value.slice A n cap).ownBlock=some g∨w.heap.size≤g)∧
   w'.heap[pa]?=some (.cells #[.slice (some ⟨g,0,none⟩) (n+1) cap',x1,x2] 84 (0,0))∧w'.ownsRow 0 144 2 (.slice (some ⟨g,0,none⟩) (n+1) cap') (n+1) (xs++nodeC x)∧
   Know kNode w' ms (k+1) (fun y=>if y=x then some n else f y):=by
 obtain⟨i0,hi,hz0,hz1,hz2⟩:=info_parts Tryz.infosI144;have hbl:=(Array.getElem?_eq_some_iff.1 hbox).1;have hml:=hK.lt;have hrl:∀g,(Value.slice A n cap).ownBlock=some g→g<w.heap.size:=fun g hg=>(hown.lt g hg).2;have hne1:=row_ne hown hbox (by decide);obtain⟨hne2,hne3⟩:(Value.slice A n cap).ownBlock≠some ms∧pa≠ms:=by
  obtain⟨D,hD,_⟩:=hK.own;exact⟨row_neM hown hD,box_neM hbox hD⟩
 obtain⟨w1,hw1⟩:∃w1,w1=w.alloc (.cells #[.bool x.1,.int .i32 ((x.2:Int)-1)] 144):=⟨_,rfl⟩;have hb1:Below w.heap.size w w1:=by rw[hw1];exact(Below.refl _ _).alloc (Nat.le_refl _) _
 have hbox1:=(hb1.block pa hbl).trans hbox;have hown1:w1.ownsRow 0 144 2 (.slice A n cap) n xs:=by rw[hw1];exact hown.alloc _
 have hK1:Know kNode w1 ms k f:=hK.same (hb1.block ms hml);obtain⟨y,hl,-⟩:=hK1.look hx;rw[hf]at hl;dsimp only[Option.isSome,kNode,nodeC]at hl;have p0:w1.cell? ⟨w.heap.size,0,none⟩=some (.bool x.1):=by rw[hw1];exact new_cell _ _ _ 0
 have p1:w1.cell? ⟨w.heap.size,1,none⟩=some (.int .i32 ((x.2:Int)-1)):=by rw[hw1];exact new_cell _ _ _ 1
 have b0:w1.cell? ⟨pa,0,none⟩=some (.slice A n cap):=by simp[World.cell?,hbox1]
 have hs1:w1.heap.size=w.heap.size+1:=by rw[hw1];exact World.size_alloc _ _
 have HW:=hid hw1;have HB:=hid (And.intro hbox1 (And.intro hown1 (And.intro hb1 hK1)));have HP:=hid (And.intro hbl (And.intro hml (And.intro hne1 (And.intro hne2 (And.intro hne3 (And.intro hs1 hrl))))));have HX:=hid (And.intro hx (And.intro hf hk));rw[hw1]at hl p0 p1 b0;have n0:(0:Int)≤n:=by omega
 have n1:(n:Int)≤1900000000:=by omega
 have nw:IntKind.i32.wrap (n:Int)=n:=by unfold IntKind.wrap;simp[IntKind.bits,IntKind.signed];omega
 clear hw1 hbox1 hb1 hbox hown hown1 hbl hK hK1 hx hf hk hml hne1 hne2 hne3 hs1;go_enter Tryz.func179,Tryz.ntmps179;go_wp2_with fail;rw[←HW.out];rw[←HW.out]at hl p0 p1 b0;have h1c:∀u∈[Value.bool x.1,Value.int .i32 ((x.2:Int)-1)],u.oneCell'=true:=by
  intro u hu;simp only[List.mem_cons,List.not_mem_nil,or_false]at hu;rcases hu with rfl|rfl<;>rfl
 obtain⟨NB,hNB⟩:∃NB,NB=(Obj.cells #[Value.bool x.1,Value.int .i32 ((x.2:Int)-1)] 144 (0,0)):=⟨_,rfl⟩;have old:∀(k o:Nat) v,w1.cell? ⟨k,o,none⟩=some v→(w1.alloc NB).cell? ⟨k,o,none⟩=some v:=fun k o v hv=>
  (((Below.refl w1.heap.size w1).alloc (Nat.le_refl _) _).cell (p:=⟨k,o,none⟩) (World.block_lt_of_cell? w1 _ hv)).trans hv
 have q0:=old _ _ _ p0;have q1:=old _ _ _ p1;have q4:=old _ _ _ b0;rw[hNB]at q0 q1 q4;have HGO:=hid (show∀(w4:World),((w1.alloc NB).drew).grownBy w4 (Value.slice A n cap).ownBlock→w4.heap[pa]?=some (.cells #[.slice A n cap,x1,x2] 84 (0,0))from fun w4 hg=>by
  have hsz:((w1.alloc NB).drew).heap.size=w1.heap.size+1:=World.size_alloc _ _;refine(hg.block pa (by have:=HP.out.1;have:=HP.out.2.2.2.2.2.1;omega) (fun e=>HP.out.2.2.1 e.symm)).trans ?_;exact(Below.heap_alloc w1 _ _ (by have:=HP.out.1;have:=HP.out.2.2.2.2.2.1;omega)).trans HB.out.1)
 rw[hNB]at HGO;clear old;go_region_law ((refine step_append_lies _ (by rfl) _ _ _ (by rfl) 0 144 i0 _ 2 8 Tryz.underlying81 hi hz0 hz1 hz2 rfl (by omega) (.slice A n cap) n xs (by rfl) ((HB.out.2.1.alloc _).drew) ⟨w1.heap.size,0,none⟩ 1 1 [.bool x.1,.int .i32 ((x.2:Int)-1)] (by rfl) (by rfl) (World.news_of_block (cs:=#[.bool x.1,.int .i32 ((x.2:Int)-1)]) (t:=144) (fr:=(0,0)) (heap_alloc_new w1 _)) h1c (by omega) (by unfold maxLen;omega) (by omega) (Nat.zero_le _) (w1.heap.size+1) (by simp) ?_;intro gg cap4 w4 hown4 hgrow4 hat4 hlt4;have m4:=(show w4.cell? ⟨pa,0,none⟩=some (.slice A n cap)by simp[World.cell?,HGO.out _ hgrow4]);have f4:=(show w4.frozen? ⟨pa,0,none⟩=false by simp[World.frozen?,HGO.out _ hgrow4])))
 all_goals
  obtain⟨w5,hw5⟩:∃w5,w5=w4.setCell ⟨pa,0,none⟩ (.slice (some ⟨gg,0,none⟩) (n+1) cap4):=⟨_,rfl⟩;rw[←hw5];obtain⟨bl,ml,e1,e2,e3,hsz1,hrl⟩:=HP.out;have hb4:=HGO.out _ hgrow4;have hb5:w5.heap[pa]?=some (.cells #[.slice (some ⟨gg,0,none⟩) (n+1) cap4,x1,x2] 84 (0,0)):=by
   rw[hw5];exact heap_set hb4 _
  have c0:w5.cell? ⟨w.heap.size,0,none⟩=some (.bool x.1)∧w5.cell? ⟨w.heap.size,1,none⟩=some (.int .i32 ((x.2:Int)-1)):=by
   have hk0:w5.heap[w.heap.size]?=w1.heap[w.heap.size]?:=by
    rw[hw5];refine((only1 w4 ⟨pa,0,none⟩ _).block _ (by have:=hgrow4.size;have:((w1.alloc (Obj.cells #[Value.bool x.1,Value.int .i32 ((x.2:Int)-1)] 144)).drew).heap.size=w1.heap.size+1:=World.size_alloc _ _;omega) (fun e=>by have:w.heap.size=pa:=e;omega)).trans ?_;have hsz:((w1.alloc (Obj.cells #[Value.bool x.1,Value.int .i32 ((x.2:Int)-1)] 144)).drew).heap.size=w1.heap.size+1:=World.size_alloc _ _;exact(hgrow4.block _ (by omega) (fun e=>by have:=hrl _ e.symm;omega)).trans (Below.heap_alloc w1 _ _ (by omega))
   constructor
   ·refine Eq.trans ?_ p0;unfold World.cell?;dsimp only;rw[hk0]
   ·refine Eq.trans ?_ p1;unfold World.cell?;dsimp only;rw[hk0]
  have hsz:((w1.alloc (Obj.cells #[Value.bool x.1,Value.int .i32 ((x.2:Int)-1)] 144)).drew).heap.size=w1.heap.size+1:=World.size_alloc _ _;have hm5:w5.heap[ms]?=w1.heap[ms]?:=by
   rw[hw5];refine((only1 w4 ⟨pa,0,none⟩ _).block _ (by have:=hgrow4.size;omega) (fun e=>e3 e.symm)).trans ?_;exact(hgrow4.block _ (by omega) (fun e=>e2 e.symm)).trans (Below.heap_alloc w1 _ _ (by omega))
  have hK5:Know kNode w5 ms k f:=HB.out.2.2.2.same hm5;obtain⟨w6,hr6,hK6,hg6⟩:=hK5.put (c:=x) (d:=n) HX.out.1 (by omega) (by have:=HX.out.2.2;unfold maxLen;omega);dsimp only[kNode,nodeC]at hr6;have hown5:w5.ownsRow 0 144 2 (.slice (some ⟨gg,0,none⟩) (n+1) cap4) (n+1) (xs++nodeC x):=
   row_frame hown4 fun g hg=>by
    simp only[Value.ownBlock,Option.some.injEq]at hg;subst hg;rw[hw5];refine(only1 w4 ⟨pa,0,none⟩ _).block _ hlt4 (fun e=>?_);dsimp only at e;rcases hat4 with h|h
    ·exact e1 (e▸h)
    ·omega
  have hgw:(Value.slice A n cap).ownBlock=some gg∨w.heap.size≤gg:=hat4.imp id (fun e=>by omega);have ho6:OnlyAt (fun z=>z=pa∨z=ms∨(Value.slice A n cap).ownBlock=some z) w w6:=by
   have h1:OnlyAt (fun z=>z=pa∨z=ms∨(Value.slice A n cap).ownBlock=some z) w w1:=OnlyAt.of_below HB.out.2.2.1;have h2:=h1.trans ((OnlyAt.alloc (fun z=>z=pa∨z=ms∨(Value.slice A n cap).ownBlock=some z) w1 (.cells #[.bool x.1,.int .i32 ((x.2:Int)-1)] 144)).trans (OnlyAt.drew _ _));have h3:=h2.trans (OnlyAt.of_grown hgrow4 (fun k hk=> .inr (.inr hk)));have h4:OnlyAt (fun z=>z=pa∨z=ms∨(Value.slice A n cap).ownBlock=some z) w w5:=by
    rw[hw5];exact h3.trans ((only1 w4 ⟨pa,0,none⟩ _).mono fun z hz=> .inl hz)
   exact h4.trans (OnlyAt.of_grown hg6 (fun k hk=>by cases hk;exact .inr (.inl rfl)))
  have hb6:=(hg6.block pa (Array.getElem?_eq_some_iff.1 hb5).1 (fun e=>by cases e;exact e3 rfl)).trans hb5;have hms:ms<w5.heap.size:=hK5.lt;have hown6:w6.ownsRow 0 144 2 (.slice (some ⟨gg,0,none⟩) (n+1) cap4) (n+1) (xs++nodeC x):=
   row_frame hown5 fun g hg=>by
    simp only[Value.ownBlock,Option.some.injEq]at hg;subst hg;refine hg6.block gg (hown5.lt gg rfl).2 (fun e=>?_);cases e;obtain⟨D,hD,_⟩:=hK5.own;exact row_neM hown5 hD rfl
  have H6:=hid (And.intro ho6 (And.intro hgw (And.intro hb6 (And.intro hown6 hK6))));obtain⟨c0,c1⟩:=c0;clear hw5 hb4 hb5 hgw hown5 ho6 hown4 hgrow4 hat4 m4 f4 p0 p1 b0 q0 q1 q4 hsz1 hlt4 hsz hm5 hK5 hown6 hb6 hK6 hg6 hms bl ml e1 e2 e3 hrl;go_wp2_with fail;go_ret;exact⟨rfl,gg,cap4,H6.out⟩
theorem Tryz.infosI149:(Tryz.prog.info? 149).map (fun i=>(i.zero,i.size,i.bytes))=some (some (.agg #[.int .u8 0,.int .i32 0,.int .i32 0]),3,12):=by kernel_rfl
theorem numa_old {w:World}{pa ms k d:Nat}{f:UInt8×Nat×Nat→Option Nat}(hK:Know kArc w ms k f)(x:UInt8×Nat×Nat)(hx:arcFit x)(hd:f x=some d):
  Calls Tryz.prog 178 #[.map (some ms),.pointer (some ⟨pa,1,none⟩),.agg #[.int .u8 x.1.toNat,.int .i32 x.2.1,.int .i32 ((x.2.2:Int)-1)]] w fun e w'=>e= .returned (.int .i32 d)∧Below w.heap.size w w':=by
 have h1:Know kArc (w.alloc (.cells #[.int .u8 x.1.toNat,.int .i32 x.2.1,.int .i32 ((x.2.2:Int)-1)] 149)) ms k f:=hK.same (Below.heap_alloc _ _ _ hK.lt);obtain⟨y,hl,hy⟩:=h1.look hx;obtain rfl:=hy d hd;rw[hd]at hl;dsimp only[Option.isSome,kArc,arcC]at hl;clear hK h1 hy hd hx;go_enter Tryz.func178,Tryz.ntmps178;go_wp2;go_ret;exact⟨rfl,(Below.refl _ _).alloc (Nat.le_refl _) _⟩
theorem numa_new {w:World}{pa ms k n cap:Nat}{A:Option Addr}{x1 x2:Value}{xs:List Value}{f:UInt8×Nat×Nat→Option Nat}(hbox:w.heap[pa]?=some (.cells #[x1,.slice A n cap,x2] 84 (0,0)))
  (hown:w.ownsRow 0 149 3 (.slice A n cap) n xs) (hn:n≤1900000000) (hK:Know kArc w ms k f) (hk:k≤1900000000) (x:UInt8×Nat×Nat) (hx:arcFit x) (hf:f x=none):
  Calls Tryz.prog 178 #[.map (some ms),.pointer (some ⟨pa,1,none⟩),.agg #[.int .u8 x.1.toNat,.int .i32 x.2.1,.int .i32 ((x.2.2:Int)-1)]] w fun e w'=>e= .returned (.int .i32 n)∧∃g cap',
   OnlyAt (fun z=>z=pa∨z=ms∨(Value.slice A n cap).ownBlock=some z) w w'∧((Value.slice A n cap).ownBlock=some g∨w.heap.size≤g)∧
   w'.heap[pa]?=some (.cells #[x1,.slice (some ⟨g,0,none⟩) (n+1) cap',x2] 84 (0,0))∧w'.ownsRow 0 149 3 (.slice (some ⟨g,0,none⟩) (n+1) cap') (n+1) (xs++arcC x)∧
   Know kArc w' ms (k+1) (fun y=>if y=x then some n else f y):=by
 obtain⟨i0,hi,hz0,hz1,hz2⟩:=info_parts Tryz.infosI149;have hbl:=(Array.getElem?_eq_some_iff.1 hbox).1;have hml:=hK.lt;have hrl:∀g,(Value.slice A n cap).ownBlock=some g→g<w.heap.size:=fun g hg=>(hown.lt g hg).2;have hne1:=row_ne hown hbox (by decide);obtain⟨hne2,hne3⟩:(Value.slice A n cap).ownBlock≠some ms∧pa≠ms:=by
  obtain⟨D,hD,_⟩:=hK.own;exact⟨row_neM hown hD,box_neM hbox hD⟩
 obtain⟨w1,hw1⟩:∃w1,w1=w.alloc (.cells #[.int .u8 x.1.toNat,.int .i32 x.2.1,.int .i32 ((x.2.2:Int)-1)] 149):=⟨_,rfl⟩;have hb1:Below w.heap.size w w1:=by rw[hw1];exact(Below.refl _ _).alloc (Nat.le_refl _) _
 have hbox1:=(hb1.block pa hbl).trans hbox;have hown1:w1.ownsRow 0 149 3 (.slice A n cap) n xs:=by rw[hw1];exact hown.alloc _
 have hK1:Know kArc w1 ms k f:=hK.same (hb1.block ms hml);obtain⟨y,hl,-⟩:=hK1.look hx;rw[hf]at hl;dsimp only[Option.isSome,kArc,arcC]at hl;have p0:w1.cell? ⟨w.heap.size,0,none⟩=some (.int .u8 x.1.toNat):=by rw[hw1];exact new_cell _ _ _ 0
 have p1:w1.cell? ⟨w.heap.size,1,none⟩=some (.int .i32 x.2.1):=by rw[hw1];exact new_cell _ _ _ 1
 have p2:w1.cell? ⟨w.heap.size,2,none⟩=some (.int .i32 ((x.2.2:Int)-1)):=by rw[hw1];exact new_cell _ _ _ 2
 have b0:w1.cell? ⟨pa,1,none⟩=some (.slice A n cap):=by simp[World.cell?,hbox1]
 have hs1:w1.heap.size=w.heap.size+1:=by rw[hw1];exact World.size_alloc _ _
 have HW:=hid hw1;have HB:=hid (And.intro hbox1 (And.intro hown1 (And.intro hb1 hK1)));have HP:=hid (And.intro hbl (And.intro hml (And.intro hne1 (And.intro hne2 (And.intro hne3 (And.intro hs1 hrl))))));have HX:=hid (And.intro hx (And.intro hf hk));rw[hw1]at hl p0 p1 p2 b0;have n0:(0:Int)≤n:=by omega
 have n1:(n:Int)≤1900000000:=by omega
 have nw:IntKind.i32.wrap (n:Int)=n:=by unfold IntKind.wrap;simp[IntKind.bits,IntKind.signed];omega
 clear hw1 hbox1 hb1 hbox hown hown1 hbl hK hK1 hx hf hk hml hne1 hne2 hne3 hs1;go_enter Tryz.func178,Tryz.ntmps178;go_wp2_with fail;rw[←HW.out];rw[←HW.out]at hl p0 p1 p2 b0;have h1c:∀u∈[Value.int .u8 x.1.toNat,Value.int .i32 x.2.1,Value.int .i32 ((x.2.2:Int)-1)],u.oneCell'=true:=by
  intro u hu;simp only[List.mem_cons,List.not_mem_nil,or_false]at hu;rcases hu with rfl|rfl|rfl<;>rfl
 obtain⟨NB,hNB⟩:∃NB,NB=(Obj.cells #[Value.int .u8 x.1.toNat,Value.int .i32 x.2.1,Value.int .i32 ((x.2.2:Int)-1)] 149 (0,0)):=⟨_,rfl⟩;have old:∀(k o:Nat) v,w1.cell? ⟨k,o,none⟩=some v→(w1.alloc NB).cell? ⟨k,o,none⟩=some v:=fun k o v hv=>
  (((Below.refl w1.heap.size w1).alloc (Nat.le_refl _) _).cell (p:=⟨k,o,none⟩) (World.block_lt_of_cell? w1 _ hv)).trans hv
 have q0:=old _ _ _ p0;have q1:=old _ _ _ p1;have q2:=old _ _ _ p2;have q4:=old _ _ _ b0;rw[hNB]at q0 q1 q2 q4;have HGO:=hid (show∀(w4:World),((w1.alloc NB).drew).grownBy w4 (Value.slice A n cap).ownBlock→w4.heap[pa]?=some (.cells #[x1,.slice A n cap,x2] 84 (0,0))from fun w4 hg=>by
  have hsz:((w1.alloc NB).drew).heap.size=w1.heap.size+1:=World.size_alloc _ _;refine(hg.block pa (by have:=HP.out.1;have:=HP.out.2.2.2.2.2.1;omega) (fun e=>HP.out.2.2.1 e.symm)).trans ?_;exact(Below.heap_alloc w1 _ _ (by have:=HP.out.1;have:=HP.out.2.2.2.2.2.1;omega)).trans HB.out.1)
 rw[hNB]at HGO;clear old;go_region_law ((refine step_append_lies _ (by rfl) _ _ _ (by rfl) 0 149 i0 _ 3 12 Tryz.underlying82 hi hz0 hz1 hz2 rfl (by omega) (.slice A n cap) n xs (by rfl) ((HB.out.2.1.alloc _).drew) ⟨w1.heap.size,0,none⟩ 1 1 [.int .u8 x.1.toNat,.int .i32 x.2.1,.int .i32 ((x.2.2:Int)-1)] (by rfl) (by rfl) (World.news_of_block (cs:=#[.int .u8 x.1.toNat,.int .i32 x.2.1,.int .i32 ((x.2.2:Int)-1)]) (t:=149) (fr:=(0,0)) (heap_alloc_new w1 _)) h1c (by omega) (by unfold maxLen;omega) (by omega) (Nat.zero_le _) (w1.heap.size+1) (by simp) ?_;intro gg cap4 w4 hown4 hgrow4 hat4 hlt4;have m4:=(show w4.cell? ⟨pa,1,none⟩=some (.slice A n cap)by simp[World.cell?,HGO.out _ hgrow4]);have f4:=(show w4.frozen? ⟨pa,1,none⟩=false by simp[World.frozen?,HGO.out _ hgrow4])))
 all_goals
  obtain⟨w5,hw5⟩:∃w5,w5=w4.setCell ⟨pa,1,none⟩ (.slice (some ⟨gg,0,none⟩) (n+1) cap4):=⟨_,rfl⟩;rw[←hw5];obtain⟨bl,ml,e1,e2,e3,hsz1,hrl⟩:=HP.out;have hb4:=HGO.out _ hgrow4;have hb5:w5.heap[pa]?=some (.cells #[x1,.slice (some ⟨gg,0,none⟩) (n+1) cap4,x2] 84 (0,0)):=by
   rw[hw5];exact heap_set hb4 _
  have c0:w5.cell? ⟨w.heap.size,0,none⟩=some (.int .u8 x.1.toNat)∧w5.cell? ⟨w.heap.size,1,none⟩=some (.int .i32 x.2.1)∧w5.cell? ⟨w.heap.size,2,none⟩=some (.int .i32 ((x.2.2:Int)-1)):=by
   have hk0:w5.heap[w.heap.size]?=w1.heap[w.heap.size]?:=by
    rw[hw5];refine((only1 w4 ⟨pa,1,none⟩ _).block _ (by have:=hgrow4.size;have:((w1.alloc (Obj.cells #[Value.int .u8 x.1.toNat,Value.int .i32 x.2.1,Value.int .i32 ((x.2.2:Int)-1)] 149)).drew).heap.size=w1.heap.size+1:=World.size_alloc _ _;omega) (fun e=>by have:w.heap.size=pa:=e;omega)).trans ?_;have hsz:((w1.alloc (Obj.cells #[Value.int .u8 x.1.toNat,Value.int .i32 x.2.1,Value.int .i32 ((x.2.2:Int)-1)] 149)).drew).heap.size=w1.heap.size+1:=World.size_alloc _ _;exact(hgrow4.block _ (by omega) (fun e=>by have:=hrl _ e.symm;omega)).trans (Below.heap_alloc w1 _ _ (by omega))
   refine⟨?_,?_,?_⟩
   ·refine Eq.trans ?_ p0;unfold World.cell?;dsimp only;rw[hk0]
   ·refine Eq.trans ?_ p1;unfold World.cell?;dsimp only;rw[hk0]
   ·refine Eq.trans ?_ p2;unfold World.cell?;dsimp only;rw[hk0]
  have hsz:((w1.alloc (Obj.cells #[Value.int .u8 x.1.toNat,Value.int .i32 x.2.1,Value.int .i32 ((x.2.2:Int)-1)] 149)).drew).heap.size=w1.heap.size+1:=World.size_alloc _ _;have hm5:w5.heap[ms]?=w1.heap[ms]?:=by
   rw[hw5];refine((only1 w4 ⟨pa,1,none⟩ _).block _ (by have:=hgrow4.size;omega) (fun e=>e3 e.symm)).trans ?_;exact(hgrow4.block _ (by omega) (fun e=>e2 e.symm)).trans (Below.heap_alloc w1 _ _ (by omega))
  have hK5:Know kArc w5 ms k f:=HB.out.2.2.2.same hm5;obtain⟨w6,hr6,hK6,hg6⟩:=hK5.put (c:=x) (d:=n) HX.out.1 (by omega) (by have:=HX.out.2.2;unfold maxLen;omega);dsimp only[kArc,arcC]at hr6;have hown5:w5.ownsRow 0 149 3 (.slice (some ⟨gg,0,none⟩) (n+1) cap4) (n+1) (xs++arcC x):=
   row_frame hown4 fun g hg=>by
    simp only[Value.ownBlock,Option.some.injEq]at hg;subst hg;rw[hw5];refine(only1 w4 ⟨pa,1,none⟩ _).block _ hlt4 (fun e=>?_);dsimp only at e;rcases hat4 with h|h
    ·exact e1 (e▸h)
    ·omega
  have hgw:(Value.slice A n cap).ownBlock=some gg∨w.heap.size≤gg:=hat4.imp id (fun e=>by omega);have ho6:OnlyAt (fun z=>z=pa∨z=ms∨(Value.slice A n cap).ownBlock=some z) w w6:=by
   have h1:OnlyAt (fun z=>z=pa∨z=ms∨(Value.slice A n cap).ownBlock=some z) w w1:=OnlyAt.of_below HB.out.2.2.1;have h2:=h1.trans ((OnlyAt.alloc (fun z=>z=pa∨z=ms∨(Value.slice A n cap).ownBlock=some z) w1 (.cells #[.int .u8 x.1.toNat,.int .i32 x.2.1,.int .i32 ((x.2.2:Int)-1)] 149)).trans (OnlyAt.drew _ _));have h3:=h2.trans (OnlyAt.of_grown hgrow4 (fun k hk=> .inr (.inr hk)));have h4:OnlyAt (fun z=>z=pa∨z=ms∨(Value.slice A n cap).ownBlock=some z) w w5:=by
    rw[hw5];exact h3.trans ((only1 w4 ⟨pa,1,none⟩ _).mono fun z hz=> .inl hz)
   exact h4.trans (OnlyAt.of_grown hg6 (fun k hk=>by cases hk;exact .inr (.inl rfl)))
  have hb6:=(hg6.block pa (Array.getElem?_eq_some_iff.1 hb5).1 (fun e=>by cases e;exact e3 rfl)).trans hb5;have hms:ms<w5.heap.size:=hK5.lt;have hown6:w6.ownsRow 0 149 3 (.slice (some ⟨gg,0,none⟩) (n+1) cap4) (n+1) (xs++arcC x):=
   row_frame hown5 fun g hg=>by
    simp only[Value.ownBlock,Option.some.injEq]at hg;subst hg;refine hg6.block gg (hown5.lt gg rfl).2 (fun e=>?_);cases e;obtain⟨D,hD,_⟩:=hK5.own;exact row_neM hown5 hD rfl
  have H6:=hid (And.intro ho6 (And.intro hgw (And.intro hb6 (And.intro hown6 hK6))));obtain⟨c0,c1,c2⟩:=c0;clear hw5 hb4 hb5 hgw hown5 ho6 hown4 hgrow4 hat4 m4 f4 p0 p1 p2 b0 q0 q1 q2 q4 hsz1 hlt4 hsz hm5 hK5 hown6 hb6 hK6 hg6 hms bl ml e1 e2 e3 hrl;go_wp2_with fail;go_ret;exact⟨rfl,gg,cap4,H6.out⟩
def plc {α:Type}[DecidableEq α](l:List α)(x:α):Option Nat:=if x∈l then some (l.idxOf x)else none
theorem plc_some {α:Type}[DecidableEq α]{l:List α}{x:α}{d:Nat}(h:plc l x=some d):l[d]?=some x:=by
 unfold plc at h;split at h
 ·rename_i hx;cases h;have:=List.idxOf_lt_length_of_mem hx;rw[List.getElem?_eq_getElem this,List.getElem_idxOf this]
 ·cases h
theorem plc_none {α:Type}[DecidableEq α]{l:List α}{x:α}(h:plc l x=none):x ∉ l:=by
 unfold plc at h;split at h
 ·cases h
 ·assumption
theorem plc_snoc {α:Type}[DecidableEq α]{l:List α}{x:α}(h:x ∉ l):(fun y=>if y=x then some l.length else plc l y)=plc (l++[x]):=by
 funext y;unfold plc;by_cases e:y=x
 ·subst e;simp[List.idxOf_append,h]
 ·by_cases hy:y∈l
  ·simp[e,hy,List.idxOf_append]
  ·simp[e,hy]
theorem plc_nil {α:Type}[DecidableEq α]:(fun _=>none:α→Option Nat)=plc []:=by funext y;simp[plc]
structure BM (w:World)(T:Nat→Prop)(pb pa ms mp:Nat)(g:GA):Prop where
 ok:g.Ok
 box:w.heap[pb]?=some (.cells #[.pointer (some ⟨pa,0,none⟩),.map (some ms),.map (some mp)] 182 (0,0))
 rows:∃A c A' c',w.heap[pa]?=some (.cells #[.slice A g.nodes.length c,.slice A' g.arcs.length c',.int .i64 0] 84 (0,0))∧
  w.ownsRow 0 144 2 (.slice A g.nodes.length c) g.nodes.length (g.nodes.flatMap nodeC)∧w.ownsRow 0 149 3 (.slice A' g.arcs.length c') g.arcs.length (g.arcs.flatMap arcC)∧
  (∀z,(Value.slice A g.nodes.length c).ownBlock=some z→T z)∧∀z,(Value.slice A' g.arcs.length c').ownBlock=some z→T z
 sm:Know kNode w ms g.nodes.length (plc g.nodes)
 pm:Know kArc w mp g.arcs.length (plc g.arcs)
 inT:T pa∧T ms∧T mp
 lt:∀k,T k→k<w.heap.size
 ne:ms≠mp
structure Fr (T T':Nat→Prop)(w w':World):Prop where
 only:OnlyAt T w w'
 new:∀k,T' k→T k∨w.heap.size≤k
theorem Fr.trans {T T' T'':Nat→Prop}{w w' w'':World}(h:Fr T T' w w')(k:Fr T' T'' w' w''):Fr T T'' w w'':=by
 have hs:=h.only.size;refine⟨⟨k.only.os.trans h.only.os,k.only.tape.trans h.only.tape,k.only.output.trans h.only.output,Nat.le_trans hs k.only.size,fun i hi hn=>?_⟩,fun i hi=>?_⟩
 ·refine(k.only.block i (Nat.lt_of_lt_of_le hi hs) (fun ht=>?_)).trans (h.only.block i hi hn);rcases h.new i ht with h'|h'
  ·exact hn h'
  ·omega
 ·rcases k.new i hi with h'|h'
  ·exact h.new i h'
  ·exact .inr (Nat.le_trans hs h')
theorem Fr.of_below {T:Nat→Prop}{w w':World}(h:Below w.heap.size w w'):Fr T T w w':=⟨OnlyAt.of_below h,fun _ h=> .inl h⟩
theorem Fr.cell {T T':Nat→Prop}{w w':World}(h:Fr T T' w w'){p:Addr}{v:Value}(hv:w.cell? p=some v)(hn:¬T p.block):w'.cell? p=some v:=by
 have hlt:=World.block_lt_of_cell? _ _ hv;refine Eq.trans ?_ hv;unfold World.cell?;rw[h.only.block _ hlt hn]
theorem Fr.block {T T':Nat→Prop}{w w':World}(h:Fr T T' w w'){b:Nat}{o:Obj}(hv:w.heap[b]?=some o)(hn:¬T b):w'.heap[b]?=some o:=
 (h.only.block _ (Array.getElem?_eq_some_iff.1 hv).1 hn).trans hv
theorem Fr.out {T T':Nat→Prop}{w w':World}(h:Fr T T' w w'){b:Nat}(hb:b<w.heap.size)(hn:¬T b):¬T' b:=fun ht=>by
 rcases h.new b ht with h'|h'
 ·exact hn h'
 ·omega
theorem BM.keep {w w':World}{T:Nat→Prop}{pb pa ms mp:Nat}{g:GA}(h:BM w T pb pa ms mp g)(hb:Below w.heap.size w w'):BM w' T pb pa ms mp g:=by
 obtain⟨A,c,A',c',h1,h2,h3,h4,h5⟩:=h.rows;exact⟨h.ok,(hb.block _ (Array.getElem?_eq_some_iff.1 h.box).1).trans h.box,⟨A,c,A',c',(hb.block _ (Array.getElem?_eq_some_iff.1 h1).1).trans h1,own_keep9 h2 hb,own_keep9 h3 hb,h4,h5⟩,
  h.sm.same (hb.block _ h.sm.lt),h.pm.same (hb.block _ h.pm.lt),h.inT,fun k hk=>Nat.lt_of_lt_of_le (h.lt k hk) hb.size,h.ne⟩
theorem BM.pb_lt {w:World}{T:Nat→Prop}{pb pa ms mp:Nat}{g:GA}(h:BM w T pb pa ms mp g):pb<w.heap.size:=(Array.getElem?_eq_some_iff.1 h.box).1
theorem BM.pbs {w:World}{T:Nat→Prop}{pb pa ms mp:Nat}{g:GA}(h:BM w T pb pa ms mp g):pb≠pa∧pb≠ms∧pb≠mp:=by
 obtain⟨A,c,A',c',h1,-⟩:=h.rows;obtain⟨D,hD,_⟩:=h.sm.own;obtain⟨D',hD',_⟩:=h.pm.own;refine⟨?_,box_neM h.box hD,box_neM h.box hD'⟩;rintro rfl;rw[h.box]at h1;simp at h1
theorem numN_any {w:World}{T:Nat→Prop}{pb pa ms mp:Nat}{g:GA}(h:BM w T pb pa ms mp g)(f:Bool)(i:Nat)(L:List Bs)(hL:([] ::g.A)[i]?=some L)(hn:g.nodes.length≤1900000000)(ha:g.arcs.length≤1900000000):
  Calls Tryz.prog 179 #[.map (some ms),.pointer (some ⟨pa,0,none⟩),.agg #[.bool f,.int .i32 ((i:Int)-1)]] w fun e w'=>∃(T':Nat→Prop) (g':GA) (n:Nat),e= .returned (.int .i32 n)∧
   BM w' T' pb pa ms mp g'∧Fr T T' w w'∧g.Le g'∧g'.N[n]?=some (fins f++L)∧(∀L'∈g'.N,L'∈g.N∨L'=fins f++L)∧g'.arcs=g.arcs∧g'.nodes.length≤g.nodes.length+1:=by
 have hfit:nodeFit (f,i):=by
  have h1:=(List.getElem?_eq_some_iff.1 hL).1;have h2:=h.ok.al;rw[List.length_cons]at h1;show i≤2000000000;omega
 cases hp:plc g.nodes (f,i)with
 | some d=>
   refine(numn_old (pa:=pa) h.sm (f,i) hfit hp).mono ?_;rintro e w' ⟨rfl,hb⟩;obtain⟨L',k1,k2⟩:=h.ok.node d f i (plc_some hp);rw[hL]at k1;cases k1;exact⟨T,g,d,rfl,h.keep hb,Fr.of_below hb,GA.Le.refl _,k2,fun _ hx=> .inl hx,rfl,by omega⟩
 | none=>
   have hnm:=plc_none hp;obtain⟨A,c,A',c',h1,h2,h3,h4,h5⟩:=h.rows;refine(numn_new h1 h2 hn h.sm hn (f,i) hfit hp).mono ?_;rintro e w' ⟨rfl,gg,cap',ho,hg,hb,hr,hk⟩;rw[plc_snoc hnm]at hk;have hTo:OnlyAt T w w':=ho.mono fun z hz=>by
    rcases hz with rfl|rfl|hz
    ·exact h.inT.1
    ·exact h.inT.2.1
    ·exact h4 z hz
   have hs:=hTo.size;refine⟨fun k=>T k∨(w.heap.size≤k∧k<w'.heap.size),g.addNode f i L,g.nodes.length,rfl,⟨h.ok.addNode hL hnm,?_,?_,?_,?_,⟨.inl h.inT.1,.inl h.inT.2.1,.inl h.inT.2.2⟩,?_,h.ne⟩,⟨hTo,fun k hk=>hk.imp id fun x=>x.1⟩,g.le_node f i L,?_,?_,rfl,by simp[GA.addNode]⟩
   ·obtain⟨p1,p2,p3⟩:=h.pbs;exact(ho.block pb h.pb_lt (by
     rintro (e|e|e)
     ·exact p1 e
     ·exact p2 e
     ·exact row_ne h2 h.box (by decide) e)).trans h.box
   ·refine⟨_,_,A',c',by simpa[GA.addNode]using hb,?_,?_,?_,?_⟩
    ·show w'.ownsRow 0 144 2 _ (g.nodes++[(f,i)]).length ((g.nodes++[(f,i)]).flatMap nodeC);have el:(g.addNode f i L).nodes.length=g.nodes.length+1:=by simp[GA.addNode]
     rw[el,List.flatMap_append,List.length_append];simpa using hr
    ·refine row_frame h3 fun z hz=>ho.block z (h3.lt z hz).2 ?_;rintro (rfl|rfl|e)
     ·exact row_ne h3 h1 (by decide) hz
     ·obtain⟨D,hD,_⟩:=h.sm.own;exact row_neM h3 hD hz
     ·rcases h2.2 with ⟨e',_⟩|⟨q,cq,cur,e',_,hq,_⟩
      ·rw[e']at e;cases e
      ·rw[e']at e;simp only[Value.ownBlock,Option.some.injEq]at e;subst e;exact row_ne h3 hq (by decide) hz
    ·intro z hz;simp only[Value.ownBlock,Option.some.injEq]at hz;subst hz;rcases hg with hg|hg
     ·exact .inl (h4 _ hg)
     ·refine .inr ⟨hg,?_⟩;exact(hr.lt gg rfl).2
    ·intro z hz;exact .inl (h5 z hz)
   ·show Know kNode w' ms (g.nodes++[(f,i)]).length (plc (g.nodes++[(f,i)]));rw[List.length_append];exact hk
   ·refine h.pm.same (ho.block mp h.pm.lt ?_);rintro (e|e|e)
    ·obtain⟨D,hD,_⟩:=h.pm.own;exact box_neM h1 hD e.symm
    ·exact h.ne e.symm
    ·obtain⟨D,hD,_⟩:=h.pm.own;exact row_neM h2 hD e
   ·rintro k (hk|hk)
    ·exact Nat.lt_of_lt_of_le (h.lt k hk) hs
    ·exact hk.2
   ·show (g.N++[fins f++L])[g.nodes.length]?=_;rw[h.ok.nl];simp
   ·intro L' hL';rcases List.mem_append.1 hL' with hx|hx
    ·exact .inl hx
    ·simp at hx;exact .inr hx
theorem numA_any {w:World}{T:Nat→Prop}{pb pa ms mp:Nat}{g:GA}(h:BM w T pb pa ms mp g)(c:UInt8)(t i:Nat)(M L:List Bs)(ht:g.N[t]?=some M)(hL:([] ::g.A)[i]?=some L)(hM:M≠[])(hab:Above c L)(hn:g.nodes.length≤1900000000)(ha:g.arcs.length≤1900000000):
  Calls Tryz.prog 178 #[.map (some mp),.pointer (some ⟨pa,1,none⟩),.agg #[.int .u8 c.toNat,.int .i32 t,.int .i32 ((i:Int)-1)]] w fun e w'=>∃(T':Nat→Prop) (g':GA) (n:Nat),e= .returned (.int .i32 n)∧
   BM w' T' pb pa ms mp g'∧Fr T T' w w'∧g.Le g'∧g'.A[n]?=some (M.map (c:: ·)++L)∧g'.N=g.N∧g'.nodes=g.nodes∧g'.arcs.length≤g.arcs.length+1:=by
 have hfit:arcFit (c,t,i):=by
  have h1:=(List.getElem?_eq_some_iff.1 hL).1;have h3:=(List.getElem?_eq_some_iff.1 ht).1;have h2:=h.ok.al;have h4:=h.ok.nl;rw[List.length_cons]at h1;show t≤2000000000∧i≤2000000000;omega
 cases hp:plc g.arcs (c,t,i)with
 | some d=>
   refine(numa_old (pa:=pa) h.pm (c,t,i) hfit hp).mono ?_;rintro e w' ⟨rfl,hb⟩;obtain⟨M',L',k0,k1,k2,_⟩:=h.ok.arc d c t i (plc_some hp);rw[hL]at k1;rw[ht]at k0;cases k1;cases k0;exact⟨T,g,d,rfl,h.keep hb,Fr.of_below hb,GA.Le.refl _,k2,rfl,rfl,by omega⟩
 | none=>
   have hnm:=plc_none hp;obtain⟨A,c0,A',c',h1,h2,h3,h4,h5⟩:=h.rows;refine(numa_new h1 h3 ha h.pm ha (c,t,i) hfit hp).mono ?_;rintro e w' ⟨rfl,gg,cap',ho,hg,hb,hr,hk⟩;rw[plc_snoc hnm]at hk;have hTo:OnlyAt T w w':=ho.mono fun z hz=>by
    rcases hz with rfl|rfl|hz
    ·exact h.inT.1
    ·exact h.inT.2.2
    ·exact h5 z hz
   have hs:=hTo.size;refine⟨fun k=>T k∨(w.heap.size≤k∧k<w'.heap.size),g.addArc c t i M L,g.arcs.length,rfl,⟨h.ok.addArc ht hL hM hab hnm,?_,?_,?_,?_,⟨.inl h.inT.1,.inl h.inT.2.1,.inl h.inT.2.2⟩,?_,h.ne⟩,⟨hTo,fun k hk=>hk.imp id fun x=>x.1⟩,g.le_arc c t i M L,?_,rfl,rfl,by simp[GA.addArc]⟩
   ·obtain⟨p1,p2,p3⟩:=h.pbs;exact(ho.block pb h.pb_lt (by
     rintro (e|e|e)
     ·exact p1 e
     ·exact p3 e
     ·exact row_ne h3 h.box (by decide) e)).trans h.box
   ·refine⟨A,c0,_,_,by simpa[GA.addArc]using hb,?_,?_,?_,?_⟩
    ·refine row_frame h2 fun z hz=>ho.block z (h2.lt z hz).2 ?_;rintro (rfl|rfl|e)
     ·exact row_ne h2 h1 (by decide) hz
     ·obtain⟨D,hD,_⟩:=h.pm.own;exact row_neM h2 hD hz
     ·rcases h3.2 with ⟨e',_⟩|⟨q,cq,cur,e',_,hq,_⟩
      ·rw[e']at e;cases e
      ·rw[e']at e;simp only[Value.ownBlock,Option.some.injEq]at e;subst e;exact row_ne h2 hq (by decide) hz
    ·show w'.ownsRow 0 149 3 _ (g.arcs++[(c,t,i)]).length ((g.arcs++[(c,t,i)]).flatMap arcC);have el:(g.addArc c t i M L).arcs.length=g.arcs.length+1:=by simp[GA.addArc]
     rw[el,List.flatMap_append,List.length_append];simpa using hr
    ·intro z hz;exact .inl (h4 z hz)
    ·intro z hz;simp only[Value.ownBlock,Option.some.injEq]at hz;subst hz;rcases hg with hg|hg
     ·exact .inl (h5 _ hg)
     ·refine .inr ⟨hg,?_⟩;exact(hr.lt gg rfl).2
   ·refine h.sm.same (ho.block ms h.sm.lt ?_);rintro (e|e|e)
    ·obtain⟨D,hD,_⟩:=h.sm.own;exact box_neM h1 hD e.symm
    ·exact h.ne e
    ·obtain⟨D,hD,_⟩:=h.sm.own;exact row_neM h3 hD e
   ·show Know kArc w' mp (g.arcs++[(c,t,i)]).length (plc (g.arcs++[(c,t,i)]));rw[List.length_append];exact hk
   ·rintro k (hk|hk)
    ·exact Nat.lt_of_lt_of_le (h.lt k hk) hs
    ·exact hk.2
   ·show (g.A++[M.map (c:: ·)++L])[g.arcs.length]?=_;rw[h.ok.al];simp
end Go.Proofs.YtfehpcbmdancoaaGreatDoor.Dw
namespace Go.Proofs.YtfehpcbmdancoaaGreatDoor.Dw
open Go Go.RowKit Go.Lib Go.Shelf
attribute [local go_sem] Oper.semAt_some alloc_set
structure AutoAt (w:World)(p:Nat)(g:GA)(st:Nat):Prop where
 ok:g.Ok
 mem:∃A c A' c',w.cell? ⟨p,0,none⟩=some (.slice A g.nodes.length c)∧w.cell? ⟨p,1,none⟩=some (.slice A' g.arcs.length c')∧w.cell? ⟨p,2,none⟩=some (.int .i64 st)∧
  (∀(k:Nat) x,g.nodes[k]?=some x→∃q,A=some ⟨q,0,none⟩∧g.nodes.length≤c∧w.cell? ⟨q,k*2,none⟩=some (.bool x.1)∧w.cell? ⟨q,k*2+1,none⟩=some (.int .i32 ((x.2:Int)-1)))∧
  ∀(k:Nat) x,g.arcs[k]?=some x→∃q,A'=some ⟨q,0,none⟩∧g.arcs.length≤c'∧w.cell? ⟨q,k*3,none⟩=some (.int .u8 x.1.toNat)∧w.cell? ⟨q,k*3+1,none⟩=some (.int .i32 x.2.1)∧w.cell? ⟨q,k*3+2,none⟩=some (.int .i32 ((x.2.2:Int)-1))
 st:st<g.nodes.length
 bd:g.nodes.length≤1000000000∧g.arcs.length≤1000000000
theorem AutoAt.cells {w w':World}{p:Nat}{g:GA}{st:Nat}(h:AutoAt w p g st)(hc:∀a v,w.cell? a=some v→w'.cell? a=some v):AutoAt w' p g st:=by
 obtain⟨A,c,A',c',h1,h2,h3,h4,h5⟩:=h.mem;refine⟨h.ok,⟨A,c,A',c',hc _ _ h1,hc _ _ h2,hc _ _ h3,fun k x hx=>?_,fun k x hx=>?_⟩,h.st,h.bd⟩
 ·obtain⟨q,e1,e2,e3,e4⟩:=h4 k x hx;exact⟨q,e1,e2,hc _ _ e3,hc _ _ e4⟩
 ·obtain⟨q,e1,e2,e3,e4,e5⟩:=h5 k x hx;exact⟨q,e1,e2,hc _ _ e3,hc _ _ e4,hc _ _ e5⟩
theorem AutoAt.keep {w w':World}{p:Nat}{g:GA}{st:Nat}(h:AutoAt w p g st)(hb:Below w.heap.size w w'):AutoAt w' p g st:=
 h.cells fun _a _v ha=>(cell_old hb (World.block_lt_of_cell? _ _ ha)).trans ha
def GA.out (g:GA)(s:Int):List (UInt8×Nat×Nat):=if 0≤s then(match g.nodes[s.toNat]? with|some x=>g.chain x.2| .none=>[])else []
def GA.has (g:GA)(s:Int):Bool:=decide (0≤s∧s<g.nodes.length)
def GA.fin (g:GA)(s:Int):Bool:=if 0≤s then(match g.nodes[s.toNat]? with|some x=>x.1| .none=>false)else false
theorem start_any (w:World)(p:Nat)(g:GA)(st:Nat)(h:AutoAt w p g st):Calls Tryz.prog 42 #[.pointer (some ⟨p,0,none⟩)] w fun e w'=>e= .returned (.int .i64 st)∧w'=w:=by
 obtain⟨A,c,A',c',-,-,h1,-⟩:=h.mem;clear h;go_enter Tryz.func42,Tryz.ntmps42;go_wp2;go_ret;exact⟨rfl,rfl⟩
theorem is_any (w:World)(p:Nat)(g:GA)(st:Nat)(h:AutoAt w p g st)(s:Int):Calls Tryz.prog 87 #[.pointer (some ⟨p,0,none⟩),.int .i64 s] w fun e w'=>e= .returned (.bool (g.has s))∧w'=w:=by
 obtain⟨A,c,A',c',h1,-⟩:=h.mem;obtain⟨n,hn⟩:∃n,n=g.nodes.length:=⟨_,rfl⟩;rw[←hn]at h1;obtain⟨R,hR⟩:∃R,R=g.has s:=⟨_,rfl⟩;rw[←hR];have hR':R=decide (0≤s∧s<n):=by rw[hR,hn];rfl
 have HR:=hid hR';clear h hn hR hR';by_cases h0:0≤s
 ·by_cases h2:s<n
  ·have e:R=true:=by rw[HR.out];exact decide_eq_true ⟨h0,h2⟩
   subst e;go_enter Tryz.func87,Tryz.ntmps87;go_wp2;go_ret;exact⟨rfl,rfl⟩
  ·have e:R=false:=by rw[HR.out];exact decide_eq_false (fun hh=>h2 hh.2)
   subst e;go_enter Tryz.func87,Tryz.ntmps87;go_wp2;go_ret;exact⟨rfl,rfl⟩
 ·have e:R=false:=by rw[HR.out];exact decide_eq_false (fun hh=>h0 hh.1)
  subst e;go_enter Tryz.func87,Tryz.ntmps87;go_wp2;go_ret;exact⟨rfl,rfl⟩
theorem final_any (w:World)(p:Nat)(g:GA)(st:Nat)(h:AutoAt w p g st)(s:Int):Calls Tryz.prog 39 #[.pointer (some ⟨p,0,none⟩),.int .i64 s] w fun e w'=>e= .returned (.bool (g.fin s))∧w'=w:=by
 have CI:=hid (is_any w p g st h s);obtain⟨A,c,A',c',h1,-,-,h4,-⟩:=h.mem;by_cases hs:0≤s∧s<g.nodes.length
 ·obtain⟨x,hx⟩:∃x,g.nodes[s.toNat]?=some x:=⟨_,List.getElem?_eq_getElem (by omega)⟩;obtain⟨q,rfl,hc,c0,-⟩:=h4 _ x hx;have ef:g.fin s=x.1:=by unfold GA.fin;rw[if_pos hs.1,hx]
  rw[ef];have eh:g.has s=true:=decide_eq_true hs;rw[eh]at CI;obtain⟨n,hn⟩:∃n,n=g.nodes.length:=⟨_,rfl⟩;rw[←hn]at h1 hc hs;obtain⟨s0,s1⟩:=hs;obtain⟨k,rfl⟩:∃k:Nat,s=k:=⟨s.toNat,by omega⟩;rw[Int.toNat_natCast]at c0;clear h h4 hx ef eh hn;go_enter Tryz.func39,Tryz.ntmps39;go_wp2_with (go_at_call 87;refine CI.out.mono ?_;rintro e w2 ⟨rfl,rfl⟩);go_ret;exact⟨rfl,rfl⟩
 ·have ef:g.fin s=false:=by
   unfold GA.fin;split
   ·rw[List.getElem?_eq_none (by omega)]
   ·rfl
  rw[ef];have eh:g.has s=false:=decide_eq_false hs;rw[eh]at CI;clear h h4 ef eh hs h1;go_enter Tryz.func39,Tryz.ntmps39;go_wp2_with (go_at_call 87;refine CI.out.mono ?_;rintro e w2 ⟨rfl,rfl⟩);go_ret;exact⟨rfl,rfl⟩
theorem leaving_call (a:Option Addr)(s:Int)(w:World):Calls Tryz.prog 88 #[.pointer a,.int .i64 s] w fun e w'=>e= .returned (.func (.func 136) #[] #[.pointer (some ⟨w.heap.size,0,none⟩),.pointer (some ⟨w.heap.size+1,0,none⟩)])∧w'=(w.alloc (.cells #[.pointer a] 45)).alloc (.cells #[.int .i64 s] 3):=by
 go_enter Tryz.func88,Tryz.ntmps88;go_wp2;go_ret;exact⟨rfl,rfl⟩
def aEnc (x:UInt8×Nat×Nat):Array Value:=#[.agg #[.int .u8 x.1.toNat,.int .i32 x.2.1,.int .i32 ((x.2.2:Int)-1)]]
theorem cell_kept {R:Nat→Prop}{W W':World}(h:KeepsAt R W W'){a:Addr}{v:Value}(hv:W.cell? a=some v)(hr:R a.block):W'.cell? a=some v:=by
 refine Eq.trans ?_ hv;unfold World.cell?;rw[h.block _ (World.block_lt_of_cell? _ _ hv) hr]
theorem leaving_stops (p:Nat)(g:GA)(st:Nat)(s:Int)(b1 b2:Nat)(R:Nat→Prop)(W:World)(hdat:∀W',KeepsAt R W W'→AutoAt W' p g st∧W'.cell? ⟨b1,0,none⟩=some (.pointer (some ⟨p,0,none⟩))∧W'.cell? ⟨b2,0,none⟩=some (.int .i64 s))(hRlt:∀k,R k→k<W.heap.size):
  Stops Tryz.prog 136 #[.pointer (some ⟨b1,0,none⟩),.pointer (some ⟨b2,0,none⟩)] aEnc (fun pre x=>(pre++[x]) <+:g.out s) (fun xs=>xs=g.out s) R W:=by
 intro l J Jx hJ hJx hY hJ0;have hok:=(hdat W (KeepsAt.refl _ _)).1.ok;have HY:=hid hY;have HJ:=hid hJ;have HJX:=hid hJx;have HJ0:=hid hJ0;have HD:=hid hdat;have HRlt:=hid hRlt;obtain⟨ha0,c1,c2⟩:=hdat W (KeepsAt.refl _ _);have CI:=hid (is_any W p g st ha0 s);have HA0:=hid ha0;clear hY hJ hJx hJ0 hdat hRlt ha0;refine(callsIn_wide (n:=6)).1 ?_;refine callsIn_of_wp Tryz.func136 rfl trivial ?_ rfl;simp only[Tryz.ntmps136,List.size_toArray,List.length_cons,List.length_nil,Nat.reduceAdd,Nat.reduceSub,Array.replicate_succ,Array.replicate_zero,List.push_toArray,List.append_toArray,List.nil_append,List.cons_append];by_cases hs:0≤s∧s<g.nodes.length
 ·obtain⟨x,hx⟩:∃x,g.nodes[s.toNat]?=some x:=⟨_,List.getElem?_eq_getElem (by omega)⟩;have eo:g.out s=g.chain x.2:=by unfold GA.out;rw[if_pos hs.1,hx]
  have eh:g.has s=true:=decide_eq_true hs;rw[eh]at CI;obtain⟨A,c,A',c',h1,h2,h3,h4,h5⟩:=HA0.out.mem;obtain⟨q,rfl,hc,-,cf⟩:=h4 _ x hx;obtain⟨s0,s1⟩:=hs;obtain⟨k,rfl⟩:∃k:Nat,s=k:=⟨s.toNat,by omega⟩;rw[Int.toNat_natCast]at cf hx;obtain⟨n,hn⟩:∃n,n=g.nodes.length:=⟨_,rfl⟩;rw[←hn]at h1 hc s1;obtain⟨i0,hi0⟩:∃i0,i0=(x.2:Int)-1:=⟨_,rfl⟩;rw[←hi0]at cf;have HX:=hid (And.intro hx (And.intro eo (And.intro hi0 hok)));clear h2 h3 h4 h5 hx eo eh hn hi0 hok HA0;gi_wp2_with (refine ⟨trivial,?_⟩;gi_at_call 87;refine(callsIn_wide.2 CI.out).mono ?_;rintro e w2 ⟨rfl,rfl⟩);refine wpIn_wide.2 (wp_region_noPanic ?_);go_region
  refine NoPanic.normal ?_;have HJ1:=hid (HJ.out.same HJ0.out (OnlyAt.drew (fun _=>False) w2));have HK1:=hid (show KeepsAt R w2 w2.drew from ⟨Nat.le_refl _,fun _ _ _=>rfl⟩);clear h1 cf c1 c2 CI HJ0;generalize w2.drew=w3 at*;gi_wp2
  gi_loopw [4] (fun v wr=>∃(i:Nat) (z:Int) (pre:List (UInt8×Nat×Nat)) (T:Nat→Prop),v= .int .i32 z∧Hid (z=(i:Int)-1∧(∃L,([] ::g.A)[i]?=some L)∧g.out k=pre++g.chain i∧J T pre wr∧(∀k,T k→k<wr.heap.size)∧KeepsAt R w2 wr))
   (fun v _=>(RowKit.intOf v+1).toNat)
  case atStart=>
   obtain⟨hx,eo,hi0,hok⟩:=HX.out;obtain⟨L,hL,-⟩:=hok.node k x.1 x.2 hx;exact⟨x.2,i0,[],_,rfl,hid ⟨hi0,⟨L,hL⟩,eo,HJ1.out,fun _ h=>h.elim,HK1.out⟩⟩
  case round=>
   obtain⟨i,z,pre,T,rfl,HQ⟩:=hrel;clear HJ1 HK1;obtain⟨hz,⟨L,hL⟩,hout,hj,hTlt,hkeep⟩:=HQ.out;obtain⟨ha,c1,c2⟩:=HD.out wr hkeep;cases i with
   | zero=>
     obtain rfl:z= -1:=by omega
     rw[chain_zero,List.append_nil]at hout;have HE:=hid (And.intro hout hj);clear hz hL hout hj hTlt hkeep ha c1 c2;gi_wp2
     go_end0
     exact⟨⟨_,rfl⟩,T,pre,.inl ⟨HE.out.1.symm,HE.out.2⟩⟩
   | succ m=>
     obtain rfl:z=(m:Int):=by omega
     have hok:=HX.out.2.2.2;rw[List.getElem?_cons_succ]at hL;have hm:m<g.arcs.length:=by rw[hok.al];exact(List.getElem?_eq_some_iff.1 hL).1
     obtain⟨⟨c9,t9,n9⟩,hg⟩:∃y,g.arcs[m]?=some y:=⟨_,List.getElem?_eq_getElem hm⟩;obtain⟨M9,L9,e1,e2,e3,e4,e5,e6⟩:=hok.arc m c9 t9 n9 hg;rw[chain_succ hok hg]at hout;obtain⟨A,ca,A',ca',-,h2,-,-,h5⟩:=ha.mem;obtain⟨q',rfl,hc',r0,r1,r2⟩:=h5 _ _ hg;obtain⟨na,hna⟩:∃na,na=g.arcs.length:=⟨_,rfl⟩;rw[←hna]at h2 hc' hm;dsimp only at r0 r1 r2;have m0:(0:Int)≤m:=by omega
     have m1:(m:Int)<na:=by omega
     have hba:Below wr.heap.size wr (wr.alloc (.cells #[.int .u8 c9.toNat,.int .i32 t9,.int .i32 ((n9:Int)-1)] 149)):=(Below.refl _ _).alloc (Nat.le_refl _) _;have hbx:=World.alloc_heap_new wr (.cells #[.int .u8 c9.toNat,.int .i32 t9,.int .i32 ((n9:Int)-1)] 149);have hj9:J (fun k=>T k∨k=wr.heap.size) pre (wr.alloc (.cells #[.int .u8 c9.toNat,.int .i32 t9,.int .i32 ((n9:Int)-1)] 149)):=HJ.out _ _ _ _ _ hj (OnlyAt.of_below hba) (fun k hk=>hk.imp id fun e=>⟨by omega,by rw[World.size_alloc];omega⟩);have hpre:(pre++[(c9,t9,n9)]) <+:g.out k:=⟨g.chain n9,by rw[hout];simp⟩;obtain⟨fn,tmps,assign,body,hy,hR⟩:=HY.out _ pre (c9,t9,n9) _ hpre hj9;simp only[aEnc]at hy;have HRR:=hid hR;have HM:=hid (show (∃L,([] ::g.A)[n9]?=some L)∧n9≤m∧g.out k=(pre++[(c9,t9,n9)])++g.chain n9∧(∀k,T k→k<wr.heap.size)∧KeepsAt R w2 wr∧Below wr.heap.size wr (wr.alloc (.cells #[.int .u8 c9.toNat,.int .i32 t9,.int .i32 ((n9:Int)-1)] 149))∧(wr.alloc (.cells #[.int .u8 c9.toNat,.int .i32 t9,.int .i32 ((n9:Int)-1)] 149)).heap[wr.heap.size]?=some (.cells #[.int .u8 c9.toNat,.int .i32 t9,.int .i32 ((n9:Int)-1)] 149 (0,0))from ⟨⟨L9,e2⟩,e6,by rw[hout];simp,hTlt,hkeep,hba,hbx⟩);have b0:=new_cell wr #[.int .u8 c9.toNat,.int .i32 t9,.int .i32 ((n9:Int)-1)] 149 0;have b1':=new_cell wr #[.int .u8 c9.toNat,.int .i32 t9,.int .i32 ((n9:Int)-1)] 149 1;have b2':=new_cell wr #[.int .u8 c9.toNat,.int .i32 t9,.int .i32 ((n9:Int)-1)] 149 2;clear hz hL hout hj hTlt hkeep ha hg e1 e2 e3 e4 e5 e6 h5 hna hm hbx hba hj9 hpre hR HQ hok;gi_wp2;refine(RoundIn.wideOut (m:=5) HRR.out).mono ?_;rintro e w4 ⟨⟨rfl,hj4⟩|⟨rfl,hj4⟩,hk4⟩
     ·obtain⟨f1,f2,f3,f4,f5,f6,f7⟩:=HM.out;have h9:=(hk4.block _ (Array.getElem?_eq_some_iff.1 f7).1 (.inr (.inr rfl))).trans f7;have z2:w4.cell? ⟨wr.heap.size,2,none⟩=some (.int .i32 ((n9:Int)-1)):=by simp[World.cell?,h9]
      have hk5:KeepsAt R w2 w4:=f5.trans (⟨Nat.le_trans f6.size hk4.size,fun k hk hr=>(hk4.block k (Nat.lt_of_lt_of_le hk f6.size) (.inl hr)).trans (f6.block k hk)⟩);have HE:=hid (show (∃L,([] ::g.A)[n9]?=some L)∧n9≤m∧g.out k=(pre++[(c9,t9,n9)])++g.chain n9∧J (fun k=>T k∨k=wr.heap.size) (pre++[(c9,t9,n9)]) w4∧(∀k,(T k∨k=wr.heap.size)→k<w4.heap.size)∧KeepsAt R w2 w4 from ⟨f1,f2,f3,hj4,fun k hk=>by
       have:=f6.size;have h8:=hk4.size;rw[World.size_alloc]at h8;rcases hk with hk|hk
       ·have:=f4 k hk;omega
       ·omega,hk5⟩)
      clear f1 f2 f3 f4 f5 f6 f7 h9 hj4 hk4 hk5 hy b0 b1' b2' r0 r1 r2 c1 c2 h2 HRR HM;gi_wp2
      go_roundw
      case rel=>exact⟨n9,_,_,_,rfl,hid ⟨rfl,HE.out.1,HE.out.2.2⟩⟩
      case measure=>dsimp only[RowKit.intOf];have:=HE.out.2.1;omega
     ·have HE:=hid hj4;clear hj4 hk4 hy b0 b1' b2' r0 r1 r2 c1 c2 h2 HRR HM;gi_wp2;refine bodyPost_ret (results_none rfl _ _ _) rfl ?_;exact⟨⟨_,rfl⟩,_,_,.inr HE.out⟩
 ·have eo:g.out s=[]:=by
   unfold GA.out;split
   ·rw[List.getElem?_eq_none (by omega)]
   ·rfl
  have eh:g.has s=false:=decide_eq_false hs;rw[eh]at CI;clear hs eh;gi_wp2_with (refine ⟨trivial,?_⟩;gi_at_call 87;refine(callsIn_wide.2 CI.out).mono ?_;rintro e w2 ⟨rfl,rfl⟩);refine bodyPost_ret (results_none rfl _ _ _) rfl ?_;exact⟨⟨_,rfl⟩,_,[],.inl ⟨eo.symm,HJ0.out⟩⟩
end Go.Proofs.YtfehpcbmdancoaaGreatDoor.Dw
namespace Go.Proofs.YtfehpcbmdancoaaGreatDoor.Dw
def tailD (d:Nat)(s:ByteArray):Bs:=s.data.toList.drop d
theorem size_toList (s:ByteArray):s.data.toList.length=s.size:=by rw[Array.length_toList];rfl
theorem tailD_len (d:Nat)(s:ByteArray):(tailD d s).length=s.size-d:=by unfold tailD;rw[List.length_drop,size_toList]
theorem tailD_cons {s:ByteArray}{d:Nat}(h:d<s.size):∃c,s.data.toList[d]?=some c∧tailD d s=c::tailD (d+1) s:=by
 have hl:d<s.data.toList.length:=by rw[size_toList];exact h
 exact⟨_,List.getElem?_eq_getElem hl,List.drop_eq_getElem_cons hl⟩
theorem tailD_end {s:ByteArray}{d:Nat}(h:s.size≤d):tailD d s=[]:=List.drop_eq_nil_of_le (by rw[size_toList];exact h)
def hdOf (rs:List ByteArray)(d i:Nat):UInt8:=(rs.getD i ⟨#[]⟩).data.toList.getD d 0
structure Grp (rs:List ByteArray)(d:Nat):Prop where
 sorted:(rs.map (tailD d)).Pairwise (· < ·)
 long:∀s∈rs,d<s.size
theorem Grp.at_ {rs:List ByteArray}{d:Nat}(h:Grp rs d){i:Nat}(hi:i<rs.length):∃s,rs[i]?=some s∧s.data.toList[d]?=some (hdOf rs d i)∧(rs.map (tailD d))[i]?=some (hdOf rs d i::tailD (d+1) s):=by
 have e:rs[i]?=some rs[i]:=List.getElem?_eq_getElem hi;obtain⟨c,hc,ht⟩:=tailD_cons (h.long _ (List.getElem_mem hi));have eh:hdOf rs d i=c:=by
  unfold hdOf;simp only[List.getD_eq_getElem?_getD,e,Option.getD_some,hc]
 exact⟨_,e,by rw[eh];exact hc,by rw[List.getElem?_map,e,eh];simp[ht]⟩
theorem pw_at {α:Type}{R:α→α→Prop}{l:List α}(h:l.Pairwise R){i j:Nat}{x y:α}(hij:i<j)(hx:l[i]?=some x)(hy:l[j]?=some y):R x y:=by
 obtain⟨h1,e1⟩:=List.getElem?_eq_some_iff.1 hx;obtain⟨h2,e2⟩:=List.getElem?_eq_some_iff.1 hy;rw[←e1,←e2];exact List.pairwise_iff_getElem.1 h i j h1 h2 hij
theorem Grp.mono {rs:List ByteArray}{d:Nat}(h:Grp rs d):∀i j,i≤j→j<rs.length→hdOf rs d i≤hdOf rs d j:=by
 intro i j hij hj;rcases Nat.eq_or_lt_of_le hij with rfl|hlt
 ·exact UInt8.le_refl _
 ·obtain⟨s,_,_,h1⟩:=h.at_ (i:=i) (by omega);obtain⟨t,_,_,h2⟩:=h.at_ hj;have h3:=pw_at h.sorted hlt h1 h2;rcases List.cons_lt_cons_iff.1 h3 with h4|⟨h4,_⟩
  ·exact UInt8.le_of_lt h4
  ·rw[h4];exact UInt8.le_refl _
def Sep (rs:List ByteArray)(d m:Nat):Prop:=∀i j,i<m→m≤j→j<rs.length→hdOf rs d i<hdOf rs d j
theorem Sep.all (rs:List ByteArray)(d:Nat):Sep rs d rs.length:=fun _ j _ h1 h2=>by omega
def grpM (rs:List ByteArray)(_d k m:Nat):List ByteArray:=(rs.take m).drop k
theorem Grp.step {rs:List ByteArray}{d m k:Nat}(h:Grp rs d)(hm:0<m)(hml:m≤rs.length)(hs:Sep rs d m)(hk:k≤m)(h1:∀i,i<k→hdOf rs d i<hdOf rs d (m-1))(h2:∀i,k≤i→i<m→hdOf rs d (m-1)≤hdOf rs d i):
  k<m∧(grpM rs d k m).map (tailD (d+1))≠[]∧(rs.map (tailD d)).drop k=((grpM rs d k m).map (tailD (d+1))).map (hdOf rs d (m-1):: ·)++(rs.map (tailD d)).drop m∧Above (hdOf rs d (m-1)) ((rs.map (tailD d)).drop m)∧
   ((grpM rs d k m).map (tailD (d+1))).Pairwise (· < ·)∧Sep rs d k:=by
 have hkm:k<m:=by
  rcases Nat.eq_or_lt_of_le hk with rfl|h'
  ·exact absurd (h1 (k-1) (by omega)) (UInt8.lt_irrefl _)
  ·exact h'
 have hlen:(grpM rs d k m).length=m-k:=by unfold grpM;rw[List.length_drop,List.length_take];omega
 have heq:∀i,k≤i→i<m→hdOf rs d i=hdOf rs d (m-1):=fun i hi hi'=>UInt8.le_antisymm (h.mono i (m-1) (by omega) (by omega)) (h2 i hi hi');have hmap:(grpM rs d k m).map (tailD d)=((grpM rs d k m).map (tailD (d+1))).map (hdOf rs d (m-1):: ·):=by
  apply List.ext_getElem?;intro j;rw[List.map_map,List.getElem?_map,List.getElem?_map];by_cases hj:j<m-k
  ·obtain⟨s,e1,e2,e3⟩:=h.at_ (i:=k+j) (by omega);have e4:(grpM rs d k m)[j]?=some s:=by unfold grpM;rw[List.getElem?_drop,List.getElem?_take_of_lt (by omega),e1]
   rw[List.getElem?_map,e1]at e3;rw[e4];simp only[Option.map_some,Option.some.injEq,Function.comp]at e3⊢;rw[e3,heq (k+j) (by omega) (by omega)]
  ·rw[List.getElem?_eq_none (by omega)];rfl
 have hsplit:(rs.map (tailD d)).drop k=(grpM rs d k m).map (tailD d)++(rs.map (tailD d)).drop m:=by
  have e:rs.drop k=grpM rs d k m++rs.drop m:=by
   unfold grpM;rw[List.drop_take];have:rs.drop m=(rs.drop k).drop (m-k):=by rw[List.drop_drop,Nat.add_sub_cancel' hk]
   rw[this,List.take_append_drop]
  rw[←List.map_drop,e,List.map_append,List.map_drop]
 refine⟨hkm,?_,by rw[←hmap];exact hsplit,?_,?_,?_⟩
 ·intro e;have:=congrArg List.length e;rw[List.length_map,hlen]at this;simp at this;omega
 ·intro x hx;obtain⟨j,hj⟩:=List.getElem?_of_mem hx;rw[List.getElem?_drop]at hj;have hjl:m+j<rs.length:=by have:=(List.getElem?_eq_some_iff.1 hj).1;rw[List.length_map]at this;exact this
  obtain⟨s,_,_,e3⟩:=h.at_ hjl;rw[hj]at e3;exact⟨_,_,Option.some.inj e3,hs (m-1) (m+j) (by omega) (by omega) hjl⟩
 ·have hp:((grpM rs d k m).map (tailD d)).Pairwise (· < ·):=by
   have hsub:((rs.map (tailD d)).drop k).Pairwise (· < ·):=h.sorted.sublist (List.drop_sublist _ _);rw[hsplit]at hsub;exact(List.pairwise_append.1 hsub).1
  rw[hmap,List.pairwise_map]at hp;exact hp.imp fun {a b} hab=>by
   rcases List.cons_lt_cons_iff.1 hab with h4|⟨_,h4⟩
   ·exact absurd h4 (UInt8.lt_irrefl _)
   ·exact h4
 ·intro i j hi hj hjl;rcases Nat.lt_or_ge j m with hjm|hjm
  ·rw[heq j hj hjm];exact h1 i hi
  ·exact hs i j (by omega) hjm hjl
theorem first_split {ws:List ByteArray}{d:Nat}(h:(ws.map (tailD d)).Pairwise (· < ·))(hl:∀s∈ws,d≤s.size):
  (ws=[]∧Grp ws d)∨(∃s rs,ws=s::rs∧s.size=d∧Grp rs d∧ws.map (tailD d)=fins true++rs.map (tailD d))∨∃s rs,ws=s::rs∧d<s.size∧Grp ws d:=by
 cases ws with
 | nil=>exact .inl ⟨rfl,⟨List.Pairwise.nil,fun _ h=>by cases h⟩⟩
 | cons s rs=>
   right;rw[List.map_cons]at h;obtain⟨h1,h2⟩:=List.pairwise_cons.1 h;have hrest:∀t∈rs,d<t.size:=fun t ht=>by
    have h3:=h1 _ (List.mem_map.2 ⟨t,ht,rfl⟩);have h4:=tailD_len d t;rcases Nat.lt_or_ge d t.size with h5|h5
    ·exact h5
    ·rw[tailD_end h5]at h3;exact absurd h3 (List.not_lt_nil _)
   rcases Nat.eq_or_lt_of_le (hl s (List.mem_cons_self ..))with e|e
   ·exact .inl ⟨s,rs,rfl,e.symm,⟨h2,hrest⟩,by rw[List.map_cons,tailD_end (Nat.le_of_eq e.symm)];rfl⟩
   ·refine .inr ⟨s,rs,rfl,e,⟨by rw[List.map_cons];exact h,fun t ht=>?_⟩⟩;rcases List.mem_cons.1 ht with rfl|ht
    ·exact e
    ·exact hrest t ht
end Go.Proofs.YtfehpcbmdancoaaGreatDoor.Dw
namespace Go.Proofs.YtfehpcbmdancoaaGreatDoor.Dw
open Go Go.RowKit Go.Lib Go.Shelf
theorem byte_at {s:ByteArray}{k:Nat}(h:k<s.size):∃c,s.data.toList[k]?=some c∧s[k]'h=c:=by
 have h1:s.data.toList[k]?=s.data[k]?:=Array.getElem?_toList;have h2:s.data[k]?=some (s.data[k]'h):=Array.getElem?_eq_getElem h;exact⟨_,h1.trans h2,rfl⟩
structure SrAt (w:World)(bw bd bb:Nat)(A:Option Addr)(m cap d:Nat)(by_:UInt8)(ws:List ByteArray):Prop where
 words:w.cell? ⟨bw,0,none⟩=some (.slice A m cap)
 dep:w.cell? ⟨bd,0,none⟩=some (.int .i64 d)
 byte:w.cell? ⟨bb,0,none⟩=some (.int .u8 by_.toNat)
 text:∀(i:Nat) s,i<m→ws[i]?=some s→∃q off,A=some ⟨q,off,none⟩∧m≤cap∧w.cell? ⟨q,off+i,none⟩=some (.string s)
theorem SrAt.keep {w w':World}{bw bd bb:Nat}{A:Option Addr}{m cap d:Nat}{by_:UInt8}{ws:List ByteArray}(h:SrAt w bw bd bb A m cap d by_ ws)(hb:Below w.heap.size w w'):SrAt w' bw bd bb A m cap d by_ ws:=by
 have key:∀p v,w.cell? p=some v→w'.cell? p=some v:=fun p v hp=>(cell_old hb (World.block_lt_of_cell? _ _ hp)).trans hp;refine⟨key _ _ h.words,key _ _ h.dep,key _ _ h.byte,fun i s hi hs=>?_⟩;obtain⟨q,off,h1,h2,h3⟩:=h.text i s hi hs;exact⟨q,off,h1,h2,key _ _ h3⟩
theorem has_any15 (w:World)(bw bd bb:Nat)(A:Option Addr)(m cap d:Nat)(by_:UInt8)(ws:List ByteArray)(h:SrAt w bw bd bb A m cap d by_ ws)(i:Nat)(s:ByteArray)(c:UInt8)(hi:i<m)(hs:ws[i]?=some s)(hc:s.data.toList[d]?=some c):
  Calls Tryz.prog 177 #[.int .i64 i,.pointer (some ⟨bw,0,none⟩),.pointer (some ⟨bd,0,none⟩),.pointer (some ⟨bb,0,none⟩)] w fun e w'=>e= .returned (.bool (decide (by_≤c)))∧Below w.heap.size w w':=by
 obtain⟨q,off,rfl,hmc,hcell⟩:=h.text i s hi hs;obtain⟨h1,h2,h3,-⟩:=h;have hd:d<s.size:=by have:=(List.getElem?_eq_some_iff.1 hc).1;rw[Array.length_toList]at this;exact this
 obtain⟨c',hc',hget⟩:=byte_at hd;rw[hc]at hc';cases hc';have HE:=hid (show decide (by_.toNat≤c.toNat)=decide (by_≤c)from decide_eq_decide.2 (by rw[UInt8.le_iff_toNat_le]));have i0:(0:Int)≤i:=by omega
 have i1:(i:Int)<m:=by omega
 have d0:(0:Int)≤d:=by omega
 have d1:(d:Int)<s.size:=by omega
 clear hs hc hi;go_enter Tryz.func177,Tryz.ntmps177;go_wp2_with fail;go_quiet (fail);go_wp2_with fail;go_ret;exact⟨congrArg (fun b=>Ending.returned (.bool b)) HE.out,(Below.refl _ w).trans ⟨rfl,rfl,rfl,Nat.le_refl _,fun _ _=>rfl⟩⟩
theorem search_any (w:World)(bw bd bb:Nat)(A:Option Addr)(m cap d:Nat)(by_:UInt8)(ws:List ByteArray)(h:SrAt w bw bd bb A m cap d by_ ws)(hd:Nat→UInt8)(hm:m≤1000000000)(hh:∀i,i<m→∃s,ws[i]?=some s∧s.data.toList[d]?=some (hd i))(mono:∀i j,i≤j→j<m→hd i≤hd j):
  Calls Tryz.prog 176 #[.int .i64 m,.func (.func 177) #[] #[.pointer (some ⟨bw,0,none⟩),.pointer (some ⟨bd,0,none⟩),.pointer (some ⟨bb,0,none⟩)]] w fun e w'=>∃k:Nat,e= .returned (.int .i64 k)∧(k≤m∧(∀i,i<k→hd i<by_)∧∀i,k≤i→i<m→by_≤hd i)∧Below w.heap.size w w':=by
 have HS:=hid h;have HH:=hid (And.intro hh mono);clear h hh mono;go_enter Tryz.func176,Tryz.ntmps176;go_wp2_with fail;go_loopg [5,6] m (fun gh x y wr=>∃a b:Nat,x= .int .i64 a∧y= .int .i64 b∧b-a≤gh∧a≤b∧b≤m∧Hid (Below w.heap.size w wr∧(∀i,i<a→¬by_≤hd i)∧∀i,b≤i→i<m→by_≤hd i))
 case atStart=>exact⟨0,m,rfl,rfl,by omega,by omega,Nat.le_refl _,hid ⟨Below.refl _ _,fun i hi=>absurd hi (Nat.not_lt_zero _),fun i h1 h2=>by omega⟩⟩
 case round=>
  obtain⟨a,b,rfl,rfl,hg,hab,hbm,HP⟩:=hrel;by_cases hlt:a<b
  ·have h1:(a:Int)<b:=by omega
   have h2:IntKind.i64.wrap ((a:Int)+b)=(a:Int)+b:=IntWalk.i64_in _ (by omega);obtain⟨q,hq⟩:∃q,q=(a+b)/2:=⟨_,rfl⟩;have hq2:((a:Int)+b)/2=(q:Int):=by omega
   have haq:a≤q∧q<b:=by omega
   obtain⟨s,hs,hc⟩:=HH.out.1 q (by omega);have C1:=hid (has_any15 wr bw bd bb A m cap d by_ ws (HS.out.keep HP.out.1) q s (hd q) (by omega) hs hc);have HQ:=hid haq;clear hq hs hc haq;by_cases hge:by_≤hd q
   ·have C2:=hid (decide_eq_true hge▸C1.out);have HGE:=hid hge;clear hge C1;go_wp2_with fail;refine C2.out.mono ?_;rintro e w2 ⟨rfl,hb⟩;have HP2:=hid (show Below w.heap.size w w2∧(∀i,i<a→¬by_≤hd i)∧∀i,q≤i→i<m→by_≤hd i from ⟨HP.out.1.trans (hb.mono HP.out.1.size),HP.out.2.1,fun i h1 h2=>UInt8.le_trans HGE.out (HH.out.2 q i h1 h2)⟩);have g1:q-a<gk:=by have:=HQ.out;omega
    have g2:a≤q∧q≤m:=by have:=HQ.out;omega
    clear hb C2 HP;go_wp2_with fail;go_roundg (q-a)
    case measure=>exact g1
    case rel=>exact⟨a,q,rfl,rfl,by omega,g2.1,g2.2,HP2⟩
   ·have C2:=hid (decide_eq_false hge▸C1.out);have HGE:=hid hge;clear hge C1;go_wp2_with fail;refine C2.out.mono ?_;rintro e w2 ⟨rfl,hb⟩;have HP2:=hid (show Below w.heap.size w w2∧(∀i,i<q+1→¬by_≤hd i)∧∀i,b≤i→i<m→by_≤hd i from ⟨HP.out.1.trans (hb.mono HP.out.1.size),fun i hi hle=>HGE.out (UInt8.le_trans hle (HH.out.2 i q (by omega) (by have:=HQ.out;omega))),HP.out.2.2⟩);have g1:b-(q+1)<gk:=by have:=HQ.out;omega
    have g2:q+1≤b:=by have:=HQ.out;omega
    clear hb C2 HP;go_wp2_with fail;go_roundg (b-(q+1))
    case measure=>exact g1
    case rel=>exact⟨q+1,b,by go_num,rfl,Nat.le_refl _,g2,hbm,HP2⟩
  ·obtain rfl:a=b:=by omega
   have h1:¬(a:Int)<a:=by omega
   clear hlt hg hab;go_wp2_with fail;go_ret;exact⟨a,rfl,⟨hbm,fun i hi=>UInt8.not_le.1 (HP.out.2.1 i hi),HP.out.2.2⟩,HP.out.1⟩
end Go.Proofs.YtfehpcbmdancoaaGreatDoor.Dw
namespace Go.Proofs.YtfehpcbmdancoaaGreatDoor.Dw
theorem N_node {g:GA}(h:g.Ok){t:Nat}{V:List Bs}(ht:g.N[t]?=some V):∃f i L,g.nodes[t]?=some (f,i)∧([] ::g.A)[i]?=some L∧V=fins f++L:=by
 have hl:t<g.nodes.length:=by rw[h.nl];exact(List.getElem?_eq_some_iff.1 ht).1
 have hg:g.nodes[t]?=some (g.nodes[t]):=List.getElem?_eq_getElem hl;obtain⟨L,h1,h2⟩:=h.node t _ _ hg;rw[ht]at h2;exact⟨_,_,L,hg,h1,Option.some.inj h2⟩
theorem out_eq {g:GA}{t:Nat}{f:Bool}{i:Nat}(hg:g.nodes[t]?=some (f,i)):g.out (t:Int)=g.chain i:=by
 unfold GA.out;rw[if_pos (by omega),Int.toNat_natCast,hg]
theorem step_ok {g:GA}(h:g.Ok){t:Nat}{V:List Bs}(ht:g.N[t]?=some V)(c:UInt8):match goes (g.out (t:Int)) c with
  | some t'=>g.N[t']?=some (tails c V)∧tails c V≠[]
  | none=>tails c V=[]:=by
 obtain⟨f,i,L,h1,h2,rfl⟩:=N_node h ht;obtain⟨e,hc⟩:=chain_ok h i L h2;have hg:=goes_ok hc c;rw[←e]at hg;rw[out_eq h1,tails_app,tails_fins,List.nil_append];exact hg
theorem fin_ok {g:GA}(h:g.Ok){t:Nat}{V:List Bs}(ht:g.N[t]?=some V):g.fin (t:Int)=decide ([]∈V):=by
 obtain⟨f,i,L,h1,h2,rfl⟩:=N_node h ht;have hn:=h.ne h2;unfold GA.fin;rw[if_pos (by omega),Int.toNat_natCast,h1];cases f with
 | true=>rw[decide_eq_true];exact List.mem_append_left _ (by simp[fins])
 | false=>
   rw[decide_eq_false];intro hm;simp[fins]at hm;exact hn [] hm rfl
theorem words_out {g:GA}(h:g.Ok){t:Nat}{V:List Bs}(ht:g.N[t]?=some V):V=fins (g.fin (t:Int))++leads g.N (g.out (t:Int))∧ChainOk g.N (g.out (t:Int)):=by
 obtain⟨f,i,L,h1,h2,rfl⟩:=N_node h ht;obtain⟨e,hc⟩:=chain_ok h i L h2;have ef:g.fin (t:Int)=f:=by unfold GA.fin;rw[if_pos (by omega),Int.toNat_natCast,h1]
 rw[out_eq h1,ef,←e];exact⟨rfl,hc⟩
end Go.Proofs.YtfehpcbmdancoaaGreatDoor.Dw
