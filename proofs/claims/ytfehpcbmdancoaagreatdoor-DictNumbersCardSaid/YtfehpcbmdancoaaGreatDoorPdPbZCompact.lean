/- slices.CompactFunc of entries by contract; rows of entries that the sort turns. -/
import Derived.Shelf.SlSortCmp.WholeK
import Derived.Shelf.SlSortCmp.NoneTotal
import Derived.Laws.OwnMore
import Derived.IntWalk
import Derived.Deep.AppendLies
import Derived.Deep.RegionLaw
import Derived.Test.YtfehpcbmdancoaaGreatDoorPdPbLayg
import Derived.Test.YtfehpcbmdancoaaGreatDoorPdPbYState
import Derived.Test.YtfehpcbmdancoaaGreatDoorPdPbZOnce
set_option maxRecDepth 100000
set_option maxHeartbeats 4000000
namespace Go.Proofs.YtfehpcbmdancoaaGreatDoor
open Go Go.RowKit Go.Lib Go.Shelf Go.Sort
attribute [local go_sem] Oper.semAt_some alloc_set
structure OE where
 word:ByteArray
 A:Option Addr
 n:Nat
 cap:Nat
 fl:List Int
def OE.en (x:OE):En:=⟨x.word,x.fl⟩
def OA (w:World)(blk:Nat):Type:={ x:OE // ∀W,OnlyAt (· =blk) w W→IntsAt W (.slice x.A x.n x.cap) x.fl }
instance (w:World)(blk:Nat):Inhabited (OA w blk):=⟨⟨⟨⟨#[]⟩,none,0,0,[]⟩,fun _ _=> .inl ⟨rfl,none,0,rfl⟩⟩⟩
def oenc {w:World}{blk:Nat}(x:OA w blk):List Value:=[.string x.1.word,.slice x.1.A x.1.n x.1.cap]
theorem oenc_len {w:World}{blk:Nat}(x:OA w blk):(oenc x).length=2:=rfl
theorem oenc_one {w:World}{blk:Nat}(x:OA w blk):∀v∈oenc x,v.oneCell'=true:=by
 intro v hv;simp only[oenc,List.mem_cons,List.not_mem_nil,or_false]at hv;rcases hv with rfl|rfl<;>rfl
theorem only_grow {T:Nat→Prop}(w:World)(q:Nat)(os:Array Obj):OnlyAt T w (grow (w.drewN q) os):=
 ⟨rfl,rfl,rfl,by simp[grow],fun k hk _=>by show (w.heap++os)[k]?=_;rw[Array.getElem?_append_left hk]⟩
theorem only_putRow {α:Type}[Inhabited α](enc:α→Value)(w:World)(blk off:Nat)(d:Array α):OnlyAt (· =blk) w (putRow enc w blk off d):=by
 refine⟨rfl,rfl,rfl,by simp[putRow,mapBlock],fun k hk hn=>?_⟩;simp[putRow,mapBlock,Array.getElem?_modify];intro e;exact absurd e.symm hn
theorem only_setCells (blk:Nat):∀(vs:List Value) (o:Nat) (w:World),OnlyAt (· =blk) w (w.setCells blk o vs)
 | [],_,_=>OnlyAt.refl _ _
 | v::vs,o,w=>(OnlyAt.setCell (T:=(· =blk)) w ⟨blk,o,none⟩ v rfl).trans (only_setCells blk vs (o+1) _)
theorem only_sort {w0 w:World}{blk:Nat}(enc:OA w0 blk→List Value)(n off:Nat)(dk:Array (OA w0 blk))(os:Array Obj)(h:OnlyAt (· =blk) w0 w):OnlyAt (· =blk) w0 (sortWorldK enc 2 w blk off n dk os):=by
 unfold sortWorldK putRowK;have h1:OnlyAt (· =blk) w (putRow id (Sort.ahead w n) blk off (flatK enc 2 dk)):=OnlyAt.trans (show OnlyAt (· =blk) w (Sort.ahead w n)from ⟨rfl,rfl,rfl,Nat.le_refl _,fun _ _ _=>rfl⟩) (only_putRow id _ _ _ _);exact(h.trans h1).trans (only_grow _ 0 os)
theorem hold_grow {w0 W:World}{blk off:Nat}{dk:Array (OA w0 blk)}(h:HoldsK oenc 2 W blk off dk)(hb:blk<W.heap.size)(q:Nat)(os:Array Obj):HoldsK oenc 2 (grow (W.drewN q) os) blk off dk:=
 holdsK_grow oenc 2 (W.drewN q) os blk off dk hb h
theorem hold_cells {w0 W:World}{blk off:Nat}{dk:Array (OA w0 blk)}(h:HoldsK oenc 2 W blk off dk){i:Nat}(hi:i<dk.size):
  (W.cell? ⟨blk,off+i*2,none⟩=some (.string dk[i]!.1.word)∧W.frozen? ⟨blk,off+i*2,none⟩=false)∧W.cell? ⟨blk,off+i*2+1,none⟩=some (.slice dk[i]!.1.A dk[i]!.1.n dk[i]!.1.cap)∧W.frozen? ⟨blk,off+i*2+1,none⟩=false:=
 ⟨h.cell hi (show 0<2 by omega),h.cell hi (show 1<2 by omega)⟩
theorem hold_put {w0 W:World}{blk off:Nat}{dk:Array (OA w0 blk)}(h:HoldsK oenc 2 W blk off dk){k:Nat}(hk:k<dk.size)(x:OA w0 blk):
  HoldsK oenc 2 ((W.setCell ⟨blk,off+k*2,none⟩ (.string x.1.word)).setCell ⟨blk,off+k*2+1,none⟩ (.slice x.1.A x.1.n x.1.cap)) blk off (dk.setIfInBounds k x):=by
 have h1:=holds_setCells_c (s:=k*2) (vs:=oenc x) h (by rw[size_flatK,oenc_len];omega);have e:setMany (flatK oenc 2 dk) (k*2) (oenc x)=flatK oenc 2 (dk.setIfInBounds k x):=by
  refine ext_get! (by simp) fun t ht=>?_;have ht':t<dk.size*2:=by simpa using ht
  rw[get_setMany _ _ _ _ (by rw[size_flatK];exact ht'),get_flatK _ _ _ _ ht',get_flatK _ _ _ _ (by simpa using ht'),oenc_len];by_cases hb:t/2=k
  ·rw[if_pos ((blk_iff 2 k t (by omega)).2 hb),hb,getElem!_set_same _ _ _ hk];congr 1;omega
  ·rw[if_neg (fun hh=>hb ((blk_iff 2 k t (by omega)).1 hh))];have:(dk.setIfInBounds k x)[t/2]! =dk[t/2]! :=by
    have hl:t/2<dk.size:=by omega
    rw[getElem!_pos _ (t/2) (by simpa using hl),getElem!_pos dk (t/2) hl,Array.getElem_setIfInBounds,if_neg (fun hh=>hb hh.symm)]
   rw[this]
 rw[e]at h1;exact h1
def Same2 {w:World}{blk:Nat}(x y:OA w blk):Prop:=x.1.word=y.1.word∧x.1.fl=y.1.fl
theorem same2_iff {w:World}{blk:Nat}(x y:OA w blk):ordC x.1.en y.1.en=0↔Same2 x y:=ordC_zero _ _
structure CI {w:World}{blk:Nat}(d:Array (OA w blk))(m k:Nat)(dk:Array (OA w blk)):Prop where
 size:dk.size=d.size
 lt:k<m
 le:m≤d.size
 high:∀j,k≤j→dk[j]! =d[j]!
 kept:∀j,j<m→∃i,i<k∧Same2 dk[i]! d[j]!
 from_:∀i,i<k→∃j,j<d.size∧dk[i]! =d[j]!
theorem CI.start {w:World}{blk:Nat}{d:Array (OA w blk)}{k:Nat}(h1:1≤k)(hk:k<d.size)(h:Same2 d[k]! d[k-1]!):CI d (k+1) k d:=by
 refine⟨rfl,by omega,by omega,fun _ _=>rfl,fun j hj=>?_,fun i hi=>⟨i,by omega,rfl⟩⟩;by_cases e:j=k
 ·subst e;exact⟨j-1,by omega,h.1.symm,h.2.symm⟩
 ·exact⟨j,by omega,rfl,rfl⟩
theorem CI.skip {w:World}{blk:Nat}{d:Array (OA w blk)}{m k:Nat}{dk:Array (OA w blk)}(h:CI d m k dk)(hm:m<d.size)(hs:Same2 d[m]! d[m-1]!):CI d (m+1) k dk:=by
 refine⟨h.size,by have:=h.lt;omega,by omega,h.high,fun j hj=>?_,h.from_⟩;by_cases e:j=m
 ·subst e;obtain⟨i,hi,hs'⟩:=h.kept (j-1) (by have:=h.lt;omega);exact⟨i,hi,hs'.1.trans hs.1.symm,hs'.2.trans hs.2.symm⟩
 ·exact h.kept j (by omega)
theorem set_get {α:Type}[Inhabited α](d:Array α)(k:Nat)(x:α)(hk:k<d.size)(i:Nat):(d.setIfInBounds k x)[i]! =if i=k then x else d[i]! :=by
 by_cases e:i=k
 ·subst e;rw[if_pos rfl,getElem!_set_same _ _ _ hk]
 ·rw[if_neg e];by_cases hl:i<d.size
  ·rw[getElem!_pos _ i (by simpa using hl),getElem!_pos d i hl,Array.getElem_setIfInBounds,if_neg (fun hh=>e hh.symm)]
  ·simp[hl]
theorem CI.keep {w:World}{blk:Nat}{d:Array (OA w blk)}{m k:Nat}{dk:Array (OA w blk)}(h:CI d m k dk)(hm:m<d.size):CI d (m+1) (k+1) (dk.setIfInBounds k d[m]!):=by
 have hlt:=h.lt;have hk:k<dk.size:=by rw[h.size];omega
 refine⟨by rw[Array.size_setIfInBounds,h.size],by omega,by omega,fun j hj=>?_,fun j hj=>?_,fun i hi=>?_⟩
 ·rw[set_get _ _ _ hk,if_neg (by omega)];exact h.high j (by omega)
 ·by_cases e:j=m
  ·subst e;exact⟨k,by omega,by rw[set_get _ _ _ hk,if_pos rfl];exact⟨rfl,rfl⟩⟩
  ·obtain⟨i,hi,hs⟩:=h.kept j (by omega);exact⟨i,by omega,by rw[set_get _ _ _ hk,if_neg (by omega)];exact hs⟩
 ·rw[set_get _ _ _ hk];by_cases e:i=k
  ·rw[if_pos e];exact⟨m,hm,rfl⟩
  ·rw[if_neg e];exact h.from_ i (by omega)
theorem run_clear2 {P:Program}(w:World)(t e ty:TypeId)(z1 z2:Value)(ht:P.underlying t=some (.slice e))(hv:∀w,(zeroValue e).run P w= .ok (.agg #[z1,z2]) w)(h1:z1.oneCell'=true)(h2:z2.oneCell'=true)(hz:(Value.agg #[z1,z2]).cells=#[z1,z2])(b o n c:Nat)(hn:0<n)
  (hc:∀j,j<n*2→(w.cell? ⟨b,o+j,none⟩).isSome=true) (hf:∀j,j<n*2→w.frozen? ⟨b,o+j,none⟩=false):
  (Builtin.clear_ #[t] ty #[.slice (some ⟨b,o,none⟩) n c]).run P w= .ok (.tuple #[]) (w.setCells b o (Builtin.zeroCells #[z1,z2] n).toList):=by
 have hl:(Builtin.zeroCells #[z1,z2] n).toList.length=n*2:=by simp[Builtin.zeroCells]
 have hst:=run_storeCells_cells (P:=P) b o (Builtin.zeroCells #[z1,z2] n).toList 0 w (by rw[hl];simpa using hc) (by rw[hl];simpa using hf) (by
  intro v hv';simp only[Builtin.zeroCells,Array.toList_map,List.mem_map]at hv';obtain⟨i,_,rfl⟩:=hv';have:i%2=0∨i%2=1:=by omega
  rcases this with e|e<;>simp[e,h1,h2])
 simp only[Nat.add_zero]at hst;obtain⟨m,rfl⟩:∃m,n=m+1:=⟨n-1,by omega⟩;simp[Builtin.clear_,run_underlying ht,hv,hz,hst]
structure CF (w0:World)(blk off:Nat)(d dk:Array (OA w0 blk))(W:World):Prop where
 only:OnlyAt (· =blk) w0 W
 hold:HoldsK oenc 2 W blk off dk
 size:dk.size=d.size
theorem CF.grown {w0:World}{blk off:Nat}{d dk:Array (OA w0 blk)}{W:World}(h:CF w0 blk off d dk W)(hb:blk<w0.heap.size)(q:Nat)(os:Array Obj):CF w0 blk off d dk (grow (W.drewN q) os):=
 ⟨h.only.trans (only_grow _ _ _),hold_grow h.hold (Nat.lt_of_lt_of_le hb h.only.size) q os,h.size⟩
theorem CF.drew {w0:World}{blk off:Nat}{d dk:Array (OA w0 blk)}{W:World}(h:CF w0 blk off d dk W):CF w0 blk off d dk W.drew:=
 ⟨h.only.trans (OnlyAt.drew _ _),h.hold,h.size⟩
theorem CF.cells {w0:World}{blk off:Nat}{d dk:Array (OA w0 blk)}{W:World}(h:CF w0 blk off d dk W){i:Nat}(hi:i<d.size):
  (W.cell? ⟨blk,off+i*2,none⟩=some (.string dk[i]!.1.word)∧W.frozen? ⟨blk,off+i*2,none⟩=false)∧W.cell? ⟨blk,off+i*2+1,none⟩=some (.slice dk[i]!.1.A dk[i]!.1.n dk[i]!.1.cap)∧W.frozen? ⟨blk,off+i*2+1,none⟩=false:=
 hold_cells h.hold (by rw[h.size];exact hi)
theorem CF.eq {w0:World}{blk off:Nat}{d dk:Array (OA w0 blk)}{W:World}(h:CF w0 blk off d dk W)(hb:blk<w0.heap.size)(ob:Nat)(hob:w0.cell? ⟨ob,0,none⟩=some (.func (.func 100) #[] #[]))(hne:ob≠blk)(x y:OA w0 blk):
  Calls Tryz.prog 106 #[.agg #[.string x.1.word,.slice x.1.A x.1.n x.1.cap],.agg #[.string y.1.word,.slice y.1.A y.1.n y.1.cap],.pointer (some ⟨ob,0,none⟩)] W fun e w'=>e= .returned (.bool (decide (ordC x.1.en y.1.en=0)))∧CF w0 blk off d dk w':=by
 have hlt:=World.block_lt_of_cell? _ _ hob;have h1:W.cell? ⟨ob,0,none⟩=some (.func (.func 100) #[] #[]):=by
  unfold World.cell? at hob⊢;rw[h.only.block ob hlt hne];exact hob
 refine(eq_any W ob h1 x.1.en y.1.en x.1.A y.1.A x.1.n y.1.n x.1.cap y.1.cap (x.2 W h.only) (y.2 W h.only)).mono ?_;rintro e w' ⟨he,q,os,rfl⟩;exact⟨he,h.grown hb q os⟩
theorem compact_any (w0:World)(blk off ob cap:Nat)(d:Array (OA w0 blk))(hb:blk<w0.heap.size)(hob:w0.cell? ⟨ob,0,none⟩=some (.func (.func 100) #[] #[]))(hne:ob≠blk)(hsz:d.size≤cap)(hcap:cap≤maxLen)(w:World)(hw:CF w0 blk off d d w):
  Calls Tryz.prog 105 #[.slice (some ⟨blk,off,none⟩) d.size cap,.func (.func 106) #[] #[.pointer (some ⟨ob,0,none⟩)]] w fun e w'=>
   ∃(k:Nat) (dk:Array (OA w0 blk)),e= .returned (.slice (some ⟨blk,off,none⟩) k cap)∧k≤d.size∧OnlyAt (· =blk) w0 w'∧(∀i,i<k→w'.cell? ⟨blk,off+i*2,none⟩=some (.string dk[i]!.1.word)∧w'.cell? ⟨blk,off+i*2+1,none⟩=some (.slice dk[i]!.1.A dk[i]!.1.n dk[i]!.1.cap))∧
    (∀i,i<k→∃j,j<d.size∧dk[i]! =d[j]!)∧∀j,j<d.size→∃i,i<k∧Same2 dk[i]! d[j]! :=by
 obtain⟨n,hn⟩:∃n,n=d.size:=⟨_,rfl⟩;rw[←hn]at hsz⊢;have hnm:n≤maxLen:=by omega
 unfold maxLen at hnm;have HN:=hid hn;have HW:=hid hw;have HE:=hid (fun (dk:Array (OA w0 blk)) (W:World) (h:CF w0 blk off d dk W) (x y:OA w0 blk)=>h.eq hb ob hob hne x y);have HB:=hid hb;have HC:=hid hcap;clear hob hne hw hb hcap hn;have same:Hid (∀W,CF w0 blk off d d W→∃(k:Nat) (dk:Array (OA w0 blk)),Ending.returned (Value.slice (some ⟨blk,off,none⟩) n cap)= .returned (.slice (some ⟨blk,off,none⟩) k cap)∧k≤n∧OnlyAt (· =blk) w0 W∧(∀i,i<k→W.cell? ⟨blk,off+i*2,none⟩=some (.string dk[i]!.1.word)∧W.cell? ⟨blk,off+i*2+1,none⟩=some (.slice dk[i]!.1.A dk[i]!.1.n dk[i]!.1.cap))∧
   (∀i,i<k→∃j,j<n∧dk[i]! =d[j]!)∧∀j,j<n→∃i,i<k∧Same2 dk[i]! d[j]!):=
  hid fun W h=>⟨n,d,rfl,Nat.le_refl _,h.only,fun i hi=>⟨(h.cells (by rw[←HN.out];exact hi)).1.1,(h.cells (by rw[←HN.out];exact hi)).2.1⟩,fun i hi=>⟨i,hi,rfl⟩,fun j hj=>⟨j,hj,rfl,rfl⟩⟩
 by_cases h2:n<2
 ·go_enter Tryz.func105,Tryz.ntmps105;go_wp2_with fail;go_ret;exact same.out _ HW.out
 go_enter Tryz.func105,Tryz.ntmps105;go_wp2_with fail;go_loopg [5] n (fun g s wr=>∃k:Nat,1≤k∧k≤n∧n-k≤g∧s= .int .i64 k∧Hid (CF w0 blk off d d wr))
 case atStart=>exact⟨1,by omega,by omega,by omega,rfl,HW⟩
 case round=>
  obtain⟨k,hk1,hk,hg,rfl,H⟩:=hrel;by_cases hlt:k<n
  ·obtain⟨⟨c1,f1⟩,c1',f1'⟩:=H.out.cells (show k<d.size by rw[←HN.out];exact hlt);obtain⟨⟨c0,f0⟩,c0',f0'⟩:=H.out.cells (show k-1<d.size by rw[←HN.out];omega);have CE:=hid (HE.out d wr.drew H.out.drew d[k]! d[k-1]!);have hS:=same2_iff d[k]! d[k-1]!;have HS:=hid hS;clear hS;generalize d[k]!.1.word=X1 at*;generalize d[k]!.1.A=X2 at*;generalize d[k]!.1.n=X3 at*;generalize d[k]!.1.cap=X4 at*;generalize d[k-1]!.1.word=Y1 at*;generalize d[k-1]!.1.A=Y2 at*;generalize d[k-1]!.1.n=Y3 at*;generalize d[k-1]!.1.cap=Y4 at*;have w1:IntKind.i64.wrap ((k:Int)-1)=(k:Int)-1:=IntWalk.i64_in _ (by omega);have w2:(0:Int)≤(k:Int)-1:=by omega
   have w3:((k:Int)-1).toNat=k-1:=by omega
   have w4:(k:Int)-1<(n:Int):=by omega
   have w5:(k:Int)<(n:Int):=by omega
   have w6:(1:Int)≤(k:Int):=by omega
   go_upto_region 6 with fail
   go_still_tail 10,(by kernel_rfl)
   change wpList _ _ _ _ _ wr.drew;clear c1 f1 c1' f1' c0 f0 c0' f0' w1 w2 w3 w4 w5 w6;generalize wr.drew=wd at*;by_cases hs:Same2 d[k]! d[k-1]!
   ·have hz:=HS.out.2 hs;rw[hz]at CE;go_wp2_with (go_at_call 106;refine(CE.out).mono ?_;rintro e W2 ⟨rfl,h2⟩;have H2:=hid h2;clear h2 CE);have HI:=hid (CI.start hk1 (show k<d.size by rw[←HN.out];exact hlt) hs);clear hz hs HS;go_loopg [5,7] n (fun g s5 s7 wr=>∃(kk k2:Nat) (dk:Array (OA w0 blk)),s5= .int .i64 kk∧s7= .int .i64 k2∧1≤k2∧k+k2≤n∧n-(k+k2)≤g∧Hid (CF w0 blk off d dk wr∧CI d (k+k2) kk dk))
    case atStart=>exact⟨k,1,d,rfl,rfl,Nat.le_refl _,by omega,by omega,hid ⟨H2.out,HI.out⟩⟩
    case round=>
     obtain⟨kk,k2,dk,rfl,rfl,h1,hle,hg2,HJ⟩:=hrel;have hsd:=HJ.out.1.size;have hnd:=HN.out;have HSD:=hid (And.intro hsd hnd);have hkk:=HJ.out.2.lt;by_cases hlt2:k+k2<n
     ·have hm:k+k2<d.size:=by rw[←HN.out];exact hlt2
      obtain⟨⟨c1,f1⟩,c1',f1'⟩:=HJ.out.1.cells hm;obtain⟨⟨c0,f0⟩,c0',f0'⟩:=HJ.out.1.cells (show k+k2-1<d.size by omega);rw[HJ.out.2.high (k+k2) (by omega),show off+(k+k2)*2=off+k*2+k2*2 by omega]at c1 c1';rw[HJ.out.2.high (k+k2-1) (by omega),show off+(k+k2-1)*2=off+k*2+(k2-1)*2 by omega]at c0 c0';have CE:=hid (HE.out dk wr.drew HJ.out.1.drew d[k+k2]! d[k+k2-1]!);have HS:=hid (same2_iff d[k+k2]! d[k+k2-1]!);have HU:=hid (show∀W,CF w0 blk off d dk W→(W.cell? ⟨blk,off+k*2+k2*2,none⟩=some (.string d[k+k2]!.1.word)∧W.cell? ⟨blk,off+k*2+k2*2+1,none⟩=some (.slice d[k+k2]!.1.A d[k+k2]!.1.n d[k+k2]!.1.cap))∧
        (∃o1 o2,W.cell? ⟨blk,off+kk*2,none⟩=some o1∧W.frozen? ⟨blk,off+kk*2,none⟩=false∧W.cell? ⟨blk,off+kk*2+1,none⟩=some o2∧W.frozen? ⟨blk,off+kk*2+1,none⟩=false)∧
        CF w0 blk off d (dk.setIfInBounds kk d[k+k2]!) ((W.setCell ⟨blk,off+kk*2,none⟩ (.string d[k+k2]!.1.word)).setCell ⟨blk,off+kk*2+1,none⟩ (.slice d[k+k2]!.1.A d[k+k2]!.1.n d[k+k2]!.1.cap))from fun W hW=>by
       obtain⟨⟨x1,_⟩,x2,_⟩:=hW.cells hm;obtain⟨⟨y1,g1⟩,y2,g2⟩:=hW.cells (show kk<d.size by omega);rw[HJ.out.2.high (k+k2) (by omega),show off+(k+k2)*2=off+k*2+k2*2 by omega]at x1 x2;refine⟨⟨x1,x2⟩,⟨_,_,y1,g1,y2,g2⟩,(hW.only.trans (OnlyAt.setCell _ _ _ rfl)).trans (OnlyAt.setCell _ _ _ rfl),hold_put hW.hold (by rw[hW.size];omega) _,by rw[Array.size_setIfInBounds,hW.size]⟩)
      clear hsd hnd;by_cases hs:Same2 d[k+k2]! d[k+k2-1]!
      ·have hz:=HS.out.2 hs;have HI:=hid (HJ.out.2.skip hm hs);rw[hz]at CE;clear hz hs HS HU;generalize d[k+k2]!.1.word=X1 at*;generalize d[k+k2]!.1.A=X2 at*;generalize d[k+k2]!.1.n=X3 at*;generalize d[k+k2]!.1.cap=X4 at*;generalize d[k+k2-1]!.1.word=Y1 at*;generalize d[k+k2-1]!.1.A=Y2 at*;generalize d[k+k2-1]!.1.n=Y3 at*;generalize d[k+k2-1]!.1.cap=Y4 at*;have w1:IntKind.i64.wrap ((k2:Int)-1)=(k2:Int)-1:=IntWalk.i64_in _ (by omega);have w2:(0:Int)≤(k2:Int)-1:=by omega
       have w3:((k2:Int)-1).toNat=k2-1:=by omega
       have w4:(k2:Int)-1<((n-k:Nat):Int):=by omega
       have w5:(k2:Int)<((n-k:Nat):Int):=by omega
       have w6:(1:Int)≤(k2:Int):=by omega
       go_upto_region 11 with fail
       go_still_tail 10,(by kernel_rfl)
       change wpList _ _ _ _ _ wr.drew;clear c1 f1 c1' f1' c0 f0 c0' f0' w1 w2 w3 w4 w5 w6;generalize wr.drew=wd at*;go_wp2_with (go_at_call 106;refine(CE.out).mono ?_;rintro e W2 ⟨rfl,h2⟩;have H2:=hid h2;clear h2 CE);go_roundg (n-(k+(k2+1)))
       case measure=>omega
       case rel=>exact⟨kk,k2+1,dk,rfl,by go_num,by omega,by omega,by omega,hid ⟨H2.out,HI.out⟩⟩
      ·have hz:¬(ordC d[k+k2]!.1.en d[k+k2-1]!.1.en=0):=fun hh=>hs (HS.out.1 hh);have hz2:decide (ordC d[k+k2]!.1.en d[k+k2-1]!.1.en=0)=false:=decide_eq_false hz;have HI:=hid (HJ.out.2.keep hm);rw[hz2]at CE;clear hz hz2 hs HS;obtain⟨dn,hdn⟩:∃dn,dn=dk.setIfInBounds kk d[k+k2]! :=⟨_,rfl⟩;rw[←hdn]at HI HU;clear hdn;generalize d[k+k2]!.1.word=X1 at*;generalize d[k+k2]!.1.A=X2 at*;generalize d[k+k2]!.1.n=X3 at*;generalize d[k+k2]!.1.cap=X4 at*;generalize d[k+k2-1]!.1.word=Y1 at*;generalize d[k+k2-1]!.1.A=Y2 at*;generalize d[k+k2-1]!.1.n=Y3 at*;generalize d[k+k2-1]!.1.cap=Y4 at*;have w1:IntKind.i64.wrap ((k2:Int)-1)=(k2:Int)-1:=IntWalk.i64_in _ (by omega);have w2:(0:Int)≤(k2:Int)-1:=by omega
       have w3:((k2:Int)-1).toNat=k2-1:=by omega
       have w4:(k2:Int)-1<((n-k:Nat):Int):=by omega
       have w5:(k2:Int)<((n-k:Nat):Int):=by omega
       have w6:(1:Int)≤(k2:Int):=by omega
       go_upto_region 11 with fail
       go_still_tail 10,(by kernel_rfl)
       change wpList _ _ _ _ _ wr.drew;clear c1 f1 c1' f1' c0 f0 c0' f0' w1 w2 w3 w4 w5 w6;generalize wr.drew=wd at*;go_wp2_with (go_at_call 106;refine(CE.out).mono ?_;rintro e W2 ⟨rfl,h2⟩;have H2:=hid (HU.out W2 h2).2.2;obtain⟨⟨x1,x2⟩,⟨o1,o2,y1,g1,y2,g2⟩,-⟩:=HU.out W2 h2;clear h2 CE;have v1:(kk:Int)<(n:Int):=by omega);go_roundg (n-(k+(k2+1)))
       case measure=>omega
       case rel=>exact⟨kk+1,k2+1,dn,by go_num,by go_num,by omega,by omega,by omega,hid ⟨H2.out,HI.out⟩⟩
     ·have hend:k+k2=n:=by omega
      have hcl:∀ty,(Builtin.clear_ #[60] ty #[.slice (some ⟨blk,off+kk*2,none⟩) (n-kk) (cap-kk)]).run Tryz.prog wr= .ok (.tuple #[]) (wr.setCells blk (off+kk*2) (Builtin.zeroCells #[.string ⟨#[]⟩,.slice none 0 0] (n-kk)).toList):=
       fun ty=>run_clear2 wr _ _ ty _ _ Tryz.underlying60 (fun w=>by kernel_rfl) rfl rfl rfl blk (off+kk*2) _ _ (by omega) (fun j hj=>by rw[Nat.add_assoc,(HJ.out.1.hold (kk*2+j) (by rw[size_flatK];omega)).1];rfl) (fun j hj=>by rw[Nat.add_assoc];exact(HJ.out.1.hold (kk*2+j) (by rw[size_flatK];omega)).2)
      have v1:(kk:Int)≤(n:Int):=by omega
      have v2:(kk:Int)≤(cap:Int):=by omega
      clear hsd hnd;go_wp2_with fail;go_ret;refine⟨kk,dk,rfl,by omega,HJ.out.1.only.trans (only_setCells _ _ _ _),fun i hi=>?_,fun i hi=>?_,fun j hj=>?_⟩
      ·obtain⟨⟨x1,_⟩,x2,_⟩:=HJ.out.1.cells (show i<d.size by rw[←HN.out];omega);exact⟨(World.cell?_setCells_out blk _ _ _ _ (fun _ _=> .inl (by show off+i*2<_;omega))).trans x1,(World.cell?_setCells_out blk _ _ _ _ (fun _ _=> .inl (by show off+i*2+1<_;omega))).trans x2⟩
      ·rw[HN.out];exact HJ.out.2.from_ i hi
      ·exact HJ.out.2.kept j (by omega)
   ·have hz:¬(ordC d[k]!.1.en d[k-1]!.1.en=0):=fun hh=>hs (HS.out.1 hh);have hz2:decide (ordC d[k]!.1.en d[k-1]!.1.en=0)=false:=decide_eq_false hz;rw[hz2]at CE;clear hz hz2 hs HS;go_wp2_with (go_at_call 106;refine(CE.out).mono ?_;rintro e W2 ⟨rfl,h2⟩;have H2:=hid h2;clear h2 CE);go_roundg (n-(k+1))
    case measure=>omega
    case rel=>exact⟨k+1,by omega,by omega,by omega,by go_num,H2⟩
  ·obtain rfl:k=n:=by omega
   go_wp2_with fail;go_ret;exact same.out _ H.out
end Go.Proofs.YtfehpcbmdancoaaGreatDoor
namespace Go.Proofs.YtfehpcbmdancoaaGreatDoor
open Go Go.RowKit Go.Lib Go.Shelf Go.Sort
attribute [local go_sem] Oper.semAt_some alloc_set
def onceE (e:En):En:=⟨e.word,onceL e.flags⟩
def Alike (e e':En):Prop:=e.word=e'.word∧∀f,f∈e.flags↔f∈e'.flags
theorem once_alike (e:En):Alike (onceE e) e:=⟨rfl,fun f=>onceL_mem e.flags f⟩
theorem ents_choice {w0 W:World}{g c:Nat}{xs:List Value}{l:List En}(h:EQ w0 W (.slice (some ⟨g,0,none⟩) l.length c) xs l):
  ∃d:Array (OA W g),d.size=l.length∧(∀i,i<l.length→l[i]?=some d[i]!.1.en∧Value.slice d[i]!.1.A d[i]!.1.n d[i]!.1.cap∈xs)∧HoldsK oenc 2 W g 0 d:=by
 have h0:∀i:Fin l.length,∃x:OA W g,l[i.1]?=some x.1.en∧xs[i.1*2]?=some (.string x.1.word)∧xs[i.1*2+1]?=some (.slice x.1.A x.1.n x.1.cap):=by
  intro i;have hi:l[i.1]?=some l[i.1]:=List.getElem?_eq_getElem i.2;obtain⟨h1,A,cap,h2,h3,h4⟩:=h.ents i.1 _ hi;refine⟨⟨⟨l[i.1].word,A,l[i.1].flags.length,cap,l[i.1].flags⟩,fun W' ho=>h3.still ho.size fun b hb hlt=>ho.block b hlt fun e=>?_⟩,hi,h1,h2⟩;exact(h4 b hb).2 (by show some g=some b;rw[e])
 obtain⟨f,hf⟩:=Classical.axiomOfChoice h0;have hget:∀i (hi:i<l.length),(Array.ofFn f)[i]! =f ⟨i,hi⟩:=fun i hi=>by
  rw[getElem!_pos _ i (by simpa using hi),Array.getElem_ofFn]
 refine⟨Array.ofFn f,by simp,fun i hi=>?_,fun t ht=>?_⟩
 ·rw[hget i hi];exact⟨(hf ⟨i,hi⟩).1,List.mem_of_getElem? (hf ⟨i,hi⟩).2.2⟩
 ·have ht':t<l.length*2:=by simpa using ht
  have hl:t/2<l.length:=by omega
  have hx:=hf ⟨t/2,hl⟩;rw[get_flatK _ _ _ _ (by simpa using ht'),hget _ hl];refine⟨?_,by rw[Nat.zero_add];exact World.ownsRow.frozenAt h.row t⟩;have hc:= @World.ownsRow.cells _ _ _ _ _ _ _ h.row;rw[Nat.zero_add,←add9];refine hc (g:=g) rfl t _ ?_;by_cases e:t%2=0
  ·have:t=t/2*2:=by omega
   rw[e]
   conv=>lhs;rw[this]
   exact hx.2.1
  ·have e':t%2=1:=by omega
   have:t=t/2*2+1:=by omega
   rw[e']
   conv=>lhs;rw[this]
   exact hx.2.2
theorem perm_mem {α:Type}[Inhabited α]{d d':Array α}(h:PermIn 0 d.size d d'):(∀i,i<d'.size→∃j,j<d.size∧d'[i]! =d[j]!)∧∀j,j<d.size→∃i,i<d'.size∧d'[i]! =d[j]! :=by
 obtain⟨h1,-,h3⟩:=h;rw[show d.extract 0 d.size=d by simp,show d'.extract 0 d.size=d' by rw[←h1];simp]at h3;have hm:∀x,x∈d'.toList↔x∈d.toList:=fun x=>h3.mem_iff;have hin:∀(a:Array α) i,i<a.size→a[i]! ∈a.toList:=fun a i hi=>by rw[getElem!_pos a i hi];simp
 have hout:∀(a:Array α) x,x∈a.toList→∃i,i<a.size∧a[i]! =x:=fun a x hx=>by
  obtain⟨i,hi,e⟩:=List.getElem_of_mem hx;exact⟨i,by simpa using hi,by rw[getElem!_pos a i (by simpa using hi)];simpa using e⟩
 exact⟨fun i hi=>by obtain⟨j,hj,e⟩:=hout d _ ((hm _).1 (hin d' i hi));exact⟨j,hj,e.symm⟩,fun j hj=>hout d' _ ((hm _).2 (hin d j hj))⟩
theorem agg_ent (w:World):(isAgg 99).run Tryz.prog w= .ok true w:=by kernel_rfl
theorem size_ent (w:World):(Go.sizeOf 99).run Tryz.prog w= .ok 2 w:=by kernel_rfl
theorem sort_any (W:World)(g c:Nat)(d:Array (OA W g))(hH:HoldsK oenc 2 W g 0 d)(hg:g<W.heap.size)(hd:d.size≤1000000000):
  Calls Tryz.prog 104 #[.slice (some ⟨g,0,none⟩) d.size c,.func (.func 100) #[] #[]] W fun e w'=>e= .returned (.tuple #[])∧∃d':Array (OA W g),PermIn 0 d.size d d'∧d'.size=d.size∧CF W g 0 d' d' w':=by
 refine(AnyQ.slices_SortFunc Tryz.sortEn 2 agg_ent size_ent oenc oenc_len oenc_one (fun x y=>ordC x.1.en y.1.en) (ordC_swo fun x:OA W g=>x.1.en) 100 #[] g 0 c d W (enters_of Tryz.func100 (by kernel_rfl) rfl) ?_ hH hg (by omega)).mono ?_
 ·intro m os dk _ x y;have ho:=only_sort (oenc (w:=W) (blk:=g)) m 0 dk os (OnlyAt.refl _ W);exact ord_any _ x.1.en y.1.en x.1.A y.1.A x.1.n y.1.n x.1.cap y.1.cap (x.2 _ ho) (y.2 _ ho)
 ·rintro e w' ⟨rfl,d',m,os,hp,-,rfl⟩;exact⟨rfl,d',hp,hp.1,only_sort _ _ _ _ _ (OnlyAt.refl _ W),holdsK_sortWorldK_c oenc 2 W g 0 d d' m os hH hg hp.1,rfl⟩
theorem enc_one9 (a:ByteArray)(A:Option Addr)(n c:Nat):∀u∈[Value.string a,.slice A n c],u.oneCell'=true:=by
 intro u hu;simp only[List.mem_cons,List.not_mem_nil,or_false]at hu;rcases hu with rfl|rfl<;>rfl
theorem unlike_any (w:World)(v:Value)(es:List En)(h:EntsAt w v es)(hn:es.length≤1000000000)(hf:∀e∈es,e.flags.length≤1000000000000):
  Calls Tryz.prog 56 #[v] w fun e w'=>∃v' l,e= .returned v'∧(EntsAt w' v' l∧∀W',w'.heap.size≤W'.heap.size→(∀k,w.heap.size≤k→k<w'.heap.size→W'.heap[k]?=w'.heap[k]?)→EntsAt W' v' l)∧Below w.heap.size w w'∧l.length≤es.length∧(∀e∈l,∃e0∈es,Alike e e0∧e.flags.length≤e0.flags.length)∧∀e0∈es,∃e∈l,Alike e e0:=by
 obtain⟨A,cap,rfl⟩:=ents_form h;obtain⟨n,hnn⟩:∃n,n=es.length:=⟨_,rfl⟩;rw[←hnn]at h hn⊢;have HO:=hid (ents_open h);have HF:=hid hf;have HN:=hid hnn;obtain⟨i1,hi1,hz10,hz11,hz12⟩:=info_parts Tryz.infosY99;have hmk:∀wx:World,(Instr.makeSlice 60 (.int .i64 0) (.int .i64 (n:Int))).run Tryz.prog wx= .ok (.slice (some ⟨wx.heap.size,0,none⟩) 0 n) (wx.alloc (.cells (madeCells (Value.agg #[.string ⟨#[]⟩,.slice none 0 0]).cells (n*2)) 99)):=fun wx=>by
  have hr:=run_make (P:=Tryz.prog) wx 60 99 i1 _ Tryz.underlying60 hi1 hz10 .i64 .i64 0 n (Int.le_refl _) (by omega) (by rw[hz12];omega) (by omega);rw[Int.toNat_zero,Int.toNat_natCast,hz11]at hr;exact hr
 obtain⟨CS,hCS⟩:∃CS,CS=madeCells (Value.agg #[.string ⟨#[]⟩,.slice none 0 0]).cells (n*2):=⟨_,rfl⟩;have HQ0:=hid (show EQ w (w.alloc (.cells CS 99)) (.slice (some ⟨w.heap.size,0,none⟩) 0 n) [] []from ⟨World.ownsRow_made w _ n (Nat.le_refl _) (by unfold maxLen;omega) (by rw[hCS];exact size_madeCells _ _),fun i e h=>by simp at h,(Below.refl _ _).alloc (Nat.le_refl _) _⟩);rw[←hCS]at hmk;clear h hf hnn hCS;go_enter Tryz.func56,Tryz.ntmps56;go_wp2_with fail;go_loopg [3,12] n (fun gh s3 i wr=>∃(k g c:Nat) (xs:List Value),k+gh=n∧s3= .slice (some ⟨g,0,none⟩) k c∧i= .int .i64 k∧Hid (EQ w wr (.slice (some ⟨g,0,none⟩) k c) xs ((es.take k).map onceE))∧Hid (∀u∈xs,∀b,u.ownBlock=some b→w.heap.size≤b))
 case atStart=>exact⟨0,_,_,_,by omega,rfl,rfl,HQ0,hid (fun u hu=>by cases hu)⟩
 case round=>
  obtain⟨k,g,c,xs,hk,rfl,rfl,HQ,HFR⟩:=hrel;by_cases hlt:k<n
  ·obtain⟨e,he⟩:∃e,es[k]?=some e:=⟨es[k]'(by have:=HN.out;omega),List.getElem?_eq_getElem _⟩;obtain⟨b,off,rfl,hb,hnc,c0,A',cap',c1,hints⟩:=HO.out k e he;have HE:=hid he;have hqb:=HQ.out.below;have hbw:b<wr.heap.size:=Nat.lt_of_lt_of_le hb hqb.size;have e0:=(hqb.cell (p:=⟨b,off+k*2,none⟩) hb).trans c0;have e1:=(hqb.cell (p:=⟨b,off+k*2+1,none⟩) hb).trans c1;have HI:=hid (hints.keep (hqb));have HFL:=hid (HF.out e (List.mem_of_getElem? he));clear c0 c1 hints he hqb;go_upto_region 5 with fail;obtain⟨Wd,hWd⟩:∃Wd,Wd=wr.alloc (.cells #[.string e.word,.slice A' e.flags.length cap'] 99):=⟨_,rfl⟩;have hbd:Below wr.heap.size wr Wd:=by rw[hWd];exact(Below.refl _ _).alloc (Nat.le_refl _) _
   have z:Wd.heap[wr.heap.size]?=some (.cells #[.string e.word,.slice A' e.flags.length cap'] 99 (0,0)):=by rw[hWd];exact World.alloc_heap_new _ _
   obtain⟨Bx,hBx⟩:∃Bx,Bx=wr.heap.size:=⟨_,rfl⟩;rw[←hBx]at z⊢;have hzl:Bx<Wd.heap.size:=(Array.getElem?_eq_some_iff.1 z).1;have x0:Wd.cell? ⟨Bx,0,none⟩=some (.string e.word):=by simp[World.cell?,z]
   have x1:Wd.cell? ⟨Bx,1,none⟩=some (.slice A' e.flags.length cap'):=by simp[World.cell?,z]
   rw[←hWd];have CO:=hid (once_any Wd.drew A' e.flags.length cap' e.flags (HI.out.keep hbd.drew) HFL.out);have HD:=hid (And.intro hbd (And.intro hzl hBx));have HZ:=hid (show∀w1,Below Wd.drew.heap.size Wd.drew w1→w1.cell? ⟨Bx,0,none⟩=some (.string e.word)from fun w1 hb1=>by
    have hb':Below Wd.heap.size Wd w1:=(Below.refl Wd.heap.size Wd).drew.trans hb1;exact(cell_old (p:=⟨Bx,0,none⟩) hb' hzl).trans x0)
   clear hWd e0 e1 hbd z hzl hBx;have HT:=hid (show ((es.take k).map onceE).length=k by rw[List.length_map,List.length_take];have:=HN.out;omega);obtain⟨ew,hew⟩:∃ew,ew=e.word:=⟨_,rfl⟩;rw[←hew]at x0 HZ⊢;have HEW:=hid hew;clear hew;go_region_law (first
    | (refine step_append_lies _ (by rfl) _ _ _ (by rfl) w.heap.size 99 i1 _ 2 40 Tryz.underlying60 hi1 hz10 hz11 hz12 rfl (by omega) (.slice (some ⟨g,0,none⟩) k c) k xs (by rfl) H1.out.1 ⟨w1.heap.size,0,none⟩ 1 1 [.string ew,.slice B m cc] (by rfl) (by rfl) (World.news_of_block (cs:=#[.string ew,.slice B m cc]) (t:=99) (fr:=(0,0)) (World.alloc_heap_new w1 _)) (enc_one9 _ _ _ _) (by omega) (by unfold maxLen;omega) (by omega) (by have:=H1.out.2;simp;omega) (w1.heap.size+1) (by simp) ?_;intro gg cap4 w4 hown4 hgrow4 hat4 hlt4)
    | (go_simp;go_at_call 99;refine(CO.out).mono ?_;rintro e2 w1 ⟨ov,rfl,horow,hb1⟩;have y0:=HZ.out w1 hb1;obtain⟨B,cc,rfl⟩:=own_shape horow;obtain⟨m,hm⟩:∃m,m=(onceL e.flags).length:=⟨_,rfl⟩;rw[←hm]at horow⊢;have hw1:Below wr.heap.size wr w1:=HD.out.1.drew.trans (hb1.mono (by simp;have:=HD.out.1.size;omega));have H1:Hid ((w1.alloc (.cells #[.string ew,.slice B m cc] 99)).ownsRow w.heap.size 99 2 (.slice (some ⟨g,0,none⟩) k c) k xs∧w.heap.size≤w1.heap.size):=hid ⟨by
     have:=own_keep9 HQ.out.row (hw1.alloc hw1.size (.cells #[.string ew,.slice B m cc] 99));rwa[HT.out]at this,Nat.le_trans HQ.out.below.size hw1.size⟩;have H2:=hid (And.intro horow (And.intro hw1 (And.intro hb1.size hm)));clear horow hb1 hw1 hm))
   all_goals
    have HN2:Hid (EQ w w4 (.slice (some ⟨gg,0,none⟩) (k+1) cap4) (xs++[.string ew,.slice B m cc]) ((es.take (k+1)).map onceE)):=by
     refine hid ?_;have hT:(es.take (k+1)).map onceE=(es.take k).map onceE++[onceE e]:=by rw[List.take_add_one,HE.out];simp
     rw[hT];refine EQ.push (wr:=wr) (w2:=w1) (w5:=w1.alloc (.cells #[.string ew,.slice B m cc] 99)) HQ.out H2.out.2.1 HEW.out H2.out.2.2.2 ?_ ((Below.refl _ _).alloc (Nat.le_refl _) _) ?_ hgrow4 ?_
     ·exact own_less H2.out.1 (by have:=HD.out.1.size;simp;omega)
     ·rw[HT.out];exact hown4
     ·rcases hat4 with e|e
      ·exact .inl e.symm
      ·refine .inr fun z hz=>?_;simp only[Value.ownBlock,Option.some.injEq]at hz;rw[World.size_alloc];omega
    have HFR2:Hid (∀u∈xs++[.string ew,.slice B m cc],∀b,u.ownBlock=some b→w.heap.size≤b):=hid fun u hu b hb=>by
     rcases List.mem_append.1 hu with hu|hu
     ·exact HFR.out u hu b hb
     ·simp only[List.mem_cons,List.not_mem_nil,or_false]at hu;rcases hu with rfl|rfl
      ·cases hb
      ·have h1:=(H2.out.1.lt b hb).1;have h2:=HD.out.1.size;have h3:=HQ.out.below.size;simp at h1;omega
    clear x0 x1 y0 hown4 hgrow4 hat4 hlt4 H1 H2 HD HZ CO;go_wp2_with fail;go_roundg (gk-1)
    case measure=>omega
    case rel=>exact⟨k+1,gg,cap4,_,by omega,by rfl,by go_num,HN2,HFR2⟩
  ·obtain rfl:k=n:=by omega
   have hes:es.take k=es:=List.take_of_length_le (by have:=HN.out;omega);have hq:=HQ.out;rw[hes]at hq;obtain⟨L,hL⟩:∃L,L=es.map onceE:=⟨_,rfl⟩;rw[←hL]at hq;have hLl:L.length=k:=by rw[hL,List.length_map,←HN.out]
   obtain⟨W3,hW3⟩:∃W3,W3=wr.alloc (.cells #[.func (.func 100) #[] #[]] 164):=⟨_,rfl⟩;have hst:(store ⟨wr.heap.size,0,none⟩ (.func (.func 100) #[] #[])).run Tryz.prog (wr.alloc (.cells #[.nilFunc] 164))= .ok () W3:=by
    have hfz:(wr.alloc (.cells #[.nilFunc] 164)).frozen? ⟨wr.heap.size,0,none⟩=false:=by
     have:=World.alloc_heap_new wr (.cells #[.nilFunc] 164);unfold World.frozen?;rw[this];rfl
    rw[run_store _ _ _ _ _ rfl,cell_of_row _ _ 0 _ _ _ (World.alloc_heap_new _ _),hW3];simp[hfz,alloc_set]
   have hb3:Below wr.heap.size wr W3:=by rw[hW3];exact(Below.refl _ _).alloc (Nat.le_refl _) _
   have hq3:EQ w W3 (.slice (some ⟨g,0,none⟩) L.length c) xs L:=by rw[hLl];exact hq.keep hb3
   have hob:W3.cell? ⟨wr.heap.size,0,none⟩=some (.func (.func 100) #[] #[]):=by rw[hW3];exact cell_of_row _ _ 0 _ _ _ (World.alloc_heap_new _ _)
   have hgr:=(hq.row.lt g rfl);obtain⟨d,hd1,hd2,hd3⟩:=ents_choice hq3;rw[hLl]at hd1;have hgW:g<W3.heap.size:=Nat.lt_of_lt_of_le hgr.2 hb3.size;have CSO:=hid (sort_any W3 g c d hd3 hgW (by omega));rw[hd1]at CSO;have hcc:k≤c∧c≤maxLen:=by
    rcases hq.row.2 with ⟨e,_⟩|⟨g',cap',cur,e,_,_,h1,h2,_⟩
    ·cases e
    ·injection e with _ _ e3;rw[e3,←hLl];exact⟨h1,h2⟩
   have CCO:=hid (fun (d':Array (OA W3 g)) (w':World) (hs:d'.size=k) (hw:CF W3 g 0 d' d' w')=>compact_any W3 g 0 wr.heap.size c d' hgW hob (by omega) (by rw[hs];exact hcc.1) hcc.2 w' hw);have HX:=hid (And.intro hL (And.intro hd1 (And.intro hd2 (And.intro hgr (And.intro hcc (And.intro hLl (And.intro hb3 (HQ.out.below))))))));clear hes hq hL hb3 hq3 hgr hd1 hd2 hd3 hgW hcc hLl hW3;go_wp2_with (first
    | (go_at_call 104;refine(CSO.out).mono ?_;rintro e w5 ⟨rfl,d',hp,hs,hcf⟩;have CC:=hid (CCO.out d' w5 hs hcf);rw[hs]at CC;have HP:=hid (And.intro hp hs);clear hp hs hcf)
    | (go_at_call 105;refine(CC.out).mono ?_;rintro e w6 ⟨q,dk,rfl,hqk,ho6,hc6,hf6,hk6⟩))
   go_ret;obtain⟨hL,hd1,hd2,hgr,hcc,hLl,hb3,hbw⟩:=HX.out;obtain⟨hp1,hp2⟩:=perm_mem (d:=d) (d':=d') (by rw[hd1];exact HP.out.1);have hgw:w.heap.size≤g:=hgr.1;have hget:∀j,j<k→∃e0,es[j]?=some e0∧d[j]!.1.en=onceE e0:=fun j hj=>by
    have h1:=(hd2 j (by omega)).1;rw[hL,List.getElem?_map]at h1;obtain⟨e0,h2,h3⟩:=Option.map_eq_some_iff.1 h1;exact⟨e0,h2,h3.symm⟩
   have hmem:∀e,e∈(List.range q).map (fun i=>dk[i]!.1.en)→∃i,i<q∧e=dk[i]!.1.en:=fun e he=>by
    obtain⟨i,hi,rfl⟩:=List.mem_map.1 he;exact⟨i,List.mem_range.1 hi,rfl⟩
   have hnew:∀i,i<q→∀b,(Value.slice dk[i]!.1.A dk[i]!.1.n dk[i]!.1.cap).ownBlock=some b→w.heap.size≤b:=fun i hi b hb=>by
    obtain⟨j,hj,e1⟩:=hf6 i hi;obtain⟨j2,hj2,e2⟩:=hp1 j (by rw[HP.out.2];exact hj);rw[e1,e2]at hb;exact HFR.out _ (hd2 j2 (by omega)).2 b hb
   have hread:∀W',w6.heap.size≤W'.heap.size→(∀j,w.heap.size≤j→j<w6.heap.size→W'.heap[j]?=w6.heap[j]?)→EntsAt W' (.slice (some ⟨g,0,none⟩) q c) ((List.range q).map (fun i=>dk[i]!.1.en)):=fun W' hs hh=>by
    have hg6:g<w6.heap.size:=Nat.lt_of_lt_of_le (Nat.lt_of_lt_of_le hgr.2 hb3.size) ho6.size;refine .inr ⟨g,0,c,by rw[List.length_map,List.length_range],Nat.lt_of_lt_of_le hg6 hs,by rw[List.length_map,List.length_range];omega,hcc.2,fun i e hi=>?_⟩;rw[List.getElem?_map]at hi;obtain⟨i',h1,rfl⟩:=Option.map_eq_some_iff.1 hi;obtain⟨h2,rfl⟩:=List.getElem?_eq_some_iff.1 h1;rw[List.getElem_range]at*;rw[List.length_range]at h2;obtain⟨y0,y1⟩:=hc6 i h2;have hI:=dk[i]!.2 w6 ho6;have hI':IntsAt W' (.slice dk[i]!.1.A dk[i]!.1.n dk[i]!.1.cap) dk[i]!.1.fl:=hI.still hs fun b hb hlt=>hh b (hnew i h2 b hb) hlt;have hcl:∀o,W'.cell? ⟨g,o,none⟩=w6.cell? ⟨g,o,none⟩:=fun o=>by
     unfold World.cell?;rw[hh g hgw hg6]
    obtain⟨A2,c2,e2,-⟩:=ints_open hI';injection e2 with e3 e4 e5;rw[e4]at hI' y1;exact⟨(hcl _).trans y0,_,_,(hcl _).trans y1,hI'⟩
   refine⟨.slice (some ⟨g,0,none⟩) q c,(List.range q).map (fun i=>dk[i]!.1.en),rfl,⟨hread w6 (Nat.le_refl _) (fun _ _ _=>rfl),hread⟩,OnlyAt.below (hbw.trans (hb3.mono hbw.size)) ho6 (Nat.le_trans hbw.size hb3.size) (fun j hj=>by omega),by rw[List.length_map,List.length_range];exact hqk,fun e he=>?_,fun e0 he0=>?_⟩
   ·obtain⟨i,hi,rfl⟩:=hmem e he;obtain⟨j,hj,e1⟩:=hf6 i hi;obtain⟨j2,hj2,e2⟩:=hp1 j (by rw[HP.out.2];exact hj);obtain⟨e0,h1,h2⟩:=hget j2 (by omega);rw[e1,e2,h2];exact⟨e0,List.mem_of_getElem? h1,once_alike e0,onceL_len _⟩
   ·obtain⟨j,hj,e1⟩:=List.getElem_of_mem he0;obtain⟨e0',h1,h2⟩:=hget j (by have:=HN.out;omega);obtain⟨i,hi,e2⟩:=hp2 j (by have:=HN.out;omega);obtain⟨i2,hi2,hs⟩:=hk6 i (by rw[←HP.out.2];exact hi);refine⟨dk[i2]!.1.en,List.mem_map.2 ⟨i2,List.mem_range.2 hi2,rfl⟩,?_⟩;have e3:e0'=e0:=by
     rw[List.getElem?_eq_getElem hj]at h1;exact(Option.some.inj h1).symm.trans e1
    subst e3;have hen:dk[i2]!.1.en=onceE e0':=by
     rw[←h2,←e2];show (⟨dk[i2]!.1.word,dk[i2]!.1.fl⟩:En)=⟨d'[i]!.1.word,d'[i]!.1.fl⟩;rw[hs.1,hs.2]
    rw[hen];exact once_alike e0'
end Go.Proofs.YtfehpcbmdancoaaGreatDoor
