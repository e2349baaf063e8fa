/- closure.set.rising by contract: a set's texts in order (slices.Sorted over maps.Keys). -/
import Derived.OwnWalkIn
import Derived.Test.YtfehpcbmdancoaaGreatDoorPbLayg
import Derived.Test.YtfehpcbmdancoaaGreatDoorPbPlain
import Derived.Test.YtfehpcbmdancoaaGreatDoorPbShelf
namespace Go.Proofs.YtfehpcbmdancoaaGreatDoor
open Go Go.RowKit Go.Lib Go.Shelf Go.Maps Go.Sort
theorem sorts_str (m:Nat):AnyZ.SortsIn Tryz.prog Tryz.sortedS_ren Fence.wide m:=
 ⟨fun blk off cap ss W hH hblk hsz=>callsIn_wide.2 (Tryz.slices_Sort_string blk off cap ss W hH hblk hsz),fun p cap W=>callsIn_wide.2 (Tryz.slices_Sort_string_none p cap W)⟩
set_option maxHeartbeats 1000000 in
theorem rising_raw {H:Type}(b nn:Nat)(D0:DataW H)(R:Value→Option (DataW H×List MemPlace))(w:World)(hown:w.ownsMap Tryz.prog 9 R b nn D0)(hmax:Maps.size D0≤maxLen)(hbytes:Maps.size D0*16≤140737488355328):
  Calls Tryz.prog 58 #[.map (some b)] w fun e w'=>∃(v:Value) (ss:List (List UInt8)),e= .returned v∧ss.Perm (strKeys D0)∧
   w'.ownsRow w.heap.size 9 1 v ss.length ((ss.mergeSort (fun x y=>decide (x≤y))).map encStr)∧Below w.heap.size w w':=by
 refine(callsIn_wide (n:=6)).1 ?_
 have hbl:=hown.lt
 have hseq:SeqGives Fence.wide 2 Tryz.prog 164 #[.pointer (some ⟨w.heap.size,0,none⟩)] encStr (fun ss=>ss.Perm (strKeys D0)) (Maps.size D0) (w.alloc (.cells #[.map (some b)] 106)):=
  AnyZ.keys_gives (ρ:=Tryz.keysS_ren) { Tryz.keysS with } Fence.wide _ trivial rfl (by omega) w.heap.size b nn D0 _ (by simp) (by simp) (by
   obtain⟨es,clock,hb,Ft,hs,hD⟩:=hown
   exact⟨es,clock,(Below.heap_alloc _ _ b hbl).trans hb,Ft,hs,hD⟩)
 have cK:∀mb W,CallsIn Fence.wide 5 Tryz.prog 112 #[.map mb] W fun e w'=>e= .returned (.func (.func 164) #[] #[.pointer (some ⟨W.heap.size,0,none⟩)])∧w'=W.alloc (.cells #[.map mb] 106):=fun mb W=>AnyZ.keys_in Tryz.keysS Fence.wide 5 trivial rfl mb W
 have cS:=AnyZ.sorted_in Tryz.sortedS Fence.wide 5 trivial trivial trivial trivial rfl (by omega) (sorts_str _) (enters_of Tryz.func62 (by kernel_rfl) rfl) 164 #[.pointer (some ⟨w.heap.size,0,none⟩)] trivial (enters_of Tryz.func164 (by kernel_rfl) rfl) _ _ hmax hbytes _ hseq
 change CallsIn _ _ Tryz.prog 111 _ _ _ at cS
 have hfK:Fence.wide.fn 112:=trivial
 have hfS:Fence.wide.fn 111:=trivial
 refine callsIn_of_wp Tryz.func58 rfl trivial ?_ rfl
 simp only[Tryz.ntmps58,List.size_toArray,List.length_cons,List.length_nil,Nat.reduceAdd,Nat.reduceSub,Array.replicate_succ,Array.replicate_zero,List.push_toArray,List.append_toArray,List.nil_append,List.cons_append]
 gi_wp2_with (first
  | (gi_at_call 112;refine(cK _ _).mono ?_;rintro e w' ⟨rfl,rfl⟩)
  | (gi_at_call 111;refine cS.mono ?_;rintro e w' ⟨v,ss,rfl,hS,hrow,hnil,hb⟩))
 go_ret
 exact⟨v,ss,rfl,hS,ownsRow_base_a hrow (by simp),((Below.refl _ w).alloc (Nat.le_refl _) _).trans (hb.mono (by simp))⟩
theorem strKeys_mem {H:Type}{es:List (Lit×DataW H)}(hk:∀p∈es,∃x,p.1= .string x)(x:List UInt8):x∈strKeys (.map es)↔Maps.has (.map es) (.string x)=true:=by
 show x∈es.map (fun p=>strOf p.1)↔es.any (fun p=>p.1.sameKey (.string x))=true
 rw[List.mem_map,List.any_eq_true]
 constructor
 ·rintro⟨p,hp,e⟩
  obtain⟨y,hy⟩:=hk p hp
  refine⟨p,hp,?_⟩
  rw[hy]at e⊢
  have:y=x:=e
  subst this
  exact WideAt.sameKey_self (by unfold WideAt.IsKeyLit;trivial)
 ·rintro⟨p,hp,h⟩
  have:=WideAt.sameKey_eq h
  exact⟨p,hp,by rw[this];rfl⟩
theorem strKeys_nodup {H:Type}{es:List (Lit×DataW H)}(hk:∀p∈es,∃x,p.1= .string x)(hp:es.Pairwise (fun p q=>p.1≠q.1)):(strKeys (.map es)).Nodup:=by
 show (es.map (fun p=>strOf p.1)).Nodup
 induction es with
 | nil=>simp
 | cons p es ih=>
   obtain⟨h1,h2⟩:=List.pairwise_cons.1 hp
   rw[List.map_cons,List.nodup_cons]
   refine⟨fun hm=>?_,ih (fun q hq=>hk q (List.mem_cons_of_mem _ hq)) h2⟩
   obtain⟨q,hq,e⟩:=List.mem_map.1 hm
   obtain⟨x,hx⟩:=hk p (List.mem_cons_self ..)
   obtain⟨y,hy⟩:=hk q (List.mem_cons_of_mem _ hq)
   apply h1 q hq
   rw[hx,hy]at e⊢
   have:y=x:=e
   rw[this]
theorem rising_list (ss:List (List UInt8))(h:ss.Nodup):∃l:List ByteArray,Rising l∧l.length=ss.length∧(ss.mergeSort (fun x y=>decide (x≤y))).map encStr=l.map Value.string∧∀x,x∈l↔x.data.toList∈ss:=by
 refine⟨(ss.mergeSort (fun x y=>decide (x≤y))).map fun x=>⟨x.toArray⟩,?_,by rw[List.length_map,List.length_mergeSort],by rw[List.map_map];rfl,fun x=>?_⟩
 ·unfold Rising
  rw[List.pairwise_map]
  have h1:=List.pairwise_mergeSort (le:=fun x y:List UInt8=>decide (x≤y)) (fun a b c hab hbc=>by simp only[decide_eq_true_eq]at *;exact List.le_trans hab hbc) (fun a b=>by simp only[Bool.or_eq_true,decide_eq_true_eq];exact List.le_total a b) ss
  have h2:(ss.mergeSort (fun x y=>decide (x≤y))).Nodup:=(List.mergeSort_perm ss _).nodup_iff.2 h
  have h3:(ss.mergeSort (fun x y=>decide (x≤y))).Pairwise (fun a b=>a≤b∧a≠b):=(h1.imp fun hab=>of_decide_eq_true hab).and h2
  refine h3.imp fun {a b} hab=>?_
  show (⟨a.toArray⟩:ByteArray).data.toList<(⟨b.toArray⟩:ByteArray).data.toList
  simp only
  rcases Classical.em (a<b)with hlt|hge
  ·exact hlt
  ·exact absurd (List.le_antisymm hab.1 (List.not_lt.1 hge)) hab.2
 ·rw[List.mem_map]
  constructor
  ·rintro⟨y,hy,rfl⟩
   simpa using (List.mergeSort_perm ss _).mem_iff.1 hy
  ·intro hx
   exact⟨x.data.toList,(List.mergeSort_perm ss _).mem_iff.2 hx,by simp⟩
theorem rising_any (b nn:Nat)(D0:DataW Unit)(w:World)(hown:w.ownsMap Tryz.prog 9 unitElem b nn D0)(hmax:Maps.size D0≤5000000000000)(l:List ByteArray)(hl:Rising l)(hm:∀x,x∈l↔Maps.has D0 (.string x.data.toList)=true):
  Calls Tryz.prog 58 #[.map (some b)] w fun e w'=>∃v,e= .returned v∧StrsAt w' v l∧Below w.heap.size w w':=by
 refine(rising_raw b nn D0 unitElem w hown (by unfold maxLen;omega) (by omega)).mono ?_
 rintro e w' ⟨v,ss,rfl,hp,hrow,hb⟩
 obtain⟨es,rfl,hpw,-⟩:=hown.entries keyed_str
 have hk:∀p∈es,∃x,p.1= .string x:=by
  obtain⟨es',e,h2⟩:=hown.keysOf
  simp only[DataW.map.injEq]at e
  subst e
  intro p hp
  obtain⟨v,hv⟩:=h2 p hp
  obtain⟨x,_,hx,_⟩:=Maps.keyOf_str Tryz.underlying9 hv
  exact⟨x,hx⟩
 obtain⟨l',h1,h2,h3,h4⟩:=rising_list ss (hp.nodup_iff.2 (strKeys_nodup hk hpw))
 have e1:l'=l:=rising_eq h1 hl fun x=>by rw[h4,hp.mem_iff,strKeys_mem hk,hm]
 subst e1
 rw[h3]at hrow
 exact⟨v,rfl,strs_own hrow h2.symm,hb⟩
end Go.Proofs.YtfehpcbmdancoaaGreatDoor
