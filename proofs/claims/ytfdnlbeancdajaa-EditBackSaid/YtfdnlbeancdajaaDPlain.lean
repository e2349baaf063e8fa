/- Plain: a text as a list of pieces of two texts. -/
import Derived.Test.YtfdnlbeancdajaaAPlain
namespace Go.Proofs.Ytfdnlbeancdajaa

/-- A piece: its place in the array; whether it is of the additions; where it begins, how long it is. -/
structure Pc where
  key : Nat
  added : Bool
  frm : Nat
  size : Nat
def Pc.it (x : Pc) : It := ((x.key : Int), x.size)
def Pc.src (O D : ByteArray) (x : Pc) : ByteArray := if x.added then D else O
def Pc.seg (O D : ByteArray) (x : Pc) : ByteArray := (x.src O D).extract x.frm (x.frm + x.size)
def Pc.fits (O D : ByteArray) (x : Pc) : Prop := 0 < x.size ∧ x.frm + x.size ≤ (x.src O D).size
def its (L : List Pc) : List It := L.map Pc.it
def textOf (O D : ByteArray) : List Pc → ByteArray
  | [] => ByteArray.empty
  | x :: L => x.seg O D ++ textOf O D L
variable {O D : ByteArray}

theorem textOf_append : ∀ A B : List Pc, textOf O D (A ++ B) = textOf O D A ++ textOf O D B
  | [], B => by simp [textOf]
  | x :: A, B => by rw [List.cons_append, textOf, textOf, textOf_append A B, ByteArray.append_assoc]
theorem seg_size {x : Pc} (h : x.fits O D) : (x.seg O D).size = x.size := by
  have := h.2
  rw [Pc.seg, ByteArray.size_extract]; omega
theorem its_cons (x : Pc) (L : List Pc) : its (x :: L) = x.it :: its L := rfl
theorem its_length (L : List Pc) : (its L).length = L.length := by simp [its]
theorem its_append (A B : List Pc) : its (A ++ B) = its A ++ its B := by simp [its]
theorem its_get (L : List Pc) (i : Nat) : (its L)[i]? = (L[i]?).map Pc.it := by simp [its]
theorem total_cons (x : It) (L : List It) : total (x :: L) = x.2 + total L := by simp [total]
theorem textOf_size : ∀ L : List Pc, (∀ x ∈ L, x.fits O D) → (textOf O D L).size = total (its L)
  | [], _ => by simp [textOf, its, total]
  | x :: L, h => by
    rw [textOf, ByteArray.size_append, seg_size (h x (by simp)), textOf_size L (fun y hy => h y (List.mem_cons_of_mem _ hy)), its_cons, total_cons]; rfl
theorem its_put (L : List Pc) (i : Nat) (x : Pc) : its (L.take i ++ x :: L.drop i) = putL (its L) i x.it := by simp [its, putL, List.map_take, List.map_drop]
theorem its_drop (L : List Pc) (i : Nat) : its (L.take i ++ L.drop (i + 1)) = dropL (its L) i := by simp [its, dropL, List.map_take, List.map_drop]
theorem its_set (L : List Pc) (i : Nat) (x : Pc) : its (L.set i x) = (its L).set i x.it := by simp [its, List.map_set]
theorem its_take (L : List Pc) (i : Nat) : its (L.take i) = (its L).take i := by simp [its, List.map_take]
theorem length_le_total : ∀ L : List Pc, (∀ x ∈ L, x.fits O D) → L.length ≤ total (its L)
  | [], _ => Nat.zero_le _
  | x :: L, h => by
    have h1 := (h x (by simp)).1
    have h2 := length_le_total L (fun y hy => h y (List.mem_cons_of_mem _ hy))
    rw [its, List.map_cons, total_cons, List.length_cons]
    have : total (List.map Pc.it L) = total (its L) := rfl
    have : x.it.2 = x.size := rfl
    omega

/-- A text more in the additions changes nothing that was. -/
theorem Pc.fits_add {x : Pc} (h : x.fits O D) (t : ByteArray) : x.fits O (D ++ t) := by
  obtain ⟨h1, h2⟩ := h
  refine ⟨h1, ?_⟩
  unfold Pc.src at h2 ⊢
  split
  · rename_i e; rw [if_pos e] at h2; rw [ByteArray.size_append]; omega
  · rename_i e; rw [if_neg e] at h2; exact h2
theorem extract_add (D t : ByteArray) (a b : Nat) (h : b ≤ D.size) : (D ++ t).extract a b = D.extract a b := by
  rw [ByteArray.extract_append]
  have e : t.extract (a - D.size) (b - D.size) = ByteArray.empty := by rw [ByteArray.extract_eq_empty_iff]; omega
  rw [e]; simp
theorem seg_add {x : Pc} (h : x.fits O D) (t : ByteArray) : x.seg O (D ++ t) = x.seg O D := by
  obtain ⟨h1, h2⟩ := h
  unfold Pc.seg Pc.src at *
  split
  · rename_i e; rw [if_pos e] at h2; rw [extract_add _ _ _ _ (by omega)]
  · rfl
theorem textOf_add : ∀ (L : List Pc) (t : ByteArray), (∀ x ∈ L, x.fits O D) → textOf O (D ++ t) L = textOf O D L
  | [], _, _ => rfl
  | x :: L, t, h => by rw [textOf, textOf, seg_add (h x (by simp)), textOf_add L t (fun y hy => h y (List.mem_cons_of_mem _ hy))]

/-- What is known of the pieces, the array and the free places. -/
structure Fine (O D : ByteArray) (al : List (Bool × Nat)) (fr : List Nat) (L : List Pc) : Prop where
  fits : ∀ x ∈ L, x.fits O D
  here : ∀ x ∈ L, al[x.key]? = some (x.added, x.frm)
  nodup : (L.map Pc.key ++ fr).Nodup
  free : ∀ k ∈ fr, k < al.length
  count : al.length = L.length + fr.length
/-- What put makes of the array and the free places. -/
def Put (al : List (Bool × Nat)) (fr : List Nat) (p : Bool × Nat) (key : Nat) (al' : List (Bool × Nat)) (fr' : List Nat) : Prop :=
  (fr = fr' ++ [key] ∧ al' = al.set key p) ∨ (fr = [] ∧ fr' = [] ∧ key = al.length ∧ al' = al ++ [p])

variable {al al' : List (Bool × Nat)} {fr fr' : List Nat} {L : List Pc}
theorem Fine.lt (h : Fine O D al fr L) {x : Pc} (hx : x ∈ L) : x.key < al.length := (List.getElem?_eq_some_iff.1 (h.here x hx)).1
theorem Fine.size (h : Fine O D al fr L) : (textOf O D L).size = total (its L) := textOf_size L h.fits
theorem Fine.take (h : Fine O D al fr L) (i : Nat) : (textOf O D (L.take i)).size = total ((its L).take i) := by
  rw [textOf_size _ (fun x hx => h.fits x (List.mem_of_mem_take hx)), its_take]
/-- A piece more. -/
theorem Fine.put (h : Fine O D al fr L) {p : Bool × Nat} {key : Nat} (hp : Put al fr p key al' fr') (i n : Nat) (hi : i ≤ L.length) (D' : ByteArray) (hf : ∀ x ∈ L, x.fits O D') (hx : (Pc.mk key p.1 p.2 n).fits O D') :
    Fine O D' al' fr' (L.take i ++ Pc.mk key p.1 p.2 n :: L.drop i) := by
  have hsplit : L.map Pc.key = (L.take i).map Pc.key ++ (L.drop i).map Pc.key := by rw [← List.map_append, List.take_append_drop]
  have hmem : ∀ x, x ∈ L.take i ++ Pc.mk key p.1 p.2 n :: L.drop i → x = Pc.mk key p.1 p.2 n ∨ x ∈ L := fun x hx => by
    simp only [List.mem_append, List.mem_cons] at hx
    rcases hx with e | e | e
    · exact .inr (List.mem_of_mem_take e)
    · exact .inl e
    · exact .inr (List.mem_of_mem_drop e)
  have hlen : (L.take i ++ Pc.mk key p.1 p.2 n :: L.drop i).length = L.length + 1 := by simp; omega
  have hkey : ∀ x ∈ L, x.key ≠ key := fun x hx' e => by
    rcases hp with ⟨h1, -⟩ | ⟨-, -, h2, -⟩
    · have := h.nodup
      rw [List.nodup_append] at this
      exact this.2.2 x.key (List.mem_map_of_mem hx') key (by rw [h1]; simp) e
    · have := h.lt hx'; omega
  refine ⟨fun x hx' => ?_, fun x hx' => ?_, ?_, fun k hk => ?_, ?_⟩
  · rcases hmem x hx' with rfl | e
    · exact hx
    · exact hf x e
  · rcases hmem x hx' with rfl | e
    · rcases hp with ⟨h1, rfl⟩ | ⟨-, -, h2, rfl⟩
      · have := h.free key (by rw [h1]; simp)
        simp [this]
      · subst h2; simp
    · have hne := hkey x e
      have hh := h.here x e
      rcases hp with ⟨-, rfl⟩ | ⟨-, -, h2, rfl⟩
      · rw [List.getElem?_set_ne (fun e => hne e.symm)]; exact hh
      · rw [List.getElem?_append_left (h.lt e)]; exact hh
  · have hn := h.nodup
    rw [hsplit] at hn
    rw [List.map_append, List.map_cons]
    have hk1 : key ∉ (L.take i).map Pc.key := fun e => by
      obtain ⟨x, hx1, hx2⟩ := List.mem_map.1 e
      exact hkey x (List.mem_of_mem_take hx1) hx2
    have hk2 : key ∉ (L.drop i).map Pc.key := fun e => by
      obtain ⟨x, hx1, hx2⟩ := List.mem_map.1 e
      exact hkey x (List.mem_of_mem_drop hx1) hx2
    rcases hp with ⟨h1, -⟩ | ⟨h1, h2, -⟩
    · rw [h1] at hn
      refine List.Perm.nodup ?_ hn
      show ((L.take i).map Pc.key ++ (L.drop i).map Pc.key ++ (fr' ++ [key])).Perm ((L.take i).map Pc.key ++ key :: (L.drop i).map Pc.key ++ fr')
      rw [← List.append_assoc, List.append_assoc, List.append_assoc, List.append_assoc]
      refine List.Perm.append_left _ ?_
      rw [← List.append_assoc, List.cons_append]
      exact List.perm_append_comm.trans (by simp)
    · subst h1 h2
      rw [List.append_nil] at hn ⊢
      refine List.Perm.nodup (l := key :: ((L.take i).map Pc.key ++ (L.drop i).map Pc.key)) List.perm_middle.symm ?_
      exact List.nodup_cons.2 ⟨fun e => (List.mem_append.1 e).elim hk1 hk2, hn⟩
  · rcases hp with ⟨h1, rfl⟩ | ⟨h1, h2, -, rfl⟩
    · rw [List.length_set]; exact h.free k (by rw [h1]; simp [hk])
    · subst h2; cases hk
  · have hc := h.count
    rcases hp with ⟨h1, rfl⟩ | ⟨h1, h2, -, rfl⟩
    · rw [h1, List.length_append] at hc
      rw [List.length_set, hlen]
      simp at hc ⊢; omega
    · subst h1 h2
      rw [hlen, List.length_append]
      simp at hc ⊢; omega
/-- A piece less. -/
theorem Fine.drop (h : Fine O D al fr L) {i : Nat} {x : Pc} (hx : L[i]? = some x) : Fine O D al (fr ++ [x.key]) (L.take i ++ L.drop (i + 1)) := by
  obtain ⟨hi, he⟩ := List.getElem?_eq_some_iff.1 hx
  have hL : L = L.take i ++ x :: L.drop (i + 1) := by
    rw [← he, ← List.drop_eq_getElem_cons hi, List.take_append_drop]
  have hxm : x ∈ L := List.mem_of_getElem? hx
  have hmem : ∀ y, y ∈ L.take i ++ L.drop (i + 1) → y ∈ L := fun y hy => by
    simp only [List.mem_append] at hy
    exact hy.elim List.mem_of_mem_take List.mem_of_mem_drop
  refine ⟨fun y hy => h.fits y (hmem y hy), fun y hy => h.here y (hmem y hy), ?_, fun k hk => ?_, ?_⟩
  · have hn := h.nodup
    rw [hL] at hn
    refine List.Perm.nodup ?_ hn
    rw [List.map_append, List.map_cons, List.map_append, List.append_assoc, List.append_assoc]
    refine List.Perm.append_left _ ?_
    rw [List.cons_append, ← List.append_assoc]
    exact (List.perm_append_singleton _ _).symm
  · rcases List.mem_append.1 hk with e | e
    · exact h.free k e
    · simp at e; subst e; exact h.lt hxm
  · have hc := h.count
    simp; omega
/-- A piece cut short. -/
theorem Fine.cut (h : Fine O D al fr L) {i : Nat} {x : Pc} (hx : L[i]? = some x) (n : Nat) (h0 : 0 < n) (hn : n ≤ x.size) : Fine O D al fr (L.set i ⟨x.key, x.added, x.frm, n⟩) := by
  have hxm : x ∈ L := List.mem_of_getElem? hx
  have hmem : ∀ y, y ∈ L.set i ⟨x.key, x.added, x.frm, n⟩ → y ∈ L ∨ y = ⟨x.key, x.added, x.frm, n⟩ := fun y hy => List.mem_or_eq_of_mem_set hy
  refine ⟨fun y hy => ?_, fun y hy => ?_, ?_, h.free, by rw [List.length_set]; exact h.count⟩
  · rcases hmem y hy with e | rfl
    · exact h.fits y e
    · obtain ⟨-, f2⟩ := h.fits x hxm
      exact ⟨h0, Nat.le_trans (Nat.add_le_add_left hn _) f2⟩
  · rcases hmem y hy with e | rfl
    · exact h.here y e
    · exact h.here x hxm
  · have e : (L.set i ⟨x.key, x.added, x.frm, n⟩).map Pc.key = L.map Pc.key := by
      rw [List.map_set]
      refine List.ext_getElem? fun j => ?_
      rw [List.getElem?_set]
      split
      · rename_i hj
        subst hj
        rw [List.getElem?_map, hx]
        simp [(List.getElem?_eq_some_iff.1 hx).1]
      · rfl
    rw [e]; exact h.nodup
/-- A piece in two. -/
theorem two_seg {x : Pc} (_hx : x.fits O D) (o k : Nat) (ho : o ≤ x.size) : (Pc.mk x.key x.added x.frm o).seg O D ++ (Pc.mk k x.added (x.frm + o) (x.size - o)).seg O D = x.seg O D := by
  show (x.src O D).extract x.frm (x.frm + o) ++ (x.src O D).extract (x.frm + o) (x.frm + o + (x.size - o)) = (x.src O D).extract x.frm (x.frm + x.size)
  rw [ByteArray.extract_append_extract, Nat.min_eq_left (by omega), Nat.max_eq_right (by omega), show x.frm + o + (x.size - o) = x.frm + x.size by omega]
/-- Where a text's first pieces end. -/
theorem text_parts (A B : List Pc) (k : Nat) (hk : (textOf O D A).size = k) :
    textOf O D A = (textOf O D (A ++ B)).extract 0 k ∧ textOf O D B = (textOf O D (A ++ B)).extract k (textOf O D (A ++ B)).size := by
  subst hk
  rw [textOf_append]
  exact ⟨(ByteArray.extract_append_eq_left rfl).symm, (ByteArray.extract_append_eq_right rfl (by rw [ByteArray.size_append])).symm⟩
end Go.Proofs.Ytfdnlbeancdajaa
