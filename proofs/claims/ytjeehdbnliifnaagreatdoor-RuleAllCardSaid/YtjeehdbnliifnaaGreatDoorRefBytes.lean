/- The document's own bytes of a code, by their contract. -/
import Derived.Test.YtjeehdbnliifnaaGreatDoorBits
import Derived.Test.YtjeehdbnliifnaaGreatDoorMPlain
namespace Go.Proofs.YtjeehdbnliifnaaGreatDoor
open Go Go.RowKit Go.Lib

theorem bytes_none (c : Int) (h : c < 0 ∨ 1114111 < c ∨ (55296 ≤ c ∧ c ≤ 57343)) : bytesOf c = ⟨#[]⟩ := by
  have hv : Utf8.valid c = false := by simp [Utf8.valid]; omega
  simp [bytesOf, hv]
theorem bytes_some (k : Nat) (h : k < 55296 ∨ (57344 ≤ k ∧ k ≤ 1114111)) : Utf8.valid (k : Int) = true ∧ bytesOf k = Utf8.encode k := by
  have hv : Utf8.valid (k : Int) = true := by simp [Utf8.valid]; omega
  exact ⟨hv, by simp [bytesOf, hv]⟩


set_option maxRecDepth 100000 in
set_option maxHeartbeats 1000000 in
theorem rbytes_none (c : Int) (w : World) (h : c < 0 ∨ 1114111 < c ∨ (55296 ≤ c ∧ c ≤ 57343)) :
    Calls Tryz.prog 64 #[.int .i64 c] w fun e w' => e = .returned (.string ⟨#[]⟩) ∧ Below w.heap.size w w' := by
  rcases h with h | h | ⟨h1, h2⟩
  all_goals
    go_enter Tryz.func64, Tryz.ntmps64
    go_wp2
    go_ret
    exact ⟨rfl, Below.refl _ _⟩

set_option maxRecDepth 100000 in
theorem conv_new (w : World) (B : List Nat) (s : ByteArray) (n : Nat) (hn : B.length = n) (hb : ∀ b ∈ B, b < 256) (hs : s.data.toList = B.map UInt8.ofNat) :
    (convert 64 9 (.slice (some ⟨w.heap.size, 0, none⟩) n n)).run Tryz.prog (w.alloc (.cells (B.map fun (b : Nat) => Value.int .u8 (b : Int)).toArray 5)) = .ok (.string s) (w.alloc (.cells (B.map fun (b : Nat) => Value.int .u8 (b : Int)).toArray 5)) := by
  have hlen : s.data.toList.length = n := by rw [hs, List.length_map, hn]
  have h := run_convert_bytes_back (P := Tryz.prog) (w.alloc (.cells (B.map fun (b : Nat) => Value.int .u8 (b : Int)).toArray 5)) 64 9 5 ⟨w.heap.size, 0, none⟩ n s.data.toList Tryz.underlying64 Tryz.underlying5 Tryz.underlying9 (fun j hj => by
    apply cells_new
    have hjB : j < B.length := by rw [hn, ← hlen]; exact hj
    have e : s.data.toList[j] = UInt8.ofNat B[j] := by simp [hs]
    rw [List.getElem?_map, List.getElem?_eq_getElem hjB, e, ofNat_toNat _ (hb _ (List.getElem_mem hjB))]
    rfl)
  rw [hlen] at h
  have e2 : (⟨s.data.toList.toArray⟩ : ByteArray) = s := by cases s; simp
  rwa [e2] at h

set_option maxRecDepth 100000 in
set_option maxHeartbeats 1000000 in
theorem rbytes_one (k : Nat) (w : World) (h : k < 128) (E : ByteArray) (hE : E.data.toList = [UInt8.ofNat k]) :
    Calls Tryz.prog 64 #[.int .i64 k] w fun e w' => e = .returned (.string E) ∧ Below w.heap.size w w' := by
  have hc := conv_new w [k] E 1 rfl (by simp; omega) (by simpa using hE)
  simp only [List.map_cons, List.map_nil] at hc
  clear hE
  go_enter Tryz.func64, Tryz.ntmps64
  go_wp2
  go_ret
  exact ⟨rfl, (Below.refl _ _).alloc (Nat.le_refl _) _⟩

set_option maxRecDepth 100000 in
set_option maxHeartbeats 1000000 in
theorem rbytes_two (k : Nat) (w : World) (h1 : 128 ≤ k) (h2 : k < 2048) (E : ByteArray) (hE : E.data.toList = [UInt8.ofNat (192 + k / 64), UInt8.ofNat (128 + k % 64)]) :
    Calls Tryz.prog 64 #[.int .i64 k] w fun e w' => e = .returned (.string E) ∧ Below w.heap.size w w' := by
  obtain ⟨B0, hB0⟩ : ∃ B, B = 192 + k / 64 := ⟨_, rfl⟩
  obtain ⟨X1, hX1⟩ : ∃ X, X = k % 64 := ⟨_, rfl⟩
  obtain ⟨B1, hB1⟩ : ∃ B, B = 128 + X1 := ⟨_, rfl⟩
  have hc := conv_new w [B0, B1] E 2 rfl (by simp; omega) (by rw [hE, hB0, hB1, hX1]; rfl)
  simp only [List.map_cons, List.map_nil] at hc
  have f0 : bits .or .i64 192 ((k : Int) / 64) = (B0 : Int) := by rw [hB0]; exact or_i64 192 (k / 64) (by omega) (by omega) (by omega)
  have f1 : bits .and .i64 (k : Int) 63 = (X1 : Int) := by rw [hX1]; exact and63 k (by omega)
  have f2 : bits .or .i64 128 (X1 : Int) = (B1 : Int) := by rw [hB1]; exact or_i64 128 X1 (by omega) (by omega) (by omega)
  have b0 : B0 < 256 := by omega
  have b1 : B1 < 256 := by omega
  have c0 : (B0 : Int) % 256 = B0 := by omega
  have c1 : (B1 : Int) % 256 = B1 := by omega
  clear hE hB0 hB1 hX1
  go_enter Tryz.func64, Tryz.ntmps64
  go_wp2
  go_ret
  exact ⟨rfl, (Below.refl _ _).alloc (Nat.le_refl _) _⟩

set_option maxRecDepth 100000 in
set_option maxHeartbeats 1000000 in
theorem rbytes_three (c : Int) (k : Nat) (hck : c = (k : Int)) (w : World) (h1 : 2048 ≤ k) (h2 : k < 65536) (h3 : k < 55296 ∨ 57344 ≤ k) (E : ByteArray) (hE : E.data.toList = [UInt8.ofNat (224 + k / 4096), UInt8.ofNat (128 + k / 64 % 64), UInt8.ofNat (128 + k % 64)]) :
    Calls Tryz.prog 64 #[.int .i64 c] w fun e w' => e = .returned (.string E) ∧ Below w.heap.size w w' := by
  obtain ⟨B0, hB0⟩ : ∃ B, B = 224 + k / 4096 := ⟨_, rfl⟩
  obtain ⟨X1, hX1⟩ : ∃ X, X = k / 64 % 64 := ⟨_, rfl⟩
  obtain ⟨B1, hB1⟩ : ∃ B, B = 128 + X1 := ⟨_, rfl⟩
  obtain ⟨X2, hX2⟩ : ∃ X, X = k % 64 := ⟨_, rfl⟩
  obtain ⟨B2, hB2⟩ : ∃ B, B = 128 + X2 := ⟨_, rfl⟩
  have hc := conv_new w [B0, B1, B2] E 3 rfl (by simp; omega) (by rw [hE, hB0, hB1, hX1, hB2, hX2]; rfl)
  simp only [List.map_cons, List.map_nil] at hc
  have f0 : bits .or .i64 224 (c / 4096) = (B0 : Int) := by
    rw [hck, hB0]
    have e := bits_join .i64 62 (by decide) wrap62 5 (224 : Int) ((k : Int) / 4096) (by omega) (by omega) (by omega) (by omega) (by omega) (by omega)
    rw [e]; omega
  have f1 : bits .and .i64 (c / 64) 63 = (X1 : Int) := by rw [hck, hX1]; exact and63 (k / 64) (by omega)
  have f2 : bits .or .i64 128 (X1 : Int) = (B1 : Int) := by rw [hB1]; exact or_i64 128 X1 (by omega) (by omega) (by omega)
  have f3 : bits .and .i64 c 63 = (X2 : Int) := by rw [hck, hX2]; exact and63 k (by omega)
  have f4 : bits .or .i64 128 (X2 : Int) = (B2 : Int) := by rw [hB2]; exact or_i64 128 X2 (by omega) (by omega) (by omega)
  have b0 : B0 < 256 := by omega
  have b1 : B1 < 256 := by omega
  have b2 : B2 < 256 := by omega
  have c0 : (B0 : Int) % 256 = B0 := by omega
  have c1 : (B1 : Int) % 256 = B1 := by omega
  have c2 : (B2 : Int) % 256 = B2 := by omega
  have i1 : (2048 : Int) ≤ c := by omega
  have i2 : c < 65536 := by omega
  have i3 : c < 55296 ∨ 57344 ≤ c := by omega
  clear hck hE hB0 hB1 hX1 hB2 hX2 h1 h2 h3
  rcases i3 with h3 | h3
  all_goals
    go_enter Tryz.func64, Tryz.ntmps64
    go_wp2
    go_ret
    exact ⟨rfl, (Below.refl _ _).alloc (Nat.le_refl _) _⟩

set_option maxRecDepth 100000 in
set_option maxHeartbeats 1000000 in
theorem rbytes_four (c : Int) (k : Nat) (hck : c = (k : Int)) (w : World) (h1 : 65536 ≤ k) (h2 : k ≤ 1114111) (E : ByteArray) (hE : E.data.toList = [UInt8.ofNat (240 + k / 262144), UInt8.ofNat (128 + k / 4096 % 64), UInt8.ofNat (128 + k / 64 % 64), UInt8.ofNat (128 + k % 64)]) :
    Calls Tryz.prog 64 #[.int .i64 c] w fun e w' => e = .returned (.string E) ∧ Below w.heap.size w w' := by
  obtain ⟨B0, hB0⟩ : ∃ B, B = 240 + k / 262144 := ⟨_, rfl⟩
  obtain ⟨X3, hX3⟩ : ∃ X, X = k / 4096 % 64 := ⟨_, rfl⟩
  obtain ⟨B3, hB3⟩ : ∃ B, B = 128 + X3 := ⟨_, rfl⟩
  obtain ⟨X1, hX1⟩ : ∃ X, X = k / 64 % 64 := ⟨_, rfl⟩
  obtain ⟨B1, hB1⟩ : ∃ B, B = 128 + X1 := ⟨_, rfl⟩
  obtain ⟨X2, hX2⟩ : ∃ X, X = k % 64 := ⟨_, rfl⟩
  obtain ⟨B2, hB2⟩ : ∃ B, B = 128 + X2 := ⟨_, rfl⟩
  have hc := conv_new w [B0, B3, B1, B2] E 4 rfl (by simp; omega) (by rw [hE, hB0, hB1, hX1, hB2, hX2, hB3, hX3]; rfl)
  simp only [List.map_cons, List.map_nil] at hc
  have f0 : bits .or .i64 240 (c / 262144) = (B0 : Int) := by
    rw [hck, hB0]
    have e := bits_join .i64 62 (by decide) wrap62 4 (240 : Int) ((k : Int) / 262144) (by omega) (by omega) (by omega) (by omega) (by omega) (by omega)
    rw [e]; omega
  have f5 : bits .and .i64 (c / 4096) 63 = (X3 : Int) := by rw [hck, hX3]; exact and63 (k / 4096) (by omega)
  have f6 : bits .or .i64 128 (X3 : Int) = (B3 : Int) := by rw [hB3]; exact or_i64 128 X3 (by omega) (by omega) (by omega)
  have f1 : bits .and .i64 (c / 64) 63 = (X1 : Int) := by rw [hck, hX1]; exact and63 (k / 64) (by omega)
  have f2 : bits .or .i64 128 (X1 : Int) = (B1 : Int) := by rw [hB1]; exact or_i64 128 X1 (by omega) (by omega) (by omega)
  have f3 : bits .and .i64 c 63 = (X2 : Int) := by rw [hck, hX2]; exact and63 k (by omega)
  have f4 : bits .or .i64 128 (X2 : Int) = (B2 : Int) := by rw [hB2]; exact or_i64 128 X2 (by omega) (by omega) (by omega)
  have b0 : B0 < 256 := by omega
  have b1 : B1 < 256 := by omega
  have b2 : B2 < 256 := by omega
  have b3 : B3 < 256 := by omega
  have c0 : (B0 : Int) % 256 = B0 := by omega
  have c1 : (B1 : Int) % 256 = B1 := by omega
  have c2 : (B2 : Int) % 256 = B2 := by omega
  have c3 : (B3 : Int) % 256 = B3 := by omega
  have i1 : 65536 ≤ c := by omega
  have i2 : c ≤ 1114111 := by omega
  clear hck hE hB0 hB1 hX1 hB2 hX2 hB3 hX3 h1 h2
  go_enter Tryz.func64, Tryz.ntmps64
  go_wp2
  go_ret
  exact ⟨rfl, (Below.refl _ _).alloc (Nat.le_refl _) _⟩

/-- The document's own bytes of a code. -/
theorem rbytes_any (c : Int) (w : World) : Calls Tryz.prog 64 #[.int .i64 c] w fun e w' => e = .returned (.string (bytesOf c)) ∧ Below w.heap.size w w' := by
  by_cases h : c < 0 ∨ 1114111 < c ∨ (55296 ≤ c ∧ c ≤ 57343)
  · rw [bytes_none c h]
    exact rbytes_none c w h
  · obtain ⟨k, rfl⟩ : ∃ k : Nat, c = k := ⟨c.toNat, by omega⟩
    obtain ⟨hv, hb⟩ := bytes_some k (by omega)
    rw [hb]
    rcases enc_cases k hv with ⟨h1, e⟩ | ⟨h1, h2, e⟩ | ⟨h1, h2, h3, e⟩ | ⟨h1, h2, e⟩
    · exact rbytes_one k w h1 _ e
    · exact rbytes_two k w h1 h2 _ e
    · exact rbytes_three _ k rfl w h1 h2 h3 _ e
    · exact rbytes_four _ k rfl w h1 h2 _ e
end Go.Proofs.YtjeehdbnliifnaaGreatDoor
