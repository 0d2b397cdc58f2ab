/-
  The law on the sizes of varints, walked.
-/
import Derived.Test.YtigimnccclaiiaaLives
namespace Go.Proofs.Ytigimnccclaiiaa
open Go.RowKit
open Go.Lib (uvarint zigzag)

/-- how many groups are left -/
def nb (y : Nat) : Nat := if y = 0 then 0 else (uvarint y).length
theorem nb_start (u : Nat) : 1 + nb (u / 128) = (uvarint u).length := by
  unfold nb
  by_cases h : u < 128
  · rw [if_pos (by omega), Lib.uvarint_small h]; rfl
  · rw [if_neg (by omega), Lib.uvarint_big (x := u) (by omega), List.length_cons]; omega
theorem nb_next {y : Nat} (h : 0 < y) : nb y = 1 + nb (y / 128) := by
  rw [nb_start]
  unfold nb
  rw [if_neg (by omega)]
theorem uvarint_mono (u : Nat) : ∀ v, u ≤ v → (uvarint u).length ≤ (uvarint v).length := by
  induction u using Nat.strongRecOn with
  | _ u ih =>
    intro v h
    by_cases hu : u < 128
    · rw [Lib.uvarint_small hu]
      exact Lib.uvarint_pos v
    · rw [Lib.uvarint_big (x := u) (by omega), Lib.uvarint_big (x := v) (by omega), List.length_cons, List.length_cons]
      have := ih (u / 128) (by omega) (v / 128) (Nat.div_le_div_right h)
      omega
theorem mk_size (l : List UInt8) : (ByteArray.mk l.toArray).size = l.length := by rw [size_len]
set_option maxRecDepth 100000 in
theorem sizes_walk (u v : Nat) (hu : u < 18446744073709551616) (hv : v < 18446744073709551616) (w : World) :
    Calls Try.prog 9 #[.int .u64 u, .int .u64 v] w fun e w' => e = .returned (.bool true) ∧ Below w.heap.size w w' := by
  have hu1 := uint_any u hu
  have hv1 := uint_any v hv
  have hc := mk_size (uvarint u)
  have hd := mk_size (uvarint v)
  have hs := Lib.hid (nb_start u)
  have hle := uvarint_mono u v
  have hten := Lib.uvarint_length64 hu
  rw [← hc, ← hd] at hle
  rw [← hc] at hten
  rw [← hc] at hs
  clear hc hd
  generalize ByteArray.mk (uvarint u).toArray = c at hu1 hle hs hten
  generalize ByteArray.mk (uvarint v).toArray = d at hv1 hle
  have HU := Lib.hid hu1
  have HV := Lib.hid hv1
  have HLE := Lib.hid hle
  clear hu1 hv1 hle
  go_enter Try.func9, Try.ntmps9
  go_wp2
  go_loop [5, 6] (fun vz vx => ∃ z y : Nat, vz = .int .i64 z ∧ vx = .int .u64 y ∧ y ≤ u ∧ Hid (z + nb y = c.size)) (fun _ vx => (intOf vx).toNat)
  case atStart => exact ⟨1, u / 128, rfl, by go_num, by omega, hs⟩
  case round =>
    obtain ⟨z, y, rfl, rfl, hy, HZ⟩ := hrel
    have hz10 : z ≤ 10 := by have := HZ.out; omega
    by_cases h0 : 0 < y
    · have HN : Hid (z + 1 + nb (y / 128) = c.size) := by have := HZ.out; rw [nb_next h0] at this; show _ = _; omega
      go_wp2
      go_round
      case rel => exact ⟨z + 1, y / 128, by go_num, by go_num, by omega, HN⟩
      case measure => simp [intOf]; omega
    · obtain rfl : c.size = z := by have := HZ.out; rw [show y = 0 by omega] at this; exact this.symm
      by_cases huv : v < u
      · go_wp2_with (first
          | (go_at_call 12; refine (HU.out _).mono ?_; rintro e w1 ⟨rfl, hb1⟩)
          | (go_at_call 11; refine (lives_any _).mono ?_; rintro e w9 ⟨rfl, hb9⟩))
        go_ret
        exact ⟨rfl, below_2 hb1 hb9⟩
      · have hcd := HLE.out (by omega)
        go_wp2_with fail
        refine (HU.out _).mono ?_; rintro e w1 ⟨rfl, hb1⟩
        go_wp2_with fail
        refine (HV.out _).mono ?_; rintro e w2 ⟨rfl, hb2⟩
        go_wp2_with (go_at_call 11; refine (lives_any _).mono ?_; rintro e w9 ⟨rfl, hb9⟩)
        go_ret
        exact ⟨rfl, below_2 (below_2 hb1 hb2) hb9⟩
end Go.Proofs.Ytigimnccclaiiaa
