/-
  The law on decoding at an offset, walked.
-/
import Derived.Test.YtcedndjpdgpdgaaDoorWLives
namespace Go.Proofs.YtcedndjpdgpdgaaDoor.W
open Go.RowKit

theorem from_drop (l : List UInt8) (a : Nat) : from_ (l.drop a) 0 = from_ l a := rfl
theorem shift_t {l : List UInt8} {a : Nat} (ha : a ≤ l.length) :
    tV (l.drop a) 0 = tV l a ∧ tE (l.drop a) 0 = tE l a ∧ (tE l a = 0 → tN (l.drop a) 0 + a = tN l a) := by
  have ho : outside l a = false := in_false ha
  have hp : outside (l.drop a) 0 = false := in_false (a := 0) (Nat.zero_le _)
  have h1 := tE_in ho
  have h2 := tE_in hp
  rw [from_drop] at h2
  refine ⟨h2.1.trans h1.1.symm, h2.2.trans h1.2.symm, fun he => ?_⟩
  unfold tN
  rw [if_pos he, if_pos (h2.2.trans (h1.2.symm.trans he)), from_drop]
  omega
theorem shift_x {l : List UInt8} {a : Nat} (ha : a ≤ l.length) (m : Int) :
    xE (l.drop a) 0 m = xE l a m ∧ xV (l.drop a) 0 m = xV l a m ∧ (xE l a m = 0 → xN (l.drop a) 0 m + a = xN l a m) := by
  have h := shift_t ha
  have he : xE (l.drop a) 0 m = xE l a m := by
    unfold xE
    rw [h.1, h.2.1]
    by_cases h0 : tE l a = 0
    · have := h.2.2 h0
      rw [List.length_drop, show (((l.length - a : Nat) : Int) - tN (l.drop a) 0) = (l.length : Int) - tN l a by omega]
    · rw [if_pos h0, if_pos h0]
  refine ⟨he, ?_, fun hz => ?_⟩
  · unfold xV
    rw [he]
    by_cases hz : xE l a m = 0
    · rw [if_pos hz, if_pos hz, h.1]
      have h0 := (xE_zero hz).1
      have h1 := h.2.2 h0
      have h2 := tN_bd h0
      have h3 := tN_bd (l := l.drop a) (at_ := 0) (h.2.1.trans h0)
      rw [List.drop_drop, show a + (tN (l.drop a) 0).toNat = (tN l a).toNat by omega]
    · rw [if_neg hz, if_neg hz]
  · unfold xN
    rw [he, if_pos hz, if_pos hz, h.1]
    have := h.2.2 (xE_zero hz).1
    omega
theorem slice_rest (s : ByteArray) (a : Nat) (h : a ≤ s.size) {d : ByteArray} (hd : s.extract a s.size = d) (W : World) :
    (Instr.slice 9 (.string s) (some (.int .i64 (a : Int))) none none).run Tryd.prog W = .ok (.string d) W := by
  have := run_slice_string_l (P := Tryd.prog) W 9 s Tryd.underlying9 .i64 (a : Int) (by omega) (by omega)
  rw [this, ← hd]
  rfl
theorem tN_bd2 (l : List UInt8) (a : Int) : 0 ≤ tN l a ∧ tN l a ≤ l.length := by
  by_cases h : tE l a = 0
  · have := tN_bd h; omega
  · rw [(t_err h).2]; omega
theorem xN_bd2 (l : List UInt8) (a m : Int) : 0 ≤ xN l a m ∧ xN l a m ≤ l.length := by
  by_cases h : xE l a m = 0
  · have h1 := xE_zero h
    have h2 := tN_bd h1.1
    have h3 := tV_bd l a
    rw [(x_ok h).1]; omega
  · rw [(x_err h).1]; omega
end Go.Proofs.YtcedndjpdgpdgaaDoor.W
