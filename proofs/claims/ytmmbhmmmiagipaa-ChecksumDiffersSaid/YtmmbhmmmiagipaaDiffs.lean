/-
  The law on strings that differ in one byte, walked.
-/
import Derived.Test.YtmmbhmmmiagipaaJoins
import Derived.RegionTactic
import Derived.BigRegion
namespace Go.Proofs.Ytmmbhmmmiagipaa
open Go.RowKit

theorem one_run (c : UInt8) (W : World) (B : Nat) (h : W.cell? ⟨B, 0, none⟩ = some (.int .u8 (c.toNat : Int))) :
    (convert 28 9 (.slice (some ⟨B, 0, none⟩) 1 1)).run Try.prog W = .ok (.string ⟨#[c]⟩) W := by
  refine run_convert_bytes_back (P := Try.prog) W 28 9 5 _ 1 [c] Try.underlying28 Try.underlying5 Try.underlying9 ?_
  intro j hj
  have hj0 : j = 0 := by simpa using hj
  subst hj0
  exact h
/-- Behind two blocks more the pair reads as it did. -/
theorem pair_kept (w : World) (p q : Value) (o1 o2 : Obj) :
    (((w.alloc (.cells #[p, q] 44)).alloc o1).alloc o2).drew.cell? ⟨w.heap.size, 0, none⟩ = some p ∧ (((w.alloc (.cells #[p, q] 44)).alloc o1).alloc o2).drew.cell? ⟨w.heap.size, 1, none⟩ = some q ∧
      Below w.heap.size w (((w.alloc (.cells #[p, q] 44)).alloc o1).alloc o2).drew := by
  refine ⟨?_, ?_, ((((Below.refl _ _).alloc (Nat.le_refl _) _).alloc (by simp) _).alloc (by simp; omega) _).drew⟩
  · show (((w.alloc (.cells #[p, q] 44)).alloc o1).alloc o2).cell? ⟨w.heap.size, 0, none⟩ = some p
    rw [World.cell?_alloc_past _ _ _ (by simp; omega), World.cell?_alloc_past _ _ _ (by simp), World.cell?_alloc_at _ _ _ _ rfl]
    rfl
  · show (((w.alloc (.cells #[p, q] 44)).alloc o1).alloc o2).cell? ⟨w.heap.size, 1, none⟩ = some q
    rw [World.cell?_alloc_past _ _ _ (by simp; omega), World.cell?_alloc_past _ _ _ (by simp), World.cell?_alloc_at _ _ _ _ rfl]
    rfl
theorem two_strings (a b c d : ByteArray) {P Q R : Prop} (h : P ∧ Q ∧ R) : Value.string (a ++ c ++ b) = Value.string (a ++ c ++ b) ∧ Value.string (a ++ d ++ b) = Value.string (a ++ d ++ b) ∧ P ∧ Q ∧ R := ⟨rfl, rfl, h⟩
set_option maxRecDepth 100000 in
set_option maxHeartbeats 1000000 in
theorem differs_core (a b c d : ByteArray) (ha : a.size ≤ 200000000000000) (hb : b.size ≤ 200000000000000) (p q : UInt8) (zc : c.size ≤ 1) (zd : d.size ≤ 1)
    (r1 : ∀ (W : World) (B : Nat), W.cell? ⟨B, 0, none⟩ = some (.int .u8 (p.toNat : Int)) → (convert 28 9 (.slice (some ⟨B, 0, none⟩) 1 1)).run Try.prog W = .ok (.string c) W)
    (r2 : ∀ (W : World) (B : Nat), W.cell? ⟨B, 0, none⟩ = some (.int .u8 (q.toNat : Int)) → (convert 28 9 (.slice (some ⟨B, 0, none⟩) 1 1)).run Try.prog W = .ok (.string d) W)
    (f1 f2 k1 k2 : Int) (w : World)
    (g1 : ∀ w, Calls Try.prog 12 #[.string (a ++ c ++ b)] w fun e w' => e = .returned (.int .u64 f1) ∧ w = w')
    (g2 : ∀ w, Calls Try.prog 12 #[.string (a ++ d ++ b)] w fun e w' => e = .returned (.int .u64 f2) ∧ w = w')
    (d1 : ∀ w, Calls Try.prog 19 #[.string (a ++ c ++ b)] w fun e w' => e = .returned (.int .u32 k1) ∧ w = w')
    (d2 : ∀ w, Calls Try.prog 19 #[.string (a ++ d ++ b)] w fun e w' => e = .returned (.int .u32 k2) ∧ w = w')
    (hpq : (((p.toNat : Int) == (q.toNat : Int)) = true ∧ (f1 == f2) = true ∧ (k1 == k2) = true) ∨ (((p.toNat : Int) == (q.toNat : Int)) = false ∧ (f1 != f2) = true ∧ (k1 != k2) = true)) :
    Calls Try.prog 8 #[.string a, .string b, .agg #[.int .u8 (p.toNat : Int), .int .u8 (q.toNat : Int)]] w fun e w' => e = .returned (.bool true) ∧ Below w.heap.size w w' := by
  have G1 := Lib.hid g1
  have G2 := Lib.hid g2
  have D1 := Lib.hid d1
  have D2 := Lib.hid d2
  have HP := Lib.hid hpq
  clear g1 g2 d1 d2 hpq
  go_enter Try.func8, Try.ntmps8
  go_wp2_with fail
  go_cut [7, 8] (fun va vb wx => va = .string (a ++ c ++ b) ∧ vb = .string (a ++ d ++ b) ∧ wx.cell? ⟨w.heap.size, 0, none⟩ = some (.int .u8 (p.toNat : Int)) ∧ wx.cell? ⟨w.heap.size, 1, none⟩ = some (.int .u8 (q.toNat : Int)) ∧ Below w.heap.size w wx)
  case first =>
    go_region
    all_goals
      try go_wp2_with fail
      go_meet
      case rel => exact two_strings a b c d (pair_kept w _ _ _ _)
  case rest =>
    obtain ⟨rfl, rfl, hc1, hc2, hbw⟩ := hcut
    clear r1 r2
    rcases HP.out with ⟨t1, t2, t3⟩ | ⟨t1, t2, t3⟩
    · go_wp2_with fail
      refine (G1.out _).mono ?_; rintro e w' ⟨rfl, rfl⟩
      go_wp2_with fail
      refine (G2.out _).mono ?_; rintro e w' ⟨rfl, rfl⟩
      go_wp2_with fail
      refine (D1.out _).mono ?_; rintro e w' ⟨rfl, rfl⟩
      go_wp2_with fail
      refine (D2.out _).mono ?_; rintro e w' ⟨rfl, rfl⟩
      go_wp2_with (go_at_call 11; refine (lives_any _).mono ?_; rintro e w9 ⟨rfl, hb9⟩)
      go_ret
      exact ⟨rfl, below_2 hbw hb9⟩
    · go_wp2_with fail
      refine (G1.out _).mono ?_; rintro e w' ⟨rfl, rfl⟩
      go_wp2_with fail
      refine (G2.out _).mono ?_; rintro e w' ⟨rfl, rfl⟩
      go_wp2_with fail
      refine (D1.out _).mono ?_; rintro e w' ⟨rfl, rfl⟩
      go_wp2_with fail
      refine (D2.out _).mono ?_; rintro e w' ⟨rfl, rfl⟩
      go_wp2_with (go_at_call 11; refine (lives_any _).mono ?_; rintro e w9 ⟨rfl, hb9⟩)
      go_ret
      exact ⟨rfl, below_2 hbw hb9⟩
theorem int_ne {a b : Nat} (h : a ≠ b) : ((a : Int) != (b : Int)) = true := bne_iff_ne.2 (by omega)
theorem differs_walk (a b : ByteArray) (ha : a.size ≤ 200000000000000) (hb : b.size ≤ 200000000000000) (p q : UInt8) (w : World) :
    Calls Try.prog 8 #[.string a, .string b, .agg #[.int .u8 (p.toNat : Int), .int .u8 (q.toNat : Int)]] w fun e w' => e = .returned (.bool true) ∧ Below w.heap.size w w' := by
  have z : ∀ c : UInt8, (a ++ ⟨#[c]⟩ ++ b).size ≤ 9223372036854775807 := fun c => by
    rw [join_size, join_size, show (ByteArray.mk #[c]).size = 1 from rfl]; omega
  have l : ∀ c : UInt8, (a ++ ⟨#[c]⟩ ++ b).data.toList = a.data.toList ++ [c] ++ b.data.toList := fun c => by rw [append_list, append_list]
  refine differs_core a b ⟨#[p]⟩ ⟨#[q]⟩ ha hb p q (Nat.le_refl 1) (Nat.le_refl 1) (one_run p) (one_run q) _ _ _ _ w (fnv_any _ (z p)) (fnv_any _ (z q)) (crc_any _ (z p)) (crc_any _ (z q)) ?_
  by_cases h : p = q
  · subst h
    exact Or.inl ⟨beq_self_eq_true _, beq_self_eq_true _, beq_self_eq_true _⟩
  · refine Or.inr ⟨byte_beq h, ?_, ?_⟩
    · rw [l, l]; exact int_ne (ext_differs basis basis_lt _ _ p q h)
    · rw [l, l]; exact int_ne (upd_differs 0 (by decide) _ _ p q h)
end Go.Proofs.Ytmmbhmmmiagipaa
