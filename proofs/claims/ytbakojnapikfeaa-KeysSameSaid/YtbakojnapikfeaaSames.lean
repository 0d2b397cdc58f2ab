/-
  What Same returns, of the program and of the reference: contracts; the law on Same, walked.
-/
import Derived.Test.YtbakojnapikfeaaLaws
import Derived.Deep.LoopGhost
import Derived.Deep.Draws
import Derived.RegionTactic
import Derived.BigRegion
namespace Go.Proofs.Ytbakojnapikfeaa
open Go.RowKit

/-- the slice at a holds the strings xs -/
def Strs (w : World) (a : Option Addr) (xs : List ByteArray) : Prop :=
  xs = [] ∨ ∃ b o, a = some ⟨b, o, none⟩ ∧ ∀ j, j < xs.length → w.cell? ⟨b, o + j, none⟩ = some (.string (xs.getD j ByteArray.empty))
theorem Strs.below {w w' : World} {a : Option Addr} {xs : List ByteArray} (h : Strs w a xs) (hb : Below w.heap.size w w') : Strs w' a xs := by
  rcases h with h | ⟨b, o, rfl, h⟩
  · exact Or.inl h
  · refine Or.inr ⟨b, o, rfl, fun j hj => ?_⟩
    rw [← h j hj]
    exact hb.cell (block_lt_of_cell (h j hj))
theorem below_drewN (w : World) (n : Nat) : Below w.heap.size w (w.drewN n) := ⟨rfl, rfl, rfl, Nat.le_refl _, fun _ _ => rfl⟩
/-- whether two lists of strings are one -/
def same (xs ys : List ByteArray) : Bool := decide (xs = ys)
theorem equal_any (a b : Option Addr) (c d : Nat) (xs ys : List ByteArray) (hx : xs.length ≤ 100) (hy : ys.length ≤ 100) {w : World} (hA : Strs w a xs) (hB : Strs w b ys) :
    Calls Try.prog 36 #[.slice a xs.length c, .slice b ys.length d] w fun e w' => e = .returned (.bool (same xs ys)) ∧ Below w.heap.size w w' := by
  by_cases hxe : xs = []
  · subst hxe
    refine (Try.slices_Equal_string_empty a b c ys.length d w (by omega)).mono ?_
    rintro e w' ⟨rfl, rfl⟩
    refine ⟨ret_bool ?_, Below.refl _ _⟩
    unfold same
    exact decide_eq_decide.2 (by rw [List.length_eq_zero_iff, eq_comm])
  · by_cases hye : ys = []
    · subst hye
      obtain ⟨b1, o1, rfl, h1⟩ := hA.resolve_left hxe
      have hne : ¬ (xs.length : Int) = 0 := by
        intro h
        exact hxe (List.length_eq_zero_iff.1 (by omega))
      have HV : Hid (same xs [] = false) := by unfold same; exact decide_eq_false hxe
      show Calls Try.prog 36 #[.slice (some ⟨b1, o1, none⟩) xs.length c, .slice b 0 d] w _
      clear hA hB h1 hxe
      go_enter Try.func36, Try.ntmps36
      go_wp2_with fail
      go_ret
      exact ⟨ret_bool HV.out.symm, Below.refl _ _⟩
    · obtain ⟨b1, o1, rfl, h1⟩ := hA.resolve_left hxe
      obtain ⟨b2, o2, rfl, h2⟩ := hB.resolve_left hye
      refine (Try.slices_Equal_string b1 o1 xs.length c b2 o2 ys.length d xs ys w (Nat.le_refl _) (Nat.le_refl _) (by omega) (by omega) h1 h2).mono ?_
      rintro e w' ⟨rfl, q, rfl⟩
      refine ⟨ret_bool ?_, below_drewN w q⟩
      unfold same
      rw [List.take_length, List.take_length]
theorem same_any (a b : Option Addr) (c d : Nat) (xs ys : List ByteArray) (hx : xs.length ≤ 100) (hy : ys.length ≤ 100) {w : World} (hA : Strs w a xs) (hB : Strs w b ys) :
    Calls Try.prog 26 #[.slice a xs.length c, .slice b ys.length d] w fun e w' => e = .returned (.bool (same xs ys)) ∧ Below w.heap.size w w' := by
  have H1 := Lib.hid (equal_any a b c d xs ys hx hy hA hB)
  clear hA hB
  go_enter Try.func26, Try.ntmps26
  go_wp2_with fail
  refine H1.out.mono ?_; rintro e w1 ⟨rfl, hb1⟩
  go_wp2_with fail
  go_ret
  exact ⟨rfl, hb1⟩
theorem same_len {xs ys : List ByteArray} (h : ¬ xs.length = ys.length) : same xs ys = false := by
  unfold same
  exact decide_eq_false fun e => h (by rw [e])
theorem same_elem {xs ys : List ByteArray} {k : Nat} (h : xs.getD k ByteArray.empty ≠ ys.getD k ByteArray.empty) : same xs ys = false := by
  unfold same
  exact decide_eq_false fun e => h (by rw [e])
theorem same_all {xs ys : List ByteArray} (h : xs.length = ys.length) (h2 : ∀ j, j < xs.length → xs.getD j ByteArray.empty = ys.getD j ByteArray.empty) : same xs ys = true := by
  unfold same
  refine decide_eq_true (List.ext_getElem h fun j h3 h4 => ?_)
  have := h2 j h3
  rw [List.getD_eq_getElem?_getD, List.getD_eq_getElem?_getD, List.getElem?_eq_getElem h3, List.getElem?_eq_getElem h4] at this
  exact this
set_option maxHeartbeats 1000000 in
set_option maxRecDepth 100000 in
theorem rsame_any (a b : Option Addr) (c d : Nat) (xs ys : List ByteArray) (hx : xs.length ≤ 100) (hy : ys.length ≤ 100) {w : World} (hA : Strs w a xs) (hB : Strs w b ys) :
    Calls Try.prog 27 #[.slice a xs.length c, .slice b ys.length d] w fun e w' => e = .returned (.bool (same xs ys)) ∧ Below w.heap.size w w' := by
  by_cases hnm : xs.length = ys.length
  · by_cases hxe : xs = []
    · subst hxe
      have hye : ys = [] := List.length_eq_zero_iff.1 hnm.symm
      subst hye
      show Calls Try.prog 27 #[.slice a 0 c, .slice b 0 d] w _
      have HV : Hid (same [] [] = true) := rfl
      clear hA hB hnm hx hy
      go_enter Try.func27, Try.ntmps27
      go_wp2
      go_loopg [5] 0 (fun _ s5 wr => s5 = .int .i64 0 ∧ wr = w)
      case atStart => exact ⟨rfl, rfl⟩
      case round =>
        obtain ⟨rfl, rfl⟩ := hrel
        go_wp2
        go_ret
        exact ⟨ret_bool HV.out.symm, Below.refl _ _⟩
    · have hye : ys ≠ [] := by
        intro h
        rw [h] at hnm
        exact hxe (List.length_eq_zero_iff.1 hnm)
      obtain ⟨b1, o1, rfl, h1⟩ := hA.resolve_left hxe
      obtain ⟨b2, o2, rfl, h2⟩ := hB.resolve_left hye
      have HN := Lib.hid hnm
      rw [← hnm] at h2 ⊢
      obtain ⟨n, hn⟩ : ∃ n, xs.length = n := ⟨_, rfl⟩
      rw [hn] at h1 h2 hx ⊢
      have HL := Lib.hid hn
      clear hA hB hxe hye hnm hn hy
      go_enter Try.func27, Try.ntmps27
      go_wp2
      go_loopg [5] n (fun g s5 wr => ∃ k q : Nat, k ≤ n ∧ n - k ≤ g ∧ s5 = .int .i64 k ∧ wr = w.drewN q ∧ ∀ j, j < k → xs.getD j ByteArray.empty = ys.getD j ByteArray.empty)
      case atStart => exact ⟨0, 0, Nat.zero_le _, by omega, rfl, rfl, fun j hj => absurd hj (Nat.not_lt_zero _)⟩
      case round =>
        obtain ⟨k, q, hk, hg, rfl, rfl, heq⟩ := hrel
        have HA := Lib.hid heq
        clear heq
        by_cases hlt : k < n
        · have g1 : w.cell? ⟨b1, o1 + k, none⟩ = some (.string (xs.getD k ByteArray.empty)) := h1 k (by omega)
          have g2 : w.cell? ⟨b2, o2 + k, none⟩ = some (.string (ys.getD k ByteArray.empty)) := h2 k (by omega)
          clear h1 h2
          generalize hxk : xs.getD k ByteArray.empty = x at g1
          generalize hyk : ys.getD k ByteArray.empty = y at g2
          have HX := Lib.hid hxk
          have HY := Lib.hid hyk
          clear hxk hyk
          by_cases hxy : x = y
          · subst hxy
            go_wp2_with fail
            go_region
            go_wp2
            go_roundg (n - (k + 1))
            case measure => omega
            case rel =>
              refine ⟨k + 1, q + 1, by omega, by omega, by go_num, rfl, fun j hj => ?_⟩
              by_cases e : j = k
              · subst e
                rw [HX.out, HY.out]
              · exact HA.out j (by omega)
          · have hxy' : (x.toList == y.toList) = false := (Lib.bytes_beq_false_iff _ _).2 hxy
            have HV : Hid (same xs ys = false) := same_elem (k := k) (by rw [HX.out, HY.out]; exact hxy)
            go_wp2_with fail
            go_region
            go_wp2
            go_ret
            exact ⟨ret_bool HV.out.symm, below_drewN w (q + 1)⟩
        · have hkn : k = n := by omega
          subst hkn
          have HV : Hid (same xs ys = true) := same_all HN.out fun j hj => HA.out j (by rw [HL.out] at hj; exact hj)
          clear h1 h2
          go_wp2
          go_ret
          exact ⟨ret_bool HV.out.symm, below_drewN w q⟩
  · have hne : ¬ (xs.length : Int) = (ys.length : Int) := by omega
    have HV := Lib.hid (same_len hnm)
    clear hA hB hnm
    go_enter Try.func27, Try.ntmps27
    go_wp2
    go_ret
    exact ⟨ret_bool HV.out.symm, Below.refl _ _⟩

/-! ### the law -/

set_option maxRecDepth 100000 in
theorem sames_core (a b : Option Addr) (n m c d : Nat) (hn : n ≤ 100) (hm : m ≤ 100) (Q : Bool) (w : World)
    (g1 : Calls Try.prog 26 #[.slice a n c, .slice b m d] w fun e w' => e = .returned (.bool Q) ∧ Below w.heap.size w w')
    (g2 : ∀ w1, Below w.heap.size w w1 → Calls Try.prog 27 #[.slice a n c, .slice b m d] w1 fun e w' => e = .returned (.bool Q) ∧ Below w1.heap.size w1 w')
    (g3 : ∀ w1, Below w.heap.size w w1 → Calls Try.prog 26 #[.slice a n c, .slice a n c] w1 fun e w' => e = .returned (.bool true) ∧ Below w1.heap.size w1 w') :
    Calls Try.prog 9 #[.slice a n c, .slice b m d] w fun e w' => e = .returned (.bool true) ∧ Below w.heap.size w w' := by
  have G1 := Lib.hid g1
  have G2 := Lib.hid g2
  have G3 := Lib.hid g3
  clear g1 g2 g3
  go_enter Try.func9, Try.ntmps9
  go_wp2_with fail
  refine G1.out.mono ?_; rintro e w1 ⟨rfl, hb1⟩
  go_wp2_with fail
  refine (G2.out w1 hb1).mono ?_; rintro e w2 ⟨rfl, hb2⟩
  have hb3 := below_2 hb1 hb2
  go_wp2_with fail
  refine (G3.out w2 hb3).mono ?_; rintro e w4 ⟨rfl, hb4⟩
  go_wp2_with (go_at_call 11; refine (lives_any _).mono ?_; rintro e w9 ⟨rfl, hb9⟩)
  go_ret
  exact ⟨rfl, below_2 (below_2 hb3 hb4) hb9⟩
set_option maxRecDepth 100000 in
theorem sames_out (a b : Option Addr) (n m c d : Nat) (h : ¬ n ≤ 100 ∨ (n ≤ 100 ∧ ¬ m ≤ 100)) (hn : n ≤ 9223372036854775807) (hm : m ≤ 9223372036854775807) (w : World) :
    Calls Try.prog 9 #[.slice a n c, .slice b m d] w fun e w' => e = .returned (.bool true) ∧ Below w.heap.size w w' := by
  rcases h with h | ⟨h, h2⟩
  all_goals
    go_enter Try.func9, Try.ntmps9
    go_wp2_with (go_at_call 11; refine (lives_any _).mono ?_; rintro e w9 ⟨rfl, hb9⟩)
    go_ret
    exact ⟨rfl, hb9⟩
theorem same_self (xs : List ByteArray) : same xs xs = true := decide_eq_true rfl
theorem keysSame_walk (a b : Option Addr) (c d : Nat) (xs ys : List ByteArray) (hx : xs.length ≤ 9223372036854775807) (hy : ys.length ≤ 9223372036854775807) (w : World) (hA : Strs w a xs) (hB : Strs w b ys) :
    Calls Try.prog 9 #[.slice a xs.length c, .slice b ys.length d] w fun e w' => e = .returned (.bool true) ∧ Below w.heap.size w w' := by
  by_cases h1 : xs.length ≤ 100
  · by_cases h2 : ys.length ≤ 100
    · refine sames_core a b _ _ c d h1 h2 _ w (same_any a b c d xs ys h1 h2 hA hB) (fun w1 hb => rsame_any a b c d xs ys h1 h2 (hA.below hb) (hB.below hb)) (fun w1 hb => ?_)
      have h := same_any a a c c xs xs h1 h1 (hA.below hb) (hA.below hb)
      rw [same_self] at h
      exact h
    · exact sames_out a b _ _ c d (Or.inr ⟨h1, h2⟩) hx hy w
  · exact sames_out a b _ _ c d (Or.inl h1) hx hy w
end Go.Proofs.Ytbakojnapikfeaa
