/-
  What the reference of layer 7 returns: IsName, Printable, Quote, skip, feeds: contracts, one a function.
-/
import Derived.Test.YtbmdadhbkdkgmaaDoorLRefs
namespace Go.Proofs.YtbmdadhbkdkgmaaDoor.L
open Go.RowKit

theorem all_take {p : UInt8 → Bool} : ∀ {l : Str}, (l.takeWhile p).length = l.length ↔ l.all p = true
  | [] => by simp
  | c :: l => by
    rw [List.takeWhile_cons, List.all_cons]
    cases hc : p c
    · rw [if_neg (by decide)]; simp
    · rw [if_pos rfl, List.length_cons, List.length_cons, Bool.true_and, ← all_take (l := l)]; omega
theorem list_cons {s : ByteArray} (h : 0 < s.size) : s.data.toList = s[0] :: s.data.toList.drop 1 := by
  have := drop_get s 0 h
  rwa [List.drop_zero] at this
theorem name_short {s : ByteArray} (h : ¬ 0 < s.size) : isName s.data.toList = false := by
  have : s.data.toList = [] := List.length_eq_zero_iff.1 (by rw [← size_len]; omega)
  rw [this]; rfl
theorem name_long {s : ByteArray} (h : ¬ s.size ≤ 16) : isName s.data.toList = false := by
  unfold isName; rw [decide_eq_false (by rw [← size_len]; exact h)]; rfl
theorem name_head {s : ByteArray} (h : 0 < s.size) (h2 : letter s[0] = false) : isName s.data.toList = false := by
  unfold isName
  rw [show headL s.data.toList = false from by rw [list_cons h]; exact h2]; simp
theorem name_part {s : ByteArray} (h : ¬ wl s 0 = s.size) : isName s.data.toList = false := by
  unfold isName
  cases ha : s.data.toList.all part
  · simp
  · exact absurd (by unfold wl; rw [List.drop_zero, size_len]; exact all_take.2 ha) h
theorem name_kw {s : ByteArray} (h : 0 < s.size) (h1 : s.size ≤ 16) (h2 : letter s[0] = true) (h3 : wl s 0 = s.size) : isName s.data.toList = !isKw s.data.toList := by
  unfold isName
  rw [decide_eq_true (by rw [← size_len]; exact h1), show headL s.data.toList = true from by rw [list_cons h]; exact h2]
  rw [all_take.1 (by unfold wl at h3; rw [List.drop_zero] at h3; rw [h3, size_len])]
  rfl
/-! ### Printable, Quote -/

def upto (p : UInt8 → Bool) (s : ByteArray) (k : Nat) : Prop := ∀ j (h : j < s.size), j < k → p s[j] = true
theorem upto_all {p : UInt8 → Bool} {s : ByteArray} (h : upto p s s.size) : s.data.toList.all p = true := by
  rw [List.all_eq_true]
  intro c hc
  obtain ⟨j, hj, rfl⟩ := List.mem_iff_getElem.1 hc
  have hj2 : j < s.size := by rw [size_len]; exact hj
  exact h j hj2 hj2
theorem upto_not {p : UInt8 → Bool} {s : ByteArray} {k : Nat} (h : k < s.size) (hp : p s[k] = false) : s.data.toList.all p = false := by
  rw [List.all_eq_false]
  refine ⟨s[k], ?_, by rw [hp]; decide⟩
  exact List.getElem_mem (l := s.data.toList) (by rw [← size_len]; exact h)
theorem prt_not {c : UInt8} (h : prt c = false) : (c.toNat : Int) < 32 ∨ 126 < (c.toNat : Int) := by
  apply Decidable.byContradiction
  intro h2
  rw [prt_iff.2 ⟨by omega, by omega⟩] at h; cases h
theorem esc_app : ∀ a b : Str, esc (a ++ b) = esc a ++ esc b
  | [], _ => rfl
  | c :: a, b => by
    rw [List.cons_append, esc, esc, esc_app a b]
    split <;> rfl
theorem take_snoc (s : ByteArray) (k : Nat) (h : k < s.size) : s.data.toList.take (k + 1) = s.data.toList.take k ++ [s[k]] := by
  rw [List.take_succ_eq_append_getElem (by simpa using h)]; rfl
def pairS (r : Str × Int) : Value := .tuple #[.string ⟨r.1.toArray⟩, .int .i64 r.2]
theorem qt_long {s : ByteArray} (h : 64 < s.size) : qt s.data.toList = ([], 2) := by unfold qt; rw [if_pos (by rw [← size_len]; exact h)]
theorem qt_bad {s : ByteArray} (h : ¬ 64 < s.size) (h2 : s.data.toList.all prt = false) : qt s.data.toList = ([], 1) := by unfold qt; rw [if_neg (by rw [← size_len]; exact h), if_neg (by rw [h2]; decide)]
theorem qt_ok {s : ByteArray} (h : ¬ 64 < s.size) (h2 : s.data.toList.all prt = true) : qt s.data.toList = (quo s.data.toList, 0) := by unfold qt; rw [if_neg (by rw [← size_len]; exact h), if_pos h2]
/-! ### skip, feeds -/

/-- where what is left begins -/
def sk (b : Bool) (s : ByteArray) (k : Nat) : Nat := s.size - (skp b (s.data.toList.drop k)).length
theorem sk_end (b : Bool) (s : ByteArray) : sk b s s.size = s.size := by unfold sk; rw [drop_all]; cases b <;> rfl
theorem sk_hash {s : ByteArray} {k : Nat} (h : k < s.size) (hc : s[k].toNat = 35) : sk false s k = sk true s k := by
  unfold sk
  rw [drop_get s k h, skp, skp, if_pos hc, if_neg (by omega)]
theorem sk_in {s : ByteArray} {k : Nat} (h : k < s.size) (hc : ¬ s[k].toNat = 10) : sk true s k = sk true s (k + 1) := by
  unfold sk
  rw [drop_get s k h, skp, if_neg hc]
theorem sk_out {s : ByteArray} {k : Nat} (h : k < s.size) (hc : s[k].toNat = 10) : sk true s k = sk false s k := by
  unfold sk
  rw [drop_get s k h, skp, skp, if_pos hc, if_neg (by omega), if_pos (by omega)]
theorem sk_blank {s : ByteArray} {k : Nat} (h : k < s.size) (hc : s[k].toNat = 32 ∨ s[k].toNat = 9 ∨ s[k].toNat = 10) : sk false s k = sk false s (k + 1) := by
  unfold sk
  rw [drop_get s k h, skp, if_neg (by omega), if_pos hc]
theorem sk_stop {s : ByteArray} {k : Nat} (h : k < s.size) (h0 : ¬ s[k].toNat = 35) (hc : ¬ (s[k].toNat = 32 ∨ s[k].toNat = 9 ∨ s[k].toNat = 10)) : sk false s k = k := by
  unfold sk
  rw [drop_get s k h, skp, if_neg h0, if_neg hc, ← drop_get s k h, List.length_drop, ← size_len]; omega
theorem sk_le (b : Bool) (s : ByteArray) (k : Nat) : sk b s k ≤ s.size := by unfold sk; omega
/-- what is left from there on -/
theorem sk_drop (s : ByteArray) (k : Nat) (hk : k ≤ s.size) : s.data.toList.drop (sk false s k) = skp false (s.data.toList.drop k) ∧ k ≤ sk false s k := by
  have h := skp_suffix false (s.data.toList.drop k)
  have h2 : skp false (s.data.toList.drop k) <:+ s.data.toList := h.trans (List.drop_suffix _ _)
  have hl := h.length_le
  rw [List.length_drop, ← size_len] at hl
  refine ⟨?_, by unfold sk; omega⟩
  rw [List.suffix_iff_eq_drop] at h2
  conv => rhs; rw [h2]
  rw [← size_len]; rfl
theorem nf_take {s : ByteArray} {k : Nat} (h : k < s.size) : nf (s.data.toList.take (k + 1)) = nf (s.data.toList.take k) + if s[k].toNat = 10 then 1 else 0 := by
  rw [take_snoc s k h, nf_app]
  congr 1
  unfold nf
  rw [List.countP_cons]
  by_cases hc : s[k].toNat = 10
  · rw [if_pos (decide_eq_true hc), if_pos hc]; rfl
  · rw [if_neg (by rw [decide_eq_false hc]; decide), if_neg hc]; rfl
theorem nf_len (l : Str) : nf l ≤ l.length := List.countP_le_length
end Go.Proofs.YtbmdadhbkdkgmaaDoor.L
