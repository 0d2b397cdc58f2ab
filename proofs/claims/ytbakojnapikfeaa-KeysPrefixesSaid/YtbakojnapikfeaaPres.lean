/-
  The law on prefixes, walked.
-/
import Derived.Test.YtbakojnapikfeaaSpls
namespace Go.Proofs.Ytbakojnapikfeaa
open Go.RowKit

/-- what Prefix returns, part by part -/
def incF (p : ByteArray) : ByteArray := if valid p.data.toList then p else ⟨#[]⟩
def incT (p : ByteArray) : ByteArray := if valid p.data.toList then binc p else ⟨#[]⟩
def incE (p : ByteArray) : Int := if valid p.data.toList then 0 else if p.data.toList = [] then 0 else 1
theorem incV_parts (p : ByteArray) : incV p = .tuple #[.agg #[.string (incF p), .string (incT p)], .int .i64 (incE p)] := by
  unfold incV incF incT incE
  cases valid p.data.toList <;> rfl
set_option maxHeartbeats 1000000 in
set_option maxRecDepth 100000 in
theorem prefixes_core (p k x y d : ByteArray) (E : Int) (K Q : Bool) (hp : p.size ≤ 100) (hk : k.size ≤ 100) (he : (E = 0 ∧ K = Q) ∨ E = 1)
    (hd : (k.size < p.size ∧ Q = false) ∨ (p.size ≤ k.size ∧ (d.toList == p.toList) = Q ∧ ∀ W, (Instr.slice 9 (.string k) none (some (.int .i64 (p.size : Int))) none).run Try.prog W = .ok (.string d) W)) (w : World)
    (g1 : ∀ w, Calls Try.prog 24 #[.string p] w fun e w' => e = .returned (.tuple #[.agg #[.string x, .string y], .int .i64 E]) ∧ Below w.heap.size w w')
    (g2 : ∀ w, Calls Try.prog 25 #[.string p] w fun e w' => e = .returned (.tuple #[.agg #[.string x, .string y], .int .i64 E]) ∧ Below w.heap.size w w')
    (g3 : ∀ w, Calls Try.prog 16 #[.agg #[.string x, .string y], .string k] w fun e w' => e = .returned (.bool K) ∧ Below w.heap.size w w') :
    Calls Try.prog 8 #[.string p, .string k] w fun e w' => e = .returned (.bool true) ∧ Below w.heap.size w w' := by
  have G1 := Lib.hid g1
  have G2 := Lib.hid g2
  have G3 := Lib.hid g3
  clear g1 g2 g3
  rcases hd with ⟨hd, rfl⟩ | ⟨hd, hq, hrun⟩
  · rcases he with ⟨rfl, rfl⟩ | rfl
    · go_enter Try.func8, Try.ntmps8
      go_wp2_with fail
      refine (G1.out _).mono ?_; rintro e w1 ⟨rfl, hb1⟩
      have HX := Lib.hid (Has.box w1 x y)
      go_wp2_with fail
      refine (G2.out _).mono ?_; rintro e w2 ⟨rfl, hb2⟩
      have hbw := below_2 (below_2 hb1 (below_box w1 x y)) (below_2 hb2 (below_box w2 x y))
      obtain ⟨c0, c1⟩ := (HX.out.below hb2 (by simp)).alloc (by have := hb2.size; simp at this; omega) (.cells #[.string x, .string y] 23)
      go_wp2_with fail
      refine (G3.out _).mono ?_; rintro e w3 ⟨rfl, hb3⟩
      go_wp2_with (go_at_call 11; refine (lives_any _).mono ?_; rintro e w9 ⟨rfl, hb9⟩)
      go_ret
      exact ⟨rfl, below_2 (below_2 hbw hb3) hb9⟩
    · go_enter Try.func8, Try.ntmps8
      go_wp2_with fail
      refine (G1.out _).mono ?_; rintro e w1 ⟨rfl, hb1⟩
      have HX := Lib.hid (Has.box w1 x y)
      go_wp2_with fail
      refine (G2.out _).mono ?_; rintro e w2 ⟨rfl, hb2⟩
      have hbw := below_2 (below_2 hb1 (below_box w1 x y)) (below_2 hb2 (below_box w2 x y))
      obtain ⟨c0, c1⟩ := (HX.out.below hb2 (by simp)).alloc (by have := hb2.size; simp at this; omega) (.cells #[.string x, .string y] 23)
      go_wp2_with (go_at_call 11; refine (lives_any _).mono ?_; rintro e w9 ⟨rfl, hb9⟩)
      go_ret
      exact ⟨rfl, below_2 hbw hb9⟩
  · rcases he with ⟨rfl, rfl⟩ | rfl
    · go_enter Try.func8, Try.ntmps8
      go_wp2_with fail
      refine (G1.out _).mono ?_; rintro e w1 ⟨rfl, hb1⟩
      have HX := Lib.hid (Has.box w1 x y)
      go_wp2_with fail
      refine (G2.out _).mono ?_; rintro e w2 ⟨rfl, hb2⟩
      have hbw := below_2 (below_2 hb1 (below_box w1 x y)) (below_2 hb2 (below_box w2 x y))
      obtain ⟨c0, c1⟩ := (HX.out.below hb2 (by simp)).alloc (by have := hb2.size; simp at this; omega) (.cells #[.string x, .string y] 23)
      go_wp2_with fail
      refine (G3.out _).mono ?_; rintro e w3 ⟨rfl, hb3⟩
      go_wp2_with (go_at_call 11; refine (lives_any _).mono ?_; rintro e w9 ⟨rfl, hb9⟩)
      go_ret
      exact ⟨rfl, below_2 (below_2 hbw hb3) hb9⟩
    · go_enter Try.func8, Try.ntmps8
      go_wp2_with fail
      refine (G1.out _).mono ?_; rintro e w1 ⟨rfl, hb1⟩
      have HX := Lib.hid (Has.box w1 x y)
      go_wp2_with fail
      refine (G2.out _).mono ?_; rintro e w2 ⟨rfl, hb2⟩
      have hbw := below_2 (below_2 hb1 (below_box w1 x y)) (below_2 hb2 (below_box w2 x y))
      obtain ⟨c0, c1⟩ := (HX.out.below hb2 (by simp)).alloc (by have := hb2.size; simp at this; omega) (.cells #[.string x, .string y] 23)
      go_wp2_with (go_at_call 11; refine (lives_any _).mono ?_; rintro e w9 ⟨rfl, hb9⟩)
      go_ret
      exact ⟨rfl, below_2 hbw hb9⟩
set_option maxRecDepth 100000 in
theorem prefixes_out (p k : ByteArray) (h : ¬ p.size ≤ 100 ∨ (p.size ≤ 100 ∧ ¬ k.size ≤ 100)) (w : World) :
    Calls Try.prog 8 #[.string p, .string k] w fun e w' => e = .returned (.bool true) ∧ Below w.heap.size w w' := by
  rcases h with hp | ⟨hp, hk⟩
  all_goals
    go_enter Try.func8, Try.ntmps8
    go_wp2_with (go_at_call 11; refine (lives_any _).mono ?_; rintro e w2 ⟨rfl, hb2⟩)
    go_ret
    exact ⟨rfl, hb2⟩
theorem begins_eq (p k : ByteArray) : ((k.extract 0 p.size).toList == p.toList) = decide (p.data.toList <+: k.data.toList) := by
  rw [eql_eq]
  refine bool_iff ?_
  rw [decide_eq_true_iff, decide_eq_true_iff, List.prefix_iff_eq_take, ← size_len]
  have e : (k.extract 0 p.size).data.toList = k.data.toList.take p.size := by simp [ByteArray.data_extract]
  rw [e]
  exact eq_comm
theorem begins_not {p k : ByteArray} (h : k.size < p.size) : decide (p.data.toList <+: k.data.toList) = false := by
  refine decide_eq_false fun hh => ?_
  have := hh.length_le
  rw [← size_len, ← size_len] at this
  omega
theorem inc_sizes {p : ByteArray} (hp : p.size ≤ 100) : (incF p).size ≤ 100 ∧ (incT p).size ≤ 100 := by
  unfold incF incT
  cases hv : valid p.data.toList
  · exact ⟨Nat.zero_le _, Nat.zero_le _⟩
  · refine ⟨hp, ?_⟩
    show (binc p).size ≤ 100
    rw [binc_size (valid_ne hv)]
    exact hp
/-- (P4.5) in the walk's form. -/
theorem inc_law (p k : ByteArray) : (incE p = 0 ∧ cont (incF p).data.toList (incT p).data.toList k.data.toList = decide (p.data.toList <+: k.data.toList)) ∨ incE p = 1 := by
  unfold incE incF incT
  cases hv : valid p.data.toList
  · by_cases hn : p.data.toList = []
    · refine Or.inl ⟨by rw [if_neg (by decide), if_pos hn], ?_⟩
      rw [hn]
      exact (none_cont _).trans (by simp)
    · exact Or.inr (by rw [if_neg (by decide), if_neg hn])
  · exact Or.inl ⟨rfl, prefix_cont hv _⟩
theorem keysPrefixes_walk (p k : ByteArray) (w : World) :
    Calls Try.prog 8 #[.string p, .string k] w fun e w' => e = .returned (.bool true) ∧ Below w.heap.size w w' := by
  by_cases hp : p.size ≤ 100
  · by_cases hk : k.size ≤ 100
    · have g1 := prefix_any p (by omega)
      have g2 := rprefix_any p (by omega)
      rw [incV_parts] at g1 g2
      obtain ⟨hx, hy⟩ := inc_sizes hp
      refine prefixes_core p k _ _ (k.extract 0 p.size) _ (cont (incF p).data.toList (incT p).data.toList k.data.toList) (decide (p.data.toList <+: k.data.toList)) hp hk (inc_law p k) ?_ w g1 g2 (contains_any _ _ k (by omega) (by omega))
      by_cases h : p.size ≤ k.size
      · exact Or.inr ⟨h, begins_eq p k, fun W => run_slice_string_h (P := Try.prog) W 9 k Try.underlying9 .i64 (p.size : Int) (by omega) (by omega)⟩
      · exact Or.inl ⟨by omega, begins_not (by omega)⟩
    · exact prefixes_out p k (Or.inr ⟨hp, hk⟩) w
  · exact prefixes_out p k (Or.inl hp) w
end Go.Proofs.Ytbakojnapikfeaa
