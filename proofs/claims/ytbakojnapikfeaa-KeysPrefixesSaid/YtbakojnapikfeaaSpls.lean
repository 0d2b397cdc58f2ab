/-
  The law on Split, walked.
-/
import Derived.Test.YtbakojnapikfeaaInts
namespace Go.Proofs.Ytbakojnapikfeaa
open Go.RowKit

/-- what Split returns, part by part -/
def cutF (f t k x : ByteArray) : ByteArray := if cuts f.data.toList t.data.toList k.data.toList then x else ⟨#[]⟩
def cutE (f t k : ByteArray) : Int := if cuts f.data.toList t.data.toList k.data.toList then 0 else 1
theorem cutV_parts (f t k : ByteArray) : cutV f t k = .tuple #[.agg #[.string (cutF f t k f), .string (cutF f t k k)], .agg #[.string (cutF f t k k), .string (cutF f t k t)], .int .i64 (cutE f t k)] := by
  unfold cutV cutF cutE
  cases cuts f.data.toList t.data.toList k.data.toList <;> rfl
/-- w1 holds the range, and two ranges from block b on -/
structure Tri (w w1 : World) (f t : ByteArray) (b : Nat) (x y z v : ByteArray) : Prop where
  arg : Has w1 w.heap.size f t
  left : Has w1 b x y
  right : Has w1 (b + 1) z v
  below : Below w.heap.size w w1
  at_a : w.heap.size < w1.heap.size
  at_b : b + 1 < w1.heap.size
theorem Tri.step {w w1 w2 : World} {f t : ByteArray} {b : Nat} {x y z v : ByteArray} (h : Tri w w1 f t b x y z v) (hb : Below w1.heap.size w1 w2) : Tri w w2 f t b x y z v := by
  have h1 := h.at_b
  exact ⟨h.arg.below hb h.at_a, h.left.below hb (by omega), h.right.below hb h.at_b, below_2 h.below hb, Nat.lt_of_lt_of_le h.at_a hb.size, Nat.lt_of_lt_of_le h.at_b hb.size⟩
theorem Tri.new {w w2 : World} {f t : ByteArray} (ha : Has w2 w.heap.size f t) (hb : Below w.heap.size w w2) (hs : w.heap.size < w2.heap.size) (x y z v : ByteArray) :
    Tri w ((w2.alloc (.cells #[.string x, .string y] 23)).alloc (.cells #[.string z, .string v] 23)) f t w2.heap.size x y z v :=
  ⟨(ha.alloc hs _).alloc (by simp; omega) _, (Has.box w2 x y).alloc (by simp) _, Has.box2 w2 _ z v, below_2 hb (below_alloc2 _ _ _), by simp; omega, by simp⟩
set_option maxHeartbeats 1000000 in
set_option maxRecDepth 100000 in
theorem splits_core (f t k a b c d : ByteArray) (x : Int) (hk : k.size ≤ 100) (w : World)
    (g0 : ∀ w, Calls Try.prog 10 #[.agg #[.string f, .string t]] w fun e w' => e = .returned (.bool true) ∧ Below w.heap.size w w')
    (g1 : ∀ w, Calls Try.prog 12 #[.agg #[.string f, .string t], .string k] w fun e w' => e = .returned (.tuple #[.agg #[.string a, .string b], .agg #[.string c, .string d], .int .i64 x]) ∧ Below w.heap.size w w')
    (g2 : ∀ w, Calls Try.prog 23 #[.agg #[.string f, .string t], .string k] w fun e w' => e = .returned (.tuple #[.agg #[.string a, .string b], .agg #[.string c, .string d], .int .i64 x]) ∧ Below w.heap.size w w') :
    Calls Try.prog 7 #[.agg #[.string f, .string t], .string k] w fun e w' => e = .returned (.bool true) ∧ Below w.heap.size w w' := by
  have HB := Lib.hid (Has.box w f t)
  have HW := Lib.hid (below_box w f t)
  have G0 := Lib.hid g0
  have G1 := Lib.hid g1
  have G2 := Lib.hid g2
  clear g0 g1 g2
  go_enter Try.func7, Try.ntmps7
  go_wp2_with fail
  refine (G0.out _).mono ?_; rintro e w1 ⟨rfl, hb1⟩
  have HB1 := Lib.hid (HB.out.below hb1 (by simp))
  have hbw1 := below_2 HW.out hb1
  obtain ⟨a0, a1⟩ := HB1.out
  go_wp2_with fail
  refine (G1.out _).mono ?_; rintro e w2 ⟨rfl, hb2⟩
  have HS2 := Lib.hid (Tri.new (HB1.out.below hb2 (by have := hb1.size; simp at this; omega)) (below_2 hbw1 hb2) (by have := hb1.size; have := hb2.size; simp at *; omega) a b c d)
  obtain ⟨⟨a2, a3⟩, _⟩ := HS2.out
  go_wp2_with fail
  refine (G2.out _).mono ?_; rintro e w3 ⟨rfl, hb3⟩
  have HS3 := Lib.hid ((HS2.out.step hb3).step (below_alloc2 w3 (.cells #[.string a, .string b] 23) (.cells #[.string c, .string d] 23)))
  obtain ⟨_, ⟨c0, c1⟩, ⟨d0, d1⟩, _⟩ := HS3.out
  go_wp2_with (go_at_call 11; refine (lives_any _).mono ?_; rintro e w9 ⟨rfl, hb9⟩)
  go_ret
  exact ⟨rfl, (HS3.out.step hb9).below⟩
set_option maxRecDepth 100000 in
theorem splits_out (f t k : ByteArray) (S : Bool) (h : S = false ∨ ¬ k.size ≤ 100) (w : World)
    (g0 : ∀ w, Calls Try.prog 10 #[.agg #[.string f, .string t]] w fun e w' => e = .returned (.bool S) ∧ Below w.heap.size w w') :
    Calls Try.prog 7 #[.agg #[.string f, .string t], .string k] w fun e w' => e = .returned (.bool true) ∧ Below w.heap.size w w' := by
  have HW := Lib.hid (below_box w f t)
  have G0 := Lib.hid g0
  clear g0
  cases S
  · clear h
    go_enter Try.func7, Try.ntmps7
    go_wp2_with fail
    refine (G0.out _).mono ?_; rintro e w1 ⟨rfl, hb1⟩
    go_wp2_with (go_at_call 11; refine (lives_any _).mono ?_; rintro e w2 ⟨rfl, hb2⟩)
    go_ret
    exact ⟨rfl, below_2 (below_2 HW.out hb1) hb2⟩
  · have hk := h.resolve_left (by decide)
    clear h
    go_enter Try.func7, Try.ntmps7
    go_wp2_with fail
    refine (G0.out _).mono ?_; rintro e w1 ⟨rfl, hb1⟩
    go_wp2_with (go_at_call 11; refine (lives_any _).mono ?_; rintro e w2 ⟨rfl, hb2⟩)
    go_ret
    exact ⟨rfl, below_2 (below_2 HW.out hb1) hb2⟩
theorem keysSplits_walk (f t k : ByteArray) (w : World) :
    Calls Try.prog 7 #[.agg #[.string f, .string t], .string k] w fun e w' => e = .returned (.bool true) ∧ Below w.heap.size w w' := by
  have g0 := short_any f t
  by_cases h : (decide (f.size ≤ 100) && decide (t.size ≤ 100)) = true ∧ k.size ≤ 100
  · obtain ⟨h1, hk⟩ := h
    obtain ⟨hf, ht⟩ := short_sizes h1
    rw [h1] at g0
    have g1 := split_any f t k (by omega) (by omega) (by omega)
    have g2 := rsplit_any f t k (by omega) (by omega) (by omega)
    rw [cutV_parts] at g1 g2
    exact splits_core f t k _ _ _ _ _ hk w g0 g1 g2
  · refine splits_out f t k _ ?_ w g0
    by_cases h1 : (decide (f.size ≤ 100) && decide (t.size ≤ 100)) = true
    · exact Or.inr fun hk => h ⟨h1, hk⟩
    · exact Or.inl (Bool.not_eq_true _ ▸ h1)
end Go.Proofs.Ytbakojnapikfeaa
