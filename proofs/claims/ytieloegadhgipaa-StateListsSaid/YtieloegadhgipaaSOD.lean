/-
  What the program's own choices of Apply, Union and Diff return: contracts, one a closure.
-/
import Derived.Test.YtieloegadhgipaaSOC
import Derived.Test.YtieloegadhgipaaSOS
import Derived.Test.YtieloegadhgipaaSOwn
namespace Go.Proofs.Ytieloegadhgipaa.S
open Go.RowKit
open Go.Proofs.Ytieloegadhgipaa.V (ret_bool ret_int ret_string below_2 below_box below_box2 size_len)

theorem at_head {w : World} {a : Option Addr} {c : Nat} {x : P} {xs : List P} (h : Sl w a c (x :: xs)) : ∃ b o, a = some ⟨b, o, none⟩ ∧ At w b o x := by
  obtain ⟨b, o, e, h1⟩ := h.prs.open (k := 0) (by simp)
  have := h1 0 (by simp)
  simp only [Nat.zero_mul, Nat.add_zero, List.getElem_cons_zero] at this
  exact ⟨b, o, e, this⟩
theorem chA_any (a b : Option Addr) (c d : Nat) (fa fb : List P) (w : World) (hb : fb.length ≤ 1) (hA : Sl w a c fa) (hB : Sl w b d fb) :
    Calls Try.prog 39 #[.slice a fa.length c, .slice b fb.length d] w fun e w' => GivesL e w' (chA fa fb) ∧ Below w.heap.size w w' := by
  have HA := Lib.hid hA
  have HB := Lib.hid hB
  match fb, hb with
  | [], _ =>
    have HR : Hid (chA fa [] = fa) := rfl
    rw [HR.out]
    clear hA hB
    go_enter Try.func39, Try.ntmps39
    go_wp2_with fail
    go_ret
    exact ⟨⟨a, c, rfl, HA.out⟩, Below.refl _ _⟩
  | [y], _ =>
    obtain ⟨b1, o1, rfl, c0, c1, c2, c3⟩ := at_head hB
    have hD := fun w => isDel_any y w
    have HR := Lib.hid (show chA fa [y] = if y.k = 0 then [] else [y] from rfl)
    generalize fa.length = n
    cases hk : (y.k == 0)
    · have HK := Lib.hid (show ¬ y.k = 0 from beq_eq_false_iff_ne.1 hk)
      rw [hk] at hD
      have HD := Lib.hid hD
      clear hA hB hk hD
      go_enter Try.func39, Try.ntmps39
      go_wp2_with fail
      refine (HD.out _).mono ?_; rintro e w1 ⟨rfl, hb1⟩
      go_wp2_with fail
      go_ret
      rw [HR.out, if_neg HK.out]
      exact ⟨⟨_, _, rfl, HB.out.below hb1⟩, hb1⟩
    · have HK := Lib.hid (show y.k = 0 from beq_iff_eq.1 hk)
      rw [hk] at hD
      have HD := Lib.hid hD
      clear hA hB hk hD
      go_enter Try.func39, Try.ntmps39
      go_wp2_with fail
      refine (HD.out _).mono ?_; rintro e w1 ⟨rfl, hb1⟩
      go_wp2_with fail
      go_ret
      rw [HR.out, if_pos HK.out]
      exact ⟨⟨_, _, rfl, Sl.empty _⟩, hb1⟩
theorem same_one {x y : P} : same [x] [y] = decide (x.pr = y.pr) := by
  unfold same prs
  refine V.bool_iff ?_
  rw [decide_eq_true_iff, decide_eq_true_iff]
  simp
theorem same_none {y : P} : same [] [y] = false := decide_eq_false (by simp [prs])
theorem chD_any (a b : Option Addr) (c d : Nat) (fa fb : List P) (w : World) (ha : fa.length ≤ 1) (hb : fb.length ≤ 1) (hn : fa ≠ [] ∨ fb ≠ []) (hA : Sl w a c fa) (hB : Sl w b d fb) :
    Calls Try.prog 33 #[.slice a fa.length c, .slice b fb.length d] w fun e w' => GivesL e w' (chD fa fb) ∧ Below w.heap.size w w' := by
  have HA := Lib.hid hA
  have HB := Lib.hid hB
  match fb, hb with
  | [], _ =>
    match fa, ha with
    | [], _ => exact absurd rfl (hn.resolve_right (fun h => h rfl))
    | [x], _ =>
      obtain ⟨b1, o1, rfl, c0, c1, c2, c3⟩ := at_head hA
      have HR : Hid (chD [x] [] = [⟨x.key, 0, 0, ⟨#[]⟩⟩]) := rfl
      rw [HR.out]
      have HS := Lib.hid (Sl.lit1 w ⟨x.key, 0, 0, ⟨#[]⟩⟩)
      have HW := Lib.hid (fun o => below_box w o)
      clear hA hB hn
      go_enter Try.func33, Try.ntmps33
      go_wp2_with fail
      go_ret
      exact ⟨⟨_, _, rfl, HS.out⟩, HW.out _⟩
  | [y], _ =>
    have hS := osame_any a b c d fa [y] (by omega) w hA.prs hB.prs
    have HR : Hid (chD fa [y] = if same fa [y] then [] else [y]) := by
      match fa, ha with
      | [], _ => rw [same_none]; rfl
      | [x], _ =>
        rw [same_one]
        show (if x.pr = y.pr then [] else [y]) = _
        by_cases e : x.pr = y.pr
        · rw [if_pos e, if_pos (decide_eq_true e)]
        · rw [if_neg e, if_neg (by rw [decide_eq_false e]; decide)]
    cases hk : same fa [y]
    · rw [hk] at hS
      have HR2 : Hid (chD fa [y] = [y]) := by show _ = _; rw [HR.out, hk]; rfl
      have HS := Lib.hid hS
      rw [HR2.out]
      generalize fa.length = n at HS ⊢
      clear hA hB hk hS HR HR2 hn ha
      go_enter Try.func33, Try.ntmps33
      go_wp2_with fail
      refine HS.out.mono ?_; rintro e w1 ⟨rfl, hb1⟩
      go_wp2_with fail
      go_ret
      exact ⟨⟨_, _, rfl, HB.out.below hb1⟩, hb1⟩
    · rw [hk] at hS
      have HR2 : Hid (chD fa [y] = []) := by show _ = _; rw [HR.out, hk]; rfl
      have HS := Lib.hid hS
      rw [HR2.out]
      generalize fa.length = n at HS ⊢
      clear hA hB hk hS HR HR2 hn ha
      go_enter Try.func33, Try.ntmps33
      go_wp2_with fail
      refine HS.out.mono ?_; rintro e w1 ⟨rfl, hb1⟩
      go_wp2_with fail
      go_ret
      exact ⟨⟨_, _, rfl, Sl.empty _⟩, hb1⟩

/-! ### Union's choice writes whether a key is common -/

/-- block N holds the call's own truth value, which may be written -/
structure Flag (N : Nat) (s : Bool) (w : World) : Prop where
  lt : N < w.heap.size
  cell : w.cell? ⟨N, 0, none⟩ = some (.bool s)
  free : w.frozen? ⟨N, 0, none⟩ = false
theorem Flag.below {N B : Nat} {s : Bool} {w w' : World} (h : Flag N s w) (hb : Below B w w') (hB : N < B) : Flag N s w' :=
  ⟨Nat.lt_of_lt_of_le h.lt hb.size, (hb.cell (by exact hB)).trans h.cell, (hb.frozen (by exact hB)).trans h.free⟩
/-- all but block N is as it was from B on, and below N -/
structure Keeps (N B : Nat) (w w' : World) : Prop where
  below : Below N w w'
  row : ∀ g, B ≤ g → g < w.heap.size → w'.heap[g]? = w.heap[g]?
theorem Keeps.of {N B : Nat} {w w' : World} (h : Below w.heap.size w w') (hN : N ≤ w.heap.size) : Keeps N B w w' := ⟨h.mono hN, fun g _ hg => h.block g hg⟩
theorem own_keeps {w w' : World} {N B n size : Nat} {e : TypeId} {v : Value} {xs : List Value} (h : w.ownsRow B e size v n xs) (hb : Keeps N B w w') : w'.ownsRow B e size v n xs := by
  refine ⟨h.1, ?_⟩
  rcases h.2 with h0 | ⟨g, cap, cur, hv, hB, hg, r⟩
  · exact Or.inl h0
  · exact Or.inr ⟨g, cap, cur, hv, hB, (hb.row g hB (Array.getElem?_eq_some_iff.1 hg).1).trans hg, r⟩
def nx (s : Bool) (fa fb : List P) : Bool := s || (!fa.isEmpty && !fb.isEmpty)
theorem flag_set {N : Nat} {s t : Bool} {w : World} (h : Flag N s w) : Flag N t (w.setCell ⟨N, 0, none⟩ (.bool t)) := by
  obtain ⟨h1, h2, h3⟩ := h
  exact ⟨by simpa using h1, by go_simp, by go_simp⟩
theorem keeps_set {N B : Nat} {w : World} {v : Value} (hB : N < B) : Keeps N B w (w.setCell ⟨N, 0, none⟩ v) :=
  ⟨(Below.refl N w).setCell (Nat.le_refl _) _, fun g hg _ => Below.heap_setCell _ _ _ _ (by show g ≠ N; omega)⟩
theorem Sl.setN {w : World} {a : Option Addr} {c N : Nat} {xs : List P} {v : Value} (h : Sl w a c xs) (hx : ∀ b o, a = some ⟨b, o, none⟩ → c ≠ 0 → b ≠ N) : Sl (w.setCell ⟨N, 0, none⟩ v) a c xs :=
  ⟨h.cap, h.nil, fun hc => by
    obtain ⟨b, o, e, h1⟩ := h.pos hc
    refine ⟨b, o, e, fun j hj => ?_⟩
    have hne := hx b o e hc
    have hk : (w.setCell ⟨N, 0, none⟩ v).heap[b]? = w.heap[b]? := Below.heap_setCell _ _ _ _ (by exact hne)
    obtain ⟨c0, c1, c2, c3⟩ := h1 j hj
    exact ⟨(World.cell?_of_block (w := w) hk).trans c0, (World.cell?_of_block (w := w) hk).trans c1, (World.cell?_of_block (w := w) hk).trans c2, (World.cell?_of_block (w := w) hk).trans c3⟩⟩
theorem chU_any (N : Nat) (s : Bool) (a b : Option Addr) (c d : Nat) (fa fb : List P) (w : World) (B : Nat) (hNB : N < B) (ha : fa.length ≤ 1) (hb : fb.length ≤ 1) (hA : Sl w a c fa) (hB : Sl w b d fb) (hI : Flag N s w)
    (hxa : fa ≠ [] → ∀ g o, a = some ⟨g, o, none⟩ → c ≠ 0 → g ≠ N) :
    Calls Try.prog 44 #[.slice a fa.length c, .slice b fb.length d, .pointer (some ⟨N, 0, none⟩)] w fun e w' => GivesL e w' (chU fa fb) ∧ Flag N (nx s fa fb) w' ∧ Keeps N B w w' := by
  have HA := Lib.hid hA
  have HB := Lib.hid hB
  have HI := Lib.hid hI
  obtain ⟨h1, h2, h3⟩ := hI
  match fa, ha with
  | [], _ =>
    have HR : Hid (chU [] fb = fb) := rfl
    have HN : Hid (nx s [] fb = s) := by show _ = _; unfold nx; simp
    rw [HR.out, HN.out]
    have HK : Hid (Keeps N B w w) := ⟨Below.refl _ _, fun _ _ _ => rfl⟩
    clear hA hB
    go_enter Try.func44, Try.ntmps44
    go_wp2_with fail
    go_ret
    exact ⟨⟨b, d, rfl, HB.out⟩, HI.out, HK.out⟩
  | [x], _ =>
    have HR : Hid (chU [x] fb = [x]) := rfl
    rw [HR.out]
    have HS := Lib.hid (fun v => HA.out.setN (N := N) (v := v) (hxa (by simp)))
    have HF := Lib.hid (fun t => flag_set (t := t) HI.out)
    have HK := Lib.hid (fun v => keeps_set (w := w) (v := v) hNB)
    match fb, hb with
    | [], _ =>
      have HN : Hid (nx s [x] [] = s) := by show _ = _; unfold nx; simp
      rw [HN.out]
      clear hA hB h1
      cases s
      all_goals
        go_enter Try.func44, Try.ntmps44
        go_wp2_with fail
        go_ret
        exact ⟨⟨a, c, rfl, HS.out _⟩, HF.out _, HK.out _⟩
    | [y], _ =>
      have HN : Hid (nx s [x] [y] = true) := by show _ = _; unfold nx; simp
      rw [HN.out]
      clear hA hB h1
      cases s
      all_goals
        go_enter Try.func44, Try.ntmps44
        go_wp2_with fail
        go_ret
        exact ⟨⟨a, c, rfl, HS.out _⟩, HF.out _, HK.out _⟩
end Go.Proofs.Ytieloegadhgipaa.S
