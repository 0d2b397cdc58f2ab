/-
  What the program's own functions of layer 7 must return (Own, over whatever a table asks of the world); the law package's own helpers, over it.
-/
import Derived.Test.YtaimmcibdepejaaDoorLJoin
namespace Go.Proofs.YtaimmcibdepejaaDoor.L
open Go.RowKit

/-- tokens as arguments may be -/
structure FitsT (xs : List T) : Prop where
  len : xs.length ≤ 1000000000
  each : ∀ j (h : j < xs.length), xs[j].t.size ≤ 1000000000000000 ∧ -9223372036854775808 ≤ xs[j].n ∧ xs[j].n ≤ 9223372036854775807
structure Own (jb : Bool) (Tab : World → Prop) : Prop where
  stays : ∀ w w', Tab w → Below w.heap.size w w' → Tab w'
  kw : ∀ (s : ByteArray), s.size ≤ 1000000000000000 → ∀ w, Tab w → Calls Tryd.prog 15 #[.string s] w fun e w' => e = .returned (.bool (isKw s.data.toList)) ∧ Below w.heap.size w w'
  name : ∀ (s : ByteArray), s.size ≤ 1000000000000000 → ∀ w, Tab w → Calls Tryd.prog 17 #[.string s] w fun e w' => e = .returned (.bool (isName s.data.toList)) ∧ Below w.heap.size w w'
  quote : ∀ (s : ByteArray), s.size ≤ 1000000000000000 → ∀ w, Tab w → Calls Tryd.prog 13 #[.string s] w fun e w' => e = .returned (pairS (qt s.data.toList)) ∧ Below w.heap.size w w'
  tz : ∀ (s : ByteArray), s.size ≤ 1000000000000000 → ∀ w, Tab w → Calls Tryd.prog 12 #[.string s] w fun e w' => GivesT e w' (tz s.data.toList) ∧ Below w.heap.size w w'
  join : jb = true → ∀ (a : Option Addr) (c : Nat) (xs : List T), FitsT xs → ∀ w, Tab w → Tks w a xs → Calls Tryd.prog 11 #[.slice a xs.length c] w fun e w' => e = .returned (pairS (join (toks xs))) ∧ Below w.heap.size w w'

/-! ### small -/

def smallT (xs : List T) : Bool := decide (xs.length ≤ 40) && decide (∀ j (h : j < xs.length), j < 41 → xs[j].t.size ≤ 200)
theorem smallT_yes {xs : List T} (h : smallT xs = true) : xs.length ≤ 40 ∧ ∀ j (h : j < xs.length), xs[j].t.size ≤ 200 := by
  unfold smallT at h
  simp only [Bool.and_eq_true, decide_eq_true_eq] at h
  exact ⟨h.1, fun j hj => h.2 j hj (by omega)⟩
theorem smallT_bad {xs : List T} {k : Nat} (h : k < xs.length) (h1 : k < 41) (h2 : 200 < xs[k].t.size) : smallT xs = false := by
  unfold smallT
  rw [Bool.and_eq_false_iff]
  exact Or.inr (decide_eq_false fun e => by have := e k h h1; omega)
theorem smallT_end {xs : List T} (h : ∀ j (h : j < xs.length), j < 41 → xs[j].t.size ≤ 200) : smallT xs = decide (xs.length ≤ 40) := by
  unfold smallT
  rw [decide_eq_true h, Bool.and_true]
set_option maxHeartbeats 2000000 in
set_option maxRecDepth 100000 in
theorem small_any (a : Option Addr) (c : Nat) (xs : List T) (hx : xs.length ≤ 1000000000000000) (hs : ∀ j (h : j < xs.length), xs[j].t.size ≤ 9223372036854775800) (w : World) (hA : Tks w a xs) :
    Calls Tryd.prog 9 #[.slice a xs.length c] w fun e w' => e = .returned (.bool (smallT xs)) ∧ Below w.heap.size w w' := by
  have HA := Lib.hid hA
  have HZ := Lib.hid hs
  clear hA hs
  obtain ⟨n, hn⟩ : ∃ n, xs.length = n := ⟨_, rfl⟩
  have HL := Lib.hid hn
  rw [hn] at hx ⊢
  clear hn
  go_enter Tryd.func9, Tryd.ntmps9
  go_wp2
  go_loopw [3] (fun s3 wr => ∃ k : Nat, k ≤ n ∧ k ≤ 41 ∧ s3 = .int .i64 k ∧ Below w.heap.size w wr ∧ Hid (∀ j (h : j < xs.length), j < k → xs[j].t.size ≤ 200)) (fun s3 _ => n - (intOf s3).toNat)
  case atStart => exact ⟨0, Nat.zero_le _, Nat.zero_le _, rfl, Below.refl _ _, fun j _ h => absurd h (Nat.not_lt_zero _)⟩
  case round =>
    obtain ⟨k, hk, hk41, rfl, hb, HK⟩ := hrel
    by_cases hlt : k < n
    · by_cases h41 : k < 41
      · have hlx : k < xs.length := by rw [HL.out]; exact hlt
        obtain ⟨b1, o1, rfl, hc⟩ := (HA.out.below hb).open hlx
        obtain ⟨c0, c1, c2, c3⟩ := hc k hlx
        have hz := HZ.out k hlx
        by_cases hq : 200 < xs[k].t.size
        · have HV := Lib.hid (smallT_bad hlx h41 hq)
          generalize xs[k] = p at c0 c1 c2 c3 hz hq
          clear hc
          go_wp2_with fail
          go_ret
          exact ⟨ret_bool HV.out.symm, hb⟩
        · have HK2 : Hid (∀ j (h : j < xs.length), j < k + 1 → xs[j].t.size ≤ 200) := by
            intro j h1 hj
            by_cases e : j = k
            · subst e; omega
            · exact HK.out j h1 (by omega)
          generalize xs[k] = p at c0 c1 c2 c3 hz hq
          clear hc
          go_wp2_with fail
          go_roundw
          case rel => exact ⟨k + 1, by omega, by omega, by go_num, hb, HK2⟩
          case measure => simp [intOf]; omega
      · have HV := Lib.hid (smallT_end (xs := xs) fun j h1 hj => HK.out j h1 (by omega))
        rw [HL.out] at HV
        go_wp2_with fail
        go_ret
        exact ⟨ret_bool (by rw [HV.out]; exact decide_eq_decide.2 (by omega)), hb⟩
    · have HV := Lib.hid (smallT_end (xs := xs) fun j h1 hj => HK.out j h1 (by have := HL.out; omega))
      rw [HL.out] at HV
      go_wp2_with fail
      go_ret
      exact ⟨ret_bool (by rw [HV.out]; exact decide_eq_decide.2 (by omega)), hb⟩

/-! ### the examples -/

theorem t_1 : tz (ByteArray.mk #[108, 101, 116, 32, 120, 61, 49, 48, 59, 32, 35, 32, 116, 101, 110]).data.toList = ([⟨2, [108, 101, 116], 0, 1⟩, ⟨1, [120], 0, 1⟩, ⟨5, [61], 0, 1⟩, ⟨3, [], 10, 1⟩, ⟨5, [59], 0, 1⟩], 0, 0) := by decide
theorem t_2 : tz (ByteArray.mk #[97, 10, 49, 120]).data.toList = ([], 2, 5) := by decide
theorem q_1 : pairS (qt (ByteArray.mk #[115, 97, 121, 32, 34, 104, 105, 34]).data.toList) = .tuple #[.string ⟨#[34, 115, 97, 121, 32, 92, 34, 104, 105, 92, 34, 34]⟩, .int .i64 0] := by rw [qt_ok (by decide) (by decide)]; rfl
def exL : List T := [⟨2, ⟨#[108, 101, 116]⟩, 0, 1⟩, ⟨1, ⟨#[120]⟩, 0, 1⟩, ⟨5, ⟨#[61]⟩, 0, 1⟩, ⟨3, ⟨#[]⟩, 10, 1⟩, ⟨5, ⟨#[59]⟩, 0, 1⟩]
theorem same_self (xs : List T) : same xs xs = true := decide_eq_true rfl
theorem GivesT.open {e : Ending} {w' : World} {r : Res} {l : List Tok} {x y : Int} {xs : List T} (h : GivesT e w' r) (hr : r = (l, x, y)) (hl : l.map ofTok = xs) : ∃ a c, e = .returned (.tuple #[.slice a xs.length c, .int .i64 x, .int .i64 y]) ∧ Sl w' a c xs := by
  subst hr hl; exact h
theorem exL_lit (w : World) : Tks (w.alloc (.cells #[.int .i64 2, .string ⟨#[108, 101, 116]⟩, .int .i64 0, .int .i64 1, .int .i64 1, .string ⟨#[120]⟩, .int .i64 0, .int .i64 1, .int .i64 5, .string ⟨#[61]⟩, .int .i64 0, .int .i64 1, .int .i64 3, .string ⟨#[]⟩, .int .i64 10, .int .i64 1, .int .i64 5, .string ⟨#[59]⟩, .int .i64 0, .int .i64 1] 31)) (some ⟨w.heap.size, 0, none⟩) exL :=
  Or.inr ⟨w.heap.size, 0, rfl, fun j hj => by
    rcases (show j = 0 ∨ j = 1 ∨ j = 2 ∨ j = 3 ∨ j = 4 by have : j < 5 := hj; omega) with rfl | rfl | rfl | rfl | rfl
    all_goals exact ⟨by go_simp; rfl, by go_simp; rfl, by go_simp; rfl, by go_simp; rfl⟩⟩
theorem exL_same (a : Option Addr) (c : Nat) (w : World) (h : Tks w a exL) (w1 : World) (hb : Below w.heap.size w w1) (h2 : Tks w1 (some ⟨w.heap.size, 0, none⟩) exL) :
    Calls Tryd.prog 20 #[.slice a 5 c, .slice (some ⟨w.heap.size, 0, none⟩) 5 5] w1 fun e w' => e = .returned (.bool true) ∧ Below w1.heap.size w1 w' :=
  (rsame_any a (some ⟨w.heap.size, 0, none⟩) c 5 exL exL (by decide) w1 (h.below hb) h2).mono fun e w' ⟨h1, h2⟩ => ⟨by rw [h1, same_self], h2⟩
set_option maxHeartbeats 4000000 in
set_option maxRecDepth 100000 in
theorem lives_any {jb : Bool} {Tab : World → Prop} (O : Own jb Tab) (w : World) (hT : Tab w) :
    Calls Tryd.prog 10 #[] w fun e w' => e = .returned (.bool true) ∧ Below w.heap.size w w' := by
  have P1 := Lib.hid (O.tz ⟨#[108, 101, 116, 32, 120, 61, 49, 48, 59, 32, 35, 32, 116, 101, 110]⟩ (by decide))
  have P2 := Lib.hid (O.tz ⟨#[97, 10, 49, 120]⟩ (by decide))
  have P3 := Lib.hid (O.quote ⟨#[115, 97, 121, 32, 34, 104, 105, 34]⟩ (by decide))
  have HSt := Lib.hid O.stays
  rw [q_1] at P3
  rw [t_1] at P1
  rw [t_2] at P2
  have HT := Lib.hid hT
  clear hT O
  go_enter Tryd.func10, Tryd.ntmps10
  go_wp2_with fail
  refine (P1.out _ HT.out).mono ?_; rintro e w1 ⟨hG, hb1⟩
  obtain ⟨a1, c1, rfl, hS1⟩ := hG.open (xs := exL) rfl rfl
  have HB1 := Lib.hid hb1
  clear hG hb1
  have HS1 := Lib.hid hS1
  clear hS1
  simp only [show exL.length = 5 from rfl] at *
  go_wp2_with fail
  refine (P2.out _ (HSt.out _ _ HT.out HB1.out)).mono ?_; rintro e w2 ⟨hG, hb2⟩
  obtain ⟨a2, c2, rfl, _⟩ := hG.open (xs := []) rfl rfl
  have HS2 := Lib.hid (HS1.out.below hb2)
  have HB2 := Lib.hid (below_2 HB1.out hb2)
  clear hG hb2
  simp only [List.length_nil] at *
  go_wp2_with fail
  refine (P3.out _ (HSt.out _ _ HT.out HB2.out)).mono ?_; rintro e w3 ⟨rfl, hb3⟩
  have HS3 := Lib.hid (HS2.out.below hb3)
  have HB3 := Lib.hid (below_2 HB2.out hb3)
  clear hb3
  go_wp2_with fail
  refine (exL_same a1 c1 w3 HS3.out.prs _ (below_box _ _) (exL_lit w3)).mono ?_; rintro e w4 ⟨rfl, hb4⟩
  go_wp2_with fail
  go_ret
  exact ⟨rfl, below_2 (below_2 HB3.out (below_box w3 _)) hb4⟩
end Go.Proofs.YtaimmcibdepejaaDoor.L
