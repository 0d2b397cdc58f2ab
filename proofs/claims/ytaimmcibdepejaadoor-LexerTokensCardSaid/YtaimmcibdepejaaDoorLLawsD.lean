/-
  Laws of layer 7, walked over whatever the program's own functions return: LexerStable, from its core.
-/
import Derived.Test.YtaimmcibdepejaaDoorLLawsC
namespace Go.Proofs.YtaimmcibdepejaaDoor.L
open Go.RowKit

theorem backT_get (xs : List T) (j : Nat) (h1 : j < xs.length) (h2 : j < (backT xs).length) : (backT xs)[j] = ⟨xs[j].k, xs[j].t, xs[j].n, 1⟩ := by
  have e : (backT xs)[j] = ofTok (l1 xs[j].tok) := by simp [backT, toks]
  rw [e]
  rfl
theorem of_get {l : List Tok} {j : Nat} (h : j < (l.map ofTok).length) : (l.map ofTok)[j] = ofTok (l[j]'(by rw [List.length_map] at h; exact h)) := List.getElem_map ofTok
/-- what the tokens of a text are -/
structure GoodT (xs : List T) (m : Nat) : Prop where
  len : xs.length ≤ m
  val : ∀ j (h : j < xs.length), valid xs[j].tok = true ∧ 1 ≤ xs[j].line ∧ xs[j].t.size ≤ 130
  hi : ∀ j (h : j < xs.length), xs[j].line ≤ 1 + (m : Int)
  up : ∀ j (h : j + 1 < xs.length), xs[j].line ≤ xs[j + 1].line
  all : (toks xs).all valid = true
  num : ∀ j (h : j < xs.length), -9223372036854775808 ≤ xs[j].n ∧ xs[j].n ≤ 9223372036854775807
  jl : (jn (toks xs)).length ≤ 2 * m
theorem goodT {s : ByteArray} {ts : List Tok} (hs : s.size ≤ 16384) (h : tz s.data.toList = (ts, 0, 0)) : GoodT (ts.map ofTok) s.size := by
  have hz : tkz (nf s.data.toList) s.data.toList = (ts, 0, 0) := by
    unfold tz at h
    rw [if_neg (by rw [← size_len]; omega)] at h
    exact h
  have G := tkz_good _ _ _ (Nat.le_refl _) ts hz
  have hnf := nf_len s.data.toList
  rw [← size_len] at hnf
  have hcnt := G.cnt
  rw [← size_len] at hcnt
  have hget : ∀ j (h : j < (ts.map ofTok).length), j < ts.length := fun j h => by rw [List.length_map] at h; exact h
  have hv : ∀ j (h : j < ts.length), valid ts[j] = true := fun j h => List.all_eq_true.1 G.val _ (List.getElem_mem h)
  refine ⟨by rw [List.length_map]; exact hcnt, ?_, ?_, ?_, by rw [toks_of]; exact G.val, ?_, by rw [toks_of, size_len]; exact G.len⟩
  · intro j h
    have hj := hget j h
    rw [of_get h]
    refine ⟨hv j hj, ?_, ?_⟩
    · have := (G.low _ (List.getElem_mem hj)).1
      show 1 ≤ ts[j].line
      omega
    · have := valid_len (hv j hj) (G.held _ (List.getElem_mem hj)).2
      rw [size_len]
      exact this
  · intro j h
    have hj := hget j h
    rw [of_get h]
    have := (G.low _ (List.getElem_mem hj)).2
    show ts[j].line ≤ _
    omega
  · intro j h
    have hj := hget (j + 1) h
    rw [of_get h, of_get (show j < (ts.map ofTok).length by omega)]
    exact List.pairwise_iff_getElem.1 G.up j (j + 1) (by omega) hj (by omega)
  · intro j h
    have hj := hget j h
    rw [of_get h]
    exact G.held _ (List.getElem_mem hj)
theorem tz_bad {s : ByteArray} {l : List Tok} {x y : Int} (h : tz s.data.toList = (l, x, y)) (hy : y ≠ 0) : l = [] := by
  unfold tz at h
  split at h
  · exact (congrArg (fun r : Res => r.1) h).symm
  · have hf := (tkz_form _ (nf s.data.toList) s.data.toList (Nat.le_refl _)).2
    rw [h] at hf
    exact hf hy
theorem tz_fine {s : ByteArray} {l : List Tok} {x : Int} (h : tz s.data.toList = (l, x, 0)) : x = 0 := by
  unfold tz at h
  split at h
  · exact absurd (show (2 : Int) = 0 from congrArg (fun r : Res => r.2.2) h) (by decide)
  · have hf := (tkz_form _ (nf s.data.toList) s.data.toList (Nat.le_refl _)).1
    rw [h] at hf
    exact hf rfl
set_option maxRecDepth 100000 in
theorem stable_walk {Tab : World → Prop} (O : Own true Tab) (s : ByteArray) (hs : s.size ≤ 9223372036854775807) (w : World) (hT : Tab w) :
    Calls Tryd.prog 7 #[.string s] w fun e w' => e = .returned (.bool true) ∧ Below w.heap.size w w' := by
  by_cases h : s.size ≤ 600
  · have g1 := O.tz s (by omega)
    obtain ⟨r, hr⟩ : ∃ r, tz s.data.toList = r := ⟨_, rfl⟩
    rw [hr] at g1
    obtain ⟨l, x, y⟩ := r
    by_cases hy : y = 0
    · subst hy
      obtain rfl := tz_fine hr
      have G := goodT (by omega) hr
      have hg1 : ∀ w, Tab w → Calls Tryd.prog 12 #[.string s] w fun e w' => (∃ a c, e = .returned (.tuple #[.slice a (l.map ofTok).length c, .int .i64 0, .int .i64 0]) ∧ Sl w' a c (l.map ofTok)) ∧ Below w.heap.size w w' := fun w h => g1 w h
      clear g1
      generalize l.map ofTok = xs at G hg1
      have hlen := G.len
      have hjl := G.jl
      have hF : FitsT xs := ⟨by omega, fun j hj => ⟨by have := (G.val j hj).2.2; omega, G.num j hj⟩⟩
      have g3 := O.tz ⟨(jn (toks xs)).toArray⟩ (by rw [size_len]; show (jn (toks xs)).length ≤ _; omega)
      rw [show (ByteArray.mk (jn (toks xs)).toArray).data.toList = jn (toks xs) from rfl, tz_join G.all G.num (by omega)] at g3
      refine stable_core O s ⟨(jn (toks xs)).toArray⟩ h xs (backT xs) (by omega) (backT_len xs) (backT_get xs) G.val G.up w hT hg1 ?_ (fun w h => (g3 w h).mono fun e w' ⟨h1, h2⟩ => ⟨h1, h2⟩)
      intro a c w h1 h2
      have hj := O.join rfl a c xs hF w h1 h2
      rw [join_ok G.all (by omega)] at hj
      exact hj
    · obtain rfl := tz_bad hr hy
      exact stable_bad O s h x y hy w hT (fun w hT => (g1 w hT).mono fun e w' ⟨⟨a, c, h1, _⟩, h2⟩ => ⟨⟨a, c, h1⟩, h2⟩)
  · have HW := Lib.hid (lives_any O w hT)
    clear O hT
    go_enter Tryd.func7, Tryd.ntmps7
    go_wp2_with (go_at_call 10; refine HW.out.mono ?_; rintro e w9 ⟨rfl, hb9⟩)
    go_ret
    exact ⟨rfl, hb9⟩
end Go.Proofs.YtaimmcibdepejaaDoor.L
