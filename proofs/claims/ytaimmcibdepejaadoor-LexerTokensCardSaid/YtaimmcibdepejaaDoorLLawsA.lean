/-
  Laws of layer 7, walked over whatever the program's own functions return: LexerWords, LexerTokens, LexerJoins.
-/
import Derived.Test.YtaimmcibdepejaaDoorLOwn
namespace Go.Proofs.YtaimmcibdepejaaDoor.L
open Go.RowKit

set_option maxRecDepth 100000 in
theorem words_core {jb : Bool} {Tab : World → Prop} (O : Own jb Tab) (s q : ByteArray) (K N : Bool) (x : Int) (hs : s.size ≤ 200) (w : World) (hT : Tab w)
    (g1 : ∀ w, Tab w → Calls Tryd.prog 15 #[.string s] w fun e w' => e = .returned (.bool K) ∧ Below w.heap.size w w')
    (g2 : ∀ w, Calls Tryd.prog 16 #[.string s] w fun e w' => e = .returned (.bool K) ∧ Below w.heap.size w w')
    (g3 : ∀ w, Tab w → Calls Tryd.prog 17 #[.string s] w fun e w' => e = .returned (.bool N) ∧ Below w.heap.size w w')
    (g4 : ∀ w, Calls Tryd.prog 18 #[.string s] w fun e w' => e = .returned (.bool N) ∧ Below w.heap.size w w')
    (g5 : ∀ w, Tab w → Calls Tryd.prog 13 #[.string s] w fun e w' => e = .returned (.tuple #[.string q, .int .i64 x]) ∧ Below w.heap.size w w')
    (g6 : ∀ w, Calls Tryd.prog 14 #[.string s] w fun e w' => e = .returned (.tuple #[.string q, .int .i64 x]) ∧ w' = w) :
    Calls Tryd.prog 4 #[.string s] w fun e w' => e = .returned (.bool true) ∧ Below w.heap.size w w' := by
  have G1 := Lib.hid g1
  have G2 := Lib.hid g2
  have G3 := Lib.hid g3
  have G4 := Lib.hid g4
  have G5 := Lib.hid g5
  have G6 := Lib.hid g6
  have HSt := Lib.hid O.stays
  have HV := Lib.hid (lives_any O)
  have HT := Lib.hid hT
  clear g1 g2 g3 g4 g5 g6 O hT
  go_enter Tryd.func4, Tryd.ntmps4
  go_wp2_with fail
  refine (G5.out _ HT.out).mono ?_; rintro e w1 ⟨rfl, hb1⟩
  have B1 := Lib.hid hb1
  clear hb1
  go_wp2_with fail
  refine (G6.out _).mono ?_; rintro e w2 ⟨rfl, rfl⟩
  go_wp2_with fail
  refine (G1.out _ (HSt.out _ _ HT.out B1.out)).mono ?_; rintro e w3 ⟨rfl, hb3⟩
  have B3 := Lib.hid (below_2 B1.out hb3)
  clear hb3
  go_wp2_with fail
  refine (G2.out _).mono ?_; rintro e w4 ⟨rfl, hb4⟩
  have B4 := Lib.hid (below_2 B3.out hb4)
  clear hb4
  go_wp2_with fail
  refine (G3.out _ (HSt.out _ _ HT.out B4.out)).mono ?_; rintro e w5 ⟨rfl, hb5⟩
  have B5 := Lib.hid (below_2 B4.out hb5)
  clear hb5
  go_wp2_with fail
  refine (G4.out _).mono ?_; rintro e w6 ⟨rfl, hb6⟩
  have B6 := Lib.hid (below_2 B5.out hb6)
  clear hb6
  go_wp2_with fail
  refine (HV.out _ (HSt.out _ _ HT.out B6.out)).mono ?_; rintro e w7 ⟨rfl, hb7⟩
  go_wp2_with fail
  go_ret
  exact ⟨rfl, below_2 B6.out hb7⟩
set_option maxRecDepth 100000 in
theorem words_walk {jb : Bool} {Tab : World → Prop} (O : Own jb Tab) (s : ByteArray) (hs : s.size ≤ 9223372036854775807) (w : World) (hT : Tab w) :
    Calls Tryd.prog 4 #[.string s] w fun e w' => e = .returned (.bool true) ∧ Below w.heap.size w w' := by
  by_cases h : s.size ≤ 200
  · exact words_core O s _ _ _ _ h w hT (O.kw s (by omega)) (fun w => isKw_any s w) (O.name s (by omega)) (fun w => isName_any s (by omega) w) (O.quote s (by omega)) (fun w => quote_any s (by omega) w)
  · have HW := Lib.hid (lives_any O w hT)
    clear O hT
    go_enter Tryd.func4, Tryd.ntmps4
    go_wp2_with (go_at_call 10; refine HW.out.mono ?_; rintro e w9 ⟨rfl, hb9⟩)
    go_ret
    exact ⟨rfl, hb9⟩

/-! ### Tokenize -/

set_option maxRecDepth 100000 in
theorem tokens_core {jb : Bool} {Tab : World → Prop} (O : Own jb Tab) (s : ByteArray) (hc : s.size ≤ 600 ∨ 16384 < s.size) (r : Res) (hs : s.size ≤ 1000000000000000) (hr : (r.1.map ofTok).length ≤ 1000000000000) (w : World) (hT : Tab w)
    (g1 : ∀ w, Tab w → Calls Tryd.prog 12 #[.string s] w fun e w' => GivesT e w' r ∧ Below w.heap.size w w')
    (g2 : ∀ w, Calls Tryd.prog 19 #[.string s] w fun e w' => GivesT e w' r ∧ Below w.heap.size w w') :
    Calls Tryd.prog 5 #[.string s] w fun e w' => e = .returned (.bool true) ∧ Below w.heap.size w w' := by
  have G1 := Lib.hid g1
  have G2 := Lib.hid g2
  have HSt := Lib.hid O.stays
  have HV := Lib.hid (lives_any O)
  have HT := Lib.hid hT
  clear g1 g2 O hT
  obtain ⟨l, x, y⟩ := r
  simp only at hr
  obtain ⟨xs, hxs⟩ : ∃ xs, l.map ofTok = xs := ⟨_, rfl⟩
  rw [hxs] at hr
  have HX := Lib.hid hxs
  have HR := Lib.hid hr
  clear hxs hr
  rcases hc with hc | hc
  all_goals
    go_enter Tryd.func5, Tryd.ntmps5
    go_wp2_with fail
    refine (G1.out _ HT.out).mono ?_; rintro e w1 ⟨hG, hb1⟩
    obtain ⟨a1, c1, rfl, hS1⟩ := hG.open rfl HX.out
    have B1 := Lib.hid hb1
    have S1 := Lib.hid hS1
    clear hb1 hS1 hG
    go_wp2_with fail
    refine (G2.out _).mono ?_; rintro e w2 ⟨hG, hb2⟩
    obtain ⟨a2, c2, rfl, hS2⟩ := hG.open rfl HX.out
    have B2 := Lib.hid (below_2 B1.out hb2)
    have S2 := Lib.hid hS2
    have S12 := Lib.hid (S1.out.below hb2)
    clear hb2 hS2 hG
    have HSm := Lib.hid (rsame_any a1 a2 c1 c2 xs xs HR.out w2 S12.out.prs S2.out.prs)
    rw [same_self] at HSm
    go_wp2_with fail
    refine HSm.out.mono ?_; rintro e w3 ⟨rfl, hb3⟩
    have B3 := Lib.hid (below_2 B2.out hb3)
    clear hb3
    go_wp2_with fail
    refine (HV.out _ (HSt.out _ _ HT.out B3.out)).mono ?_; rintro e w7 ⟨rfl, hb7⟩
    go_wp2_with fail
    go_ret
    exact ⟨rfl, below_2 B3.out hb7⟩
theorem joinT_len (t : Tok) (r : Res) : (joinT [t] r).1.length ≤ r.1.length + 1 := by
  unfold joinT
  split
  · exact Nat.zero_le _
  · simp
theorem tkzF_len : ∀ (n N : Nat) (l : Str), (tkzF n N l).1.length ≤ n
  | 0, _, _ => Nat.le_refl _
  | n + 1, N, l => by
    rw [tkzF.eq_def]
    simp only
    split
    · exact Nat.zero_le _
    · split
      · exact Nat.zero_le _
      · refine Nat.le_trans (joinT_len _ _) (Nat.succ_le_succ (tkzF_len n N _))
theorem tz_len1 (s : ByteArray) : ((tz s.data.toList).1.map ofTok).length ≤ s.size + 1 := by
  rw [List.length_map]
  unfold tz
  split
  · exact Nat.zero_le _
  · rw [size_len]; exact tkzF_len _ _ _
theorem tz_len (s : ByteArray) : ((tz s.data.toList).1.map ofTok).length ≤ 16385 := by
  by_cases h : 16384 < s.size
  · rw [List.length_map]
    unfold tz
    rw [if_pos (by rw [← size_len]; exact h)]
    exact Nat.zero_le _
  · have := tz_len1 s
    omega
set_option maxRecDepth 100000 in
theorem tokens_walk {jb : Bool} {Tab : World → Prop} (O : Own jb Tab) (s : ByteArray) (hs : s.size ≤ 1000000000000000) (w : World) (hT : Tab w) :
    Calls Tryd.prog 5 #[.string s] w fun e w' => e = .returned (.bool true) ∧ Below w.heap.size w w' := by
  by_cases h : s.size ≤ 600 ∨ 16384 < s.size
  · exact tokens_core O s h _ hs (Nat.le_trans (tz_len s) (by decide)) w hT (O.tz s (by omega)) (fun w => rtz_any s (by omega) w)
  · have HW := Lib.hid (lives_any O w hT)
    have h1 : 600 < s.size := by omega
    have h2 : s.size ≤ 16384 := by omega
    clear O hT h
    go_enter Tryd.func5, Tryd.ntmps5
    go_wp2_with (go_at_call 10; refine HW.out.mono ?_; rintro e w9 ⟨rfl, hb9⟩)
    go_ret
    exact ⟨rfl, hb9⟩

/-! ### Join -/

set_option maxRecDepth 100000 in
theorem joins_core {jb : Bool} {Tab : World → Prop} (O : Own jb Tab) (a : Option Addr) (c : Nat) (xs : List T) (q : ByteArray) (x : Int) (w : World) (hT : Tab w) (hA : Tks w a xs)
    (g0 : ∀ w, Tks w a xs → Calls Tryd.prog 9 #[.slice a xs.length c] w fun e w' => e = .returned (.bool true) ∧ Below w.heap.size w w')
    (g1 : ∀ w, Tab w → Tks w a xs → Calls Tryd.prog 11 #[.slice a xs.length c] w fun e w' => e = .returned (.tuple #[.string q, .int .i64 x]) ∧ Below w.heap.size w w')
    (g2 : ∀ w, Tks w a xs → Calls Tryd.prog 21 #[.slice a xs.length c] w fun e w' => e = .returned (.tuple #[.string q, .int .i64 x]) ∧ Below w.heap.size w w') :
    Calls Tryd.prog 6 #[.slice a xs.length c] w fun e w' => e = .returned (.bool true) ∧ Below w.heap.size w w' := by
  have G0 := Lib.hid g0
  have G1 := Lib.hid g1
  have G2 := Lib.hid g2
  have HSt := Lib.hid O.stays
  have HV := Lib.hid (lives_any O)
  have HT := Lib.hid hT
  have HA := Lib.hid hA
  clear g0 g1 g2 O hT hA
  go_enter Tryd.func6, Tryd.ntmps6
  go_wp2_with fail
  refine (G0.out _ HA.out).mono ?_; rintro e w1 ⟨rfl, hb1⟩
  have B1 := Lib.hid hb1
  clear hb1
  go_wp2_with fail
  refine (G1.out _ (HSt.out _ _ HT.out B1.out) (HA.out.below B1.out)).mono ?_; rintro e w2 ⟨rfl, hb2⟩
  have B2 := Lib.hid (below_2 B1.out hb2)
  clear hb2
  go_wp2_with fail
  refine (G2.out _ (HA.out.below B2.out)).mono ?_; rintro e w3 ⟨rfl, hb3⟩
  have B3 := Lib.hid (below_2 B2.out hb3)
  clear hb3
  go_wp2_with fail
  refine (HV.out _ (HSt.out _ _ HT.out B3.out)).mono ?_; rintro e w7 ⟨rfl, hb7⟩
  go_wp2_with fail
  go_ret
  exact ⟨rfl, below_2 B3.out hb7⟩
theorem fits_small {xs : List T} (h : smallT xs = true) (hn : ∀ j (h : j < xs.length), -9223372036854775808 ≤ xs[j].n ∧ xs[j].n ≤ 9223372036854775807) : FitsT xs := by
  obtain ⟨h1, h2⟩ := smallT_yes h
  exact ⟨by omega, fun j hj => ⟨by have := h2 j hj; omega, hn j hj⟩⟩
set_option maxRecDepth 100000 in
theorem joins_walk {Tab : World → Prop} (O : Own true Tab) (a : Option Addr) (c : Nat) (xs : List T) (hx : xs.length ≤ 1000000000000000) (hs : ∀ j (h : j < xs.length), xs[j].t.size ≤ 9223372036854775800) (hn : ∀ j (h : j < xs.length), -9223372036854775808 ≤ xs[j].n ∧ xs[j].n ≤ 9223372036854775807) (w : World) (hT : Tab w) (hA : Tks w a xs) :
    Calls Tryd.prog 6 #[.slice a xs.length c] w fun e w' => e = .returned (.bool true) ∧ Below w.heap.size w w' := by
  have g0 := fun w h => small_any a c xs hx hs w h
  cases hq : smallT xs
  · rw [hq] at g0
    have G0 := Lib.hid (g0 w hA)
    have HW := Lib.hid (lives_any O)
    have HT := Lib.hid hT
    have HSt := Lib.hid O.stays
    clear O hT g0 hA hq
    go_enter Tryd.func6, Tryd.ntmps6
    go_wp2_with fail
    refine G0.out.mono ?_; rintro e w1 ⟨rfl, hb1⟩
    have B1 := Lib.hid hb1
    clear hb1
    go_wp2_with fail
    refine (HW.out _ (HSt.out _ _ HT.out B1.out)).mono ?_; rintro e w7 ⟨rfl, hb7⟩
    go_wp2_with fail
    go_ret
    exact ⟨rfl, below_2 B1.out hb7⟩
  · have hF := fits_small hq hn
    rw [hq] at g0
    exact joins_core O a c xs _ _ w hT hA g0 (fun w h1 h2 => O.join rfl a c xs hF w h1 h2) (fun w h => rjoin_any a c xs hF.len (fun j hj => ⟨by have := (hF.each j hj).1; omega, hn j hj⟩) w h)
end Go.Proofs.YtaimmcibdepejaaDoor.L
