/-
  What the reference of layer 7 returns: Feeds, Valid, Same, Moved: contracts, one a function.
-/
import Derived.Test.YtaimmcibdepejaaDoorLRefsF
import Derived.Deep.RegionHeld3
import Derived.Deep.RegionWith
namespace Go.Proofs.YtaimmcibdepejaaDoor.L
open Go.RowKit

theorem rfeeds_any (s : ByteArray) (hs : s.size ≤ 9223372036854775800) (w : World) :
    Calls Tryd.prog 23 #[.string s] w fun e w' => e = .returned (.int .i64 ((nf s.data.toList : Nat) : Int)) ∧ w' = w := by
  have h := feeds_any s hs s.size (Nat.le_refl _)
  rw [List.take_of_length_le (by rw [size_len]; exact Nat.le_refl _)] at h
  have HF := Lib.hid h
  clear h
  go_enter Tryd.func23, Tryd.ntmps23
  go_wp2_with fail
  refine (HF.out _).mono ?_; rintro e w1 ⟨rfl, rfl⟩
  go_wp2_with fail
  go_ret
  exact ⟨rfl, rfl⟩

/-! ### Valid -/

theorem dec_beq (n : Int) : decide (n = 0) = (n == 0) := (Bool.beq_eq_decide_eq n 0).symm
theorem v_1 {p : T} (h : p.k = 1) : valid p.tok = (isName p.t.data.toList && (p.n == 0)) := by unfold valid T.tok; simp only; rw [if_pos h, dec_beq]
theorem v_2 {p : T} (h : p.k = 2) : valid p.tok = (isKw p.t.data.toList && (p.n == 0)) := by unfold valid T.tok; simp only; rw [if_neg (by omega), if_pos h, dec_beq]
theorem v_3 {p : T} (h : p.k = 3) : valid p.tok = ((p.t.toList == []) && decide (0 ≤ p.n)) := by
  unfold valid T.tok; simp only; rw [if_neg (by omega), if_neg (by omega), if_pos h, Lib.toList_data]
  congr 1
  exact (Bool.beq_eq_decide_eq _ _).symm
theorem v_4 {p : T} (h : p.k = 4) : valid p.tok = (decide (p.t.size ≤ 64) && p.t.data.toList.all prt && (p.n == 0)) := by
  unfold valid T.tok; simp only; rw [if_neg (by omega), if_neg (by omega), if_neg (by omega), if_pos h, dec_beq, size_len]
theorem v_5 {p : T} (h : p.k = 5) : valid p.tok = (isMark p.t.data.toList && (p.n == 0)) := by
  unfold valid T.tok; simp only; rw [if_neg (by omega), if_neg (by omega), if_neg (by omega), if_neg (by omega), if_pos h, dec_beq]
theorem v_0 {p : T} (h1 : p.k ≠ 1) (h2 : p.k ≠ 2) (h3 : p.k ≠ 3) (h4 : p.k ≠ 4) (h5 : p.k ≠ 5) : valid p.tok = false := by
  unfold valid T.tok; simp only; rw [if_neg h1, if_neg h2, if_neg h3, if_neg h4, if_neg h5]
theorem marks_some (w : World) : Calls Tryd.prog 42 #[] w fun e w' => (∃ b, e = .returned (.slice (some ⟨b, 0, none⟩) 20 20) ∧ Strs w' b mkB) ∧ Below w.heap.size w w' :=
  (marks_any w).mono fun e w' ⟨h1, h2⟩ => by subst h2; exact ⟨⟨w.heap.size, h1, Strs.new w mkB⟩, below_box w _⟩
set_option maxHeartbeats 2000000 in
set_option maxRecDepth 100000 in
theorem rvalid_any (p : T) (hs : p.t.size ≤ 9223372036854775800) (w : World) :
    Calls Tryd.prog 22 #[.agg #[.int .i64 p.k, .string p.t, .int .i64 p.n, .int .i64 p.line]] w fun e w' => e = .returned (.bool (valid p.tok)) ∧ Below w.heap.size w w' := by
  have HW := Lib.hid (below_box w (.cells #[.int .i64 p.k, .string p.t, .int .i64 p.n, .int .i64 p.line] 31))
  have HAT := Lib.hid (at_box w p)
  by_cases k1 : p.k = 1
  · have HV := Lib.hid (v_1 k1)
    have HI := Lib.hid (isName_any p.t hs)
    have b1 : (p.k == 1) = true := beq_iff_eq.2 k1
    generalize isName p.t.data.toList = I at HV HI
    clear k1
    cases I
    all_goals
      go_enter Tryd.func22, Tryd.ntmps22
      go_wp2_with fail
      refine (HI.out _).mono ?_; rintro e w1 ⟨rfl, hb1⟩
      obtain ⟨c0, c1, c2, c3⟩ := HAT.out.below hb1 HAT.out.lt
      simp only [Nat.zero_add] at c0 c1 c2 c3
      go_wp2_with fail
      go_ret
      exact ⟨ret_bool (by rw [HV.out]; rfl), below_2 HW.out hb1⟩
  · have b1 : (p.k == 1) = false := beq_eq_false_iff_ne.2 k1
    by_cases k2 : p.k = 2
    · have HV := Lib.hid (v_2 k2)
      have HI := Lib.hid (isKw_any p.t)
      have b2 : (p.k == 2) = true := beq_iff_eq.2 k2
      generalize isKw p.t.data.toList = I at HV HI
      clear k1 k2
      cases I
      all_goals
        go_enter Tryd.func22, Tryd.ntmps22
        go_wp2_with fail
        refine (HI.out _).mono ?_; rintro e w1 ⟨rfl, hb1⟩
        obtain ⟨c0, c1, c2, c3⟩ := HAT.out.below hb1 HAT.out.lt
        simp only [Nat.zero_add] at c0 c1 c2 c3
        go_wp2_with fail
        go_ret
        exact ⟨ret_bool (by rw [HV.out]; rfl), below_2 HW.out hb1⟩
    · have b2 : (p.k == 2) = false := beq_eq_false_iff_ne.2 k2
      by_cases k3 : p.k = 3
      · have HV := Lib.hid (v_3 k3)
        have b3 : (p.k == 3) = true := beq_iff_eq.2 k3
        clear k1 k2 k3
        cases he : (p.t.toList == [])
        all_goals
          rw [he] at HV
          go_enter Tryd.func22, Tryd.ntmps22
          go_wp2_with fail
          go_ret
          exact ⟨ret_bool (by rw [HV.out]; rfl), HW.out⟩
      · have b3 : (p.k == 3) = false := beq_eq_false_iff_ne.2 k3
        by_cases k4 : p.k = 4
        · have HV := Lib.hid (v_4 k4)
          have HP := Lib.hid (printable_any p.t hs)
          have b4 : (p.k == 4) = true := beq_iff_eq.2 k4
          generalize p.t.data.toList.all prt = I at HV HP
          clear k1 k2 k3 k4
          by_cases h64 : p.t.size ≤ 64
          · rw [decide_eq_true h64] at HV
            cases I
            all_goals
              go_enter Tryd.func22, Tryd.ntmps22
              go_wp2_with fail
              refine (HP.out _).mono ?_; rintro e w1 ⟨rfl, rfl⟩
              go_wp2_with fail
              go_ret
              exact ⟨ret_bool (by rw [HV.out]; rfl), HW.out⟩
          · rw [decide_eq_false h64] at HV
            have b5 : decide ((p.t.size : Int) ≤ 64) = false := decide_eq_false (by omega)
            go_enter Tryd.func22, Tryd.ntmps22
            go_wp2_with fail
            go_ret
            exact ⟨ret_bool (by rw [HV.out]; rfl), HW.out⟩
        · have b4 : (p.k == 4) = false := beq_eq_false_iff_ne.2 k4
          by_cases k5 : p.k = 5
          · have HV := Lib.hid (v_5 k5)
            have b5 : (p.k == 5) = true := beq_iff_eq.2 k5
            have HMk := Lib.hid marks_some
            have HH := Lib.hid (fun b w (h : Strs w b mkB) => has_any b 20 mkB p.t (by decide) w h)
            have HE : Hid (anyStr mkB p.t = isMark p.t.data.toList) := any_of marks p.t
            rw [HE.out, show mkB.length = 20 from rfl] at HH
            generalize isMark p.t.data.toList = I at HV HH
            have hat := (at_box w p).below (below_drew _) (at_box w p).lt
            have HAD := Lib.hid hat
            have HWD := Lib.hid (below_2 HW.out (below_drew _))
            clear k1 k2 k3 k4 k5 HE hat
            cases I
            · go_enter Tryd.func22, Tryd.ntmps22
              go_wp2_with fail
              obtain ⟨c0, c1, c2, c3⟩ := HAD.out
              simp only [Nat.zero_add] at c0 c1 c2 c3
              first
              | (go_region_with (first
                | (go_at_call 32; refine (HH.out _ _ HS1.out).mono ?_; rintro e w2 ⟨rfl, rfl⟩)
                | (go_at_call 42; refine (HMk.out _).mono ?_; rintro e w1 ⟨⟨b, rfl, hS⟩, hb1⟩; have HS1 := Lib.hid hS; have HB1 := Lib.hid (below_2 HWD.out hb1); obtain ⟨d0, d1, d2, d3⟩ := HAD.out.below hb1 HAD.out.lt; simp only [Nat.zero_add] at d0 d1 d2 d3)))
              | fail
              all_goals
                go_wp2_with fail
                go_ret
                exact ⟨ret_bool (by rw [HV.out]; rfl), HB1.out⟩
            · go_enter Tryd.func22, Tryd.ntmps22
              go_wp2_with fail
              obtain ⟨c0, c1, c2, c3⟩ := HAD.out
              simp only [Nat.zero_add] at c0 c1 c2 c3
              first
              | (go_region_with (first
                | (go_at_call 32; refine (HH.out _ _ HS1.out).mono ?_; rintro e w2 ⟨rfl, rfl⟩)
                | (go_at_call 42; refine (HMk.out _).mono ?_; rintro e w1 ⟨⟨b, rfl, hS⟩, hb1⟩; have HS1 := Lib.hid hS; have HB1 := Lib.hid (below_2 HWD.out hb1); obtain ⟨d0, d1, d2, d3⟩ := HAD.out.below hb1 HAD.out.lt; simp only [Nat.zero_add] at d0 d1 d2 d3)))
              | fail
              all_goals
                go_wp2_with fail
                go_ret
                exact ⟨ret_bool (by rw [HV.out]; rfl), HB1.out⟩
          · have HV := Lib.hid (v_0 k1 k2 k3 k4 k5)
            have b5 : (p.k == 5) = false := beq_eq_false_iff_ne.2 k5
            clear k1 k2 k3 k4 k5
            go_enter Tryd.func22, Tryd.ntmps22
            go_wp2_with fail
            go_ret
            exact ⟨ret_bool HV.out.symm, HW.out⟩
end Go.Proofs.YtaimmcibdepejaaDoor.L
