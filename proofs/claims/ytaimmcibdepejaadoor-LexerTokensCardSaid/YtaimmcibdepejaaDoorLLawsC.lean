/-
  Laws of layer 7, walked over whatever the program's own functions return: LexerStable.
-/
import Derived.Test.YtaimmcibdepejaaDoorLLawsB
namespace Go.Proofs.YtaimmcibdepejaaDoor.L
open Go.RowKit

theorem valid_len {t : Tok} (h : valid t = true) (hn : t.n ≤ 9223372036854775807) : t.t.length ≤ 130 := by
  by_cases h3 : t.k = 3
  · unfold valid at h
    rw [if_neg (by omega), if_neg (by omega), if_pos h3] at h
    simp only [Bool.and_eq_true, decide_eq_true_eq] at h
    rw [h.1]; exact Nat.zero_le _
  · by_cases h4 : t.k = 4
    · unfold valid at h
      rw [if_neg (by omega), if_neg (by omega), if_neg (by omega), if_pos h4] at h
      simp only [Bool.and_eq_true, decide_eq_true_eq] at h
      omega
    · have := txt_len h hn
      rw [txt_o h3 h4] at this
      exact this
set_option maxRecDepth 100000 in
theorem stable_bad {jb : Bool} {Tab : World → Prop} (O : Own jb Tab) (s : ByteArray) (hs : s.size ≤ 600) (x y : Int) (hy : y ≠ 0) (w : World) (hT : Tab w)
    (g1 : ∀ w, Tab w → Calls Tryd.prog 12 #[.string s] w fun e w' => (∃ a c, e = .returned (.tuple #[.slice a 0 c, .int .i64 x, .int .i64 y])) ∧ Below w.heap.size w w') :
    Calls Tryd.prog 7 #[.string s] w fun e w' => e = .returned (.bool true) ∧ Below w.heap.size w w' := by
  have G1 := Lib.hid g1
  have HSt := Lib.hid O.stays
  have HV := Lib.hid (lives_any O)
  have HT := Lib.hid hT
  have by0 : (y != 0) = true := bne_iff_ne.2 hy
  clear g1 O hT
  go_enter Tryd.func7, Tryd.ntmps7
  go_wp2_with fail
  refine (G1.out _ HT.out).mono ?_; rintro e w1 ⟨⟨a1, c1, rfl⟩, hb1⟩
  have B1 := Lib.hid hb1
  clear hb1
  go_wp2_with fail
  refine (HV.out _ (HSt.out _ _ HT.out B1.out)).mono ?_; rintro e w7 ⟨rfl, hb7⟩
  go_wp2_with fail
  go_ret
  exact ⟨rfl, below_2 B1.out hb7⟩
set_option maxHeartbeats 4000000 in
set_option maxRecDepth 100000 in
theorem stable_core {jb : Bool} {Tab : World → Prop} (O : Own jb Tab) (src s : ByteArray) (hs : src.size ≤ 600) (xs ys : List T) (hx : xs.length ≤ 600) (hy : ys.length = xs.length) (he : ∀ j (h1 : j < xs.length) (h2 : j < ys.length), ys[j] = ⟨xs[j].k, xs[j].t, xs[j].n, 1⟩)
    (hv : ∀ j (h : j < xs.length), valid xs[j].tok = true ∧ 1 ≤ xs[j].line ∧ xs[j].t.size ≤ 130) (hup : ∀ j (h : j + 1 < xs.length), xs[j].line ≤ xs[j + 1].line) (w : World) (hT : Tab w)
    (g1 : ∀ w, Tab w → Calls Tryd.prog 12 #[.string src] w fun e w' => (∃ a c, e = .returned (.tuple #[.slice a xs.length c, .int .i64 0, .int .i64 0]) ∧ Sl w' a c xs) ∧ Below w.heap.size w w')
    (g2 : ∀ a c w, Tab w → Tks w a xs → Calls Tryd.prog 11 #[.slice a xs.length c] w fun e w' => e = .returned (.tuple #[.string s, .int .i64 0]) ∧ Below w.heap.size w w')
    (g3 : ∀ w, Tab w → Calls Tryd.prog 12 #[.string s] w fun e w' => (∃ a c, e = .returned (.tuple #[.slice a ys.length c, .int .i64 0, .int .i64 0]) ∧ Sl w' a c ys) ∧ Below w.heap.size w w') :
    Calls Tryd.prog 7 #[.string src] w fun e w' => e = .returned (.bool true) ∧ Below w.heap.size w w' := by
  rw [hy] at g3
  obtain ⟨n, hn⟩ : ∃ n, xs.length = n := ⟨_, rfl⟩
  have HL := Lib.hid hn
  rw [hn] at hx hy g1 g2 g3
  have HY := Lib.hid hy
  have HE := Lib.hid he
  have HVl := Lib.hid hv
  have HUp := Lib.hid hup
  have G1 := Lib.hid g1
  have G2 := Lib.hid g2
  have G3 := Lib.hid g3
  have HSt := Lib.hid O.stays
  have HV := Lib.hid (lives_any O)
  have HT := Lib.hid hT
  clear g1 g2 g3 O hT hn hy he hv hup
  go_enter Tryd.func7, Tryd.ntmps7
  go_wp2_with fail
  refine (G1.out _ HT.out).mono ?_; rintro e w1 ⟨⟨a1, c1, rfl, hS1⟩, hb1⟩
  have B1 := Lib.hid hb1
  have S1 := Lib.hid hS1.prs
  clear hb1 hS1
  go_wp2_with fail
  refine (G2.out _ _ _ (HSt.out _ _ HT.out B1.out) S1.out).mono ?_; rintro e w2 ⟨rfl, hb2⟩
  have B2 := Lib.hid (below_2 B1.out hb2)
  have S2 := Lib.hid (S1.out.below hb2)
  clear hb2
  go_wp2_with fail
  refine (G3.out _ (HSt.out _ _ HT.out B2.out)).mono ?_; rintro e w3 ⟨⟨a2, c2, rfl, hS3⟩, hb3⟩
  have B3 := Lib.hid (below_2 B2.out hb3)
  have S3 := Lib.hid (S2.out.below hb3)
  have S4 := Lib.hid hS3.prs
  clear hb3 hS3
  go_wp2_with fail
  go_loopw [11] (fun s11 wr => ∃ k : Nat, k ≤ n ∧ s11 = .int .i64 k ∧ Below w3.heap.size w3 wr) (fun s11 _ => n - (intOf s11).toNat)
  case atStart => exact ⟨0, Nat.zero_le _, rfl, Below.refl _ _⟩
  case round =>
    obtain ⟨k, hk, rfl, hb⟩ := hrel
    by_cases hlt : k < n
    · have hlx : k < xs.length := by rw [HL.out]; exact hlt
      have hly : k < ys.length := by rw [HY.out]; exact hlt
      obtain ⟨b1, o1, rfl, hc⟩ := (S3.out.below hb).open hlx
      obtain ⟨b2, o2, rfl, hd⟩ := (S4.out.below hb).open hly
      have hC := hc k hlx
      have hD := hd k hly
      rw [HE.out k hlx hly] at hD
      obtain ⟨v1, v2, v3⟩ := HVl.out k hlx
      have HVa := rvalid_any xs[k] (by omega)
      rw [v1] at HVa
      have HCC := Lib.hid (grownW (W := wr) HVa)
      clear HVa
      by_cases hk0 : k = 0
      · have bk : decide (0 < k) = false := decide_eq_false (by omega)
        generalize xs[k] = p at hC hD v2 v3 HCC
        have bl : decide (p.line < 1) = false := decide_eq_false (by omega)
        clear hc hd v1 v2 hk0
        obtain ⟨c0, c1, c2, c3⟩ := hC.grown
        obtain ⟨d0, d1, d2, d3⟩ := hD.grown
        go_wp2_with fail
        refine wp_region_quiet_below (by kernel_rfl) (by kernel_rfl) ?_
        repeat (go_big_quiet_step (with_reducible exact HCC.out _ _))
        refine wpQuiet_nil ?_
        intro w4 hw'
        obtain ⟨⟨dq, osq⟩, hw''⟩ := hw'
        have hb4 : Below wr.heap.size wr w4 := by
          rw [hw'']
          exact below_regrown _ dq osq
        clear hw''
        go_wp2_with fail
        go_roundw
        case rel => exact ⟨k + 1, by omega, by go_num, below_2 hb hb4⟩
        case measure => simp [intOf]; omega
      · obtain ⟨i, rfl⟩ : ∃ i, k = i + 1 := ⟨k - 1, by omega⟩
        have hP := hc i (by omega)
        have hle := HUp.out i hlx
        generalize xs[i + 1] = p at hC hD v2 v3 HCC hle
        generalize xs[i] = r at hP hle
        have bl : decide (p.line < 1) = false := decide_eq_false (by omega)
        have bm : decide (p.line < r.line) = false := decide_eq_false (by omega)
        clear hc hd v1 v2 hle
        obtain ⟨c0, c1, c2, c3⟩ := hC.grown
        obtain ⟨d0, d1, d2, d3⟩ := hD.grown
        obtain ⟨f0, f1, f2, f3⟩ := hP.grown
        go_wp2_with fail
        refine wp_region_quiet_below (by kernel_rfl) (by kernel_rfl) ?_
        repeat (go_big_quiet_step (with_reducible exact HCC.out _ _))
        refine wpQuiet_nil ?_
        intro w4 hw'
        obtain ⟨⟨dq, osq⟩, hw''⟩ := hw'
        have hb4 : Below wr.heap.size wr w4 := by
          rw [hw'']
          exact below_regrown _ dq osq
        clear hw''
        go_wp2_with fail
        go_roundw
        case rel => exact ⟨i + 1 + 1, by omega, by go_num, below_2 hb hb4⟩
        case measure => simp [intOf]; omega
    · obtain rfl : n = k := by omega
      have B9 := Lib.hid (below_2 B3.out hb)
      go_wp2_with fail
      refine (HV.out _ (HSt.out _ _ HT.out B9.out)).mono ?_; rintro e w7 ⟨rfl, hb7⟩
      go_wp2_with fail
      go_ret
      exact ⟨rfl, below_2 B9.out hb7⟩
end Go.Proofs.YtaimmcibdepejaaDoor.L
