/-
  The stage's law of layer 6, walked: the difference, applied.
-/
import Derived.Test.YtieloegadhgipaaSLawsC
namespace Go.Proofs.Ytieloegadhgipaa.S
open Go.RowKit
open Go.Proofs.Ytieloegadhgipaa.V (ret_bool ret_int ret_string below_2 below_box below_box2 size_len)

theorem dif_memP {xs ys : List P} {q : P} (h : q ∈ difP xs ys) : q ∈ ys ∨ ∃ p ∈ xs, q = del p := by
  unfold difP at h
  rcases fold_memP _ _ h with h | h
  · exact Or.inl (List.mem_filter.1 h).1
  · unfold delP at h
    obtain ⟨p, hp, rfl⟩ := List.mem_map.1 h
    exact Or.inr ⟨p, (List.mem_filter.1 hp).1, rfl⟩
theorem dif_fits {xs ys : List P} (hf : Fits xs) (hg : Fits ys) (hl : xs.length + ys.length ≤ 1000000000000) : Fits (difP xs ys) := by
  refine ⟨by have := difP_len xs ys; omega, fun p hp => ?_, fun p hp => ?_⟩
  · rcases dif_memP hp with h | ⟨r, h, rfl⟩
    · exact hg.sz p h
    · exact ⟨(hf.sz r h).1, Nat.zero_le _⟩
  · rcases dif_memP hp with h | ⟨r, h, rfl⟩
    · exact hg.num p h
    · exact ⟨by show (-9223372036854775808 : Int) ≤ 0; decide, by show (0 : Int) ≤ 9223372036854775807; decide⟩
theorem dif_apply {xs ys : List P} (h1 : vs (prs xs) = true) (h2 : vs (prs ys) = true) : aplP xs (difP xs ys) = (ys, 0) := by
  rw [aplP_ok h1 (by rw [difP_prs]; exact vw_dif h1 h2)]
  congr 1
  refine prs_inj ?_
  rw [appP_prs, difP_prs, app_dif h1 h2]
theorem dif_none {xs : List P} (h1 : vs (prs xs) = true) : dffP xs xs = ([], 0) := by
  rw [dffP_ok h1 h1]
  congr 1
  refine prs_inj ?_
  rw [difP_prs, dif_self h1]; rfl
theorem dif_keys {xs ys : List P} (h1 : vs (prs xs) = true) (h2 : vs (prs ys) = true) {k : Nat} (hk : k < (difP xs ys).length) :
    eqV (getP xs (difP xs ys)[k].key) (getP ys (difP xs ys)[k].key) = false ∧ eqV (difP xs ys)[k] (getP ys (difP xs ys)[k].key) = true := by
  have hm := mem_prs hk
  rw [difP_prs] at hm
  obtain ⟨g1, g2⟩ := dif_get h1 h2 hm
  constructor
  · refine decide_eq_false ?_
    rw [getP_val, getP_val]
    exact g1
  · rw [eqV_iff, getP_val]
    exact g2
set_option maxHeartbeats 4000000 in
set_option maxRecDepth 100000 in
theorem diffs_walk (O : Own) (a b : Option Addr) (c d : Nat) (xs ys : List P) (hf : Fits xs) (hg : Fits ys) (hl : xs.length + xs.length + ys.length ≤ 1000000000000) (w : World) (hA : Sl w a c xs) (hB : Sl w b d ys) :
    Calls Try.prog 3 #[.slice a xs.length c, .slice b ys.length d] w fun e w' => e = .returned (.bool true) ∧ Below w.heap.size w w' := by
  have HA := Lib.hid hA
  have HB := Lib.hid hB
  have PE := Lib.hid (examples_any O)
  have p1 := fun w hA hB => O.diff a b c d xs ys hf hg w hA hB
  have p2 := fun w hA => O.valid a c xs hf w hA
  have p3 := fun w hB => O.valid b d ys hg w hB
  cases h1 : vs (prs xs)
  · rw [h1] at p2
    rw [dffP_no (Or.inl h1)] at p1
    have P1 := Lib.hid p1
    have P2 := Lib.hid p2
    generalize xs.length = n at P1 P2 ⊢
    generalize ys.length = m at P1 ⊢
    clear hA hB hf hg hl O p1 p2 p3 h1
    go_enter Try.func3, Try.ntmps3
    go_wp2_with fail
    refine (P1.out _ HA.out HB.out).mono ?_; rintro e w1 ⟨⟨a1, c1, rfl, hS1⟩, hb1⟩
    clear hS1
    go_wp2_with fail
    refine (P2.out _ (HA.out.below hb1)).mono ?_; rintro e w2 ⟨rfl, hb2⟩
    go_wp2_with fail
    refine (PE.out _).mono ?_; rintro e w8 ⟨rfl, hb8⟩
    go_wp2_with fail
    go_ret
    exact ⟨rfl, below_2 (below_2 hb1 hb2) hb8⟩
  · cases h2 : vs (prs ys)
    · rw [h1] at p2
      rw [h2] at p3
      rw [dffP_no (Or.inr h2)] at p1
      have P1 := Lib.hid p1
      have P2 := Lib.hid p2
      have P3 := Lib.hid p3
      generalize xs.length = n at P1 P2 ⊢
      generalize ys.length = m at P1 P3 ⊢
      clear hA hB hf hg hl O p1 p2 p3 h1 h2
      go_enter Try.func3, Try.ntmps3
      go_wp2_with fail
      refine (P1.out _ HA.out HB.out).mono ?_; rintro e w1 ⟨⟨a1, c1, rfl, hS1⟩, hb1⟩
      clear hS1
      go_wp2_with fail
      refine (P2.out _ (HA.out.below hb1)).mono ?_; rintro e w2 ⟨rfl, hb2⟩
      go_wp2_with fail
      refine (P3.out _ ((HB.out.below hb1).below hb2)).mono ?_; rintro e w3 ⟨rfl, hb3⟩
      go_wp2_with fail
      refine (PE.out _).mono ?_; rintro e w8 ⟨rfl, hb8⟩
      go_wp2_with fail
      go_ret
      exact ⟨rfl, below_2 (below_2 (below_2 hb1 hb2) hb3) hb8⟩
    · rw [h1] at p2
      rw [h2] at p3
      rw [dffP_ok h1 h2] at p1
      have hfd := dif_fits hf hg (by omega)
      have p4 := fun d1 c1 w hA hD => O.apply a d1 c c1 xs (difP xs ys) hf hfd w hA hD
      rw [dif_apply h1 h2] at p4
      have p5 := fun a1 c1 w hC hB => O.same a1 b c1 d ys ys hg hg w hC hB
      rw [same_self] at p5
      have P6 := Lib.hid (fun (a1 : Option Addr) (c1 : Nat) (w : World) (h1 : Sl w a1 c1 ys) (h2 : Sl w b d ys) => rsame_any a1 b c1 d ys ys hg.len w h1.prs h2.prs)
      rw [same_self] at P6
      have P7 := Lib.hid (fun k w h => O.get a c xs k hf w h)
      have P8 := Lib.hid (fun k w h => O.get b d ys k hg w h)
      have p9 := fun w hA => O.diff a a c c xs xs hf hf w hA hA
      rw [dif_none h1] at p9
      have G := Lib.hid (fun (k : Nat) (hk : k < (difP xs ys).length) => dif_keys h1 h2 hk)
      generalize difP xs ys = ds at p1 p4 hfd G
      have P1 := Lib.hid p1
      have P2 := Lib.hid p2
      have P3 := Lib.hid p3
      have P4 := Lib.hid p4
      have P5 := Lib.hid p5
      have P9 := Lib.hid p9
      have hy := hfd.len
      generalize xs.length = n at P1 P2 P4 P7 P9 ⊢
      simp only [P.v] at P7 P8
      clear hA hB hf hg hl O p1 p2 p3 p4 p5 p9 h1 h2 hfd
      go_enter Try.func3, Try.ntmps3
      go_wp2_with fail
      refine (P1.out _ HA.out HB.out).mono ?_; rintro e w1 ⟨⟨a1, c1, rfl, hS1⟩, hb1⟩
      have HA1 := Lib.hid (HA.out.below hb1)
      have HB1 := Lib.hid (HB.out.below hb1)
      have H1 := Lib.hid hb1
      have HS1 := Lib.hid hS1
      clear hb1 hS1
      go_wp2_with fail
      refine (P2.out _ HA1.out).mono ?_; rintro e w2 ⟨rfl, hb2⟩
      go_wp2_with fail
      refine (P3.out _ (HB1.out.below hb2)).mono ?_; rintro e w3 ⟨rfl, hb3⟩
      have HA3 := Lib.hid ((HA1.out.below hb2).below hb3)
      have HB3 := Lib.hid ((HB1.out.below hb2).below hb3)
      have H3 := Lib.hid (below_2 (below_2 H1.out hb2) hb3)
      have HS1 := Lib.hid ((HS1.out.below hb2).below hb3)
      clear hb2 hb3 HA1 HB1 H1
      go_wp2_with fail
      refine (P4.out _ _ _ HA3.out HS1.out).mono ?_; rintro e w4 ⟨⟨a2, c2, rfl, hS2⟩, hb4⟩
      have HA4 := Lib.hid (HA3.out.below hb4)
      have HB4 := Lib.hid (HB3.out.below hb4)
      have H4 := Lib.hid (below_2 H3.out hb4)
      have HS1 := Lib.hid (HS1.out.below hb4)
      have HS2 := Lib.hid hS2
      clear hb4 hS2 HA3 HB3 H3
      go_wp2_with fail
      refine (P5.out _ _ _ HS2.out HB4.out).mono ?_; rintro e w5 ⟨rfl, hb5⟩
      go_wp2_with fail
      refine (P6.out _ _ _ (HS2.out.below hb5) (HB4.out.below hb5)).mono ?_; rintro e w6 ⟨rfl, hb6⟩
      have HA6 := Lib.hid ((HA4.out.below hb5).below hb6)
      have HB6 := Lib.hid ((HB4.out.below hb5).below hb6)
      have H6 := Lib.hid (below_2 (below_2 H4.out hb5) hb6)
      have HS1 := Lib.hid ((HS1.out.below hb5).below hb6)
      clear hb5 hb6 HA4 HB4 H4 HS2
      go_wp2_with fail
      go_loopw [9] (fun vi wr => ∃ k : Nat, k ≤ ds.length ∧ vi = .int .i64 k ∧ Below w6.heap.size w6 wr) (fun vi _ => ds.length - (intOf vi).toNat)
      case atStart => exact ⟨0, Nat.zero_le _, rfl, Below.refl _ _⟩
      case round =>
        obtain ⟨k, hk, rfl, hb⟩ := hrel
        by_cases hlt : k < ds.length
        · have hly : k < ds.length := hlt
          have HG1 := Lib.hid (grownL (HA6.out.below hb) (P7.out ds[k].key))
          have HG2 := Lib.hid (grownL (HB6.out.below hb) (P8.out ds[k].key))
          obtain ⟨b1, o1, rfl, hc⟩ := (HS1.out.below hb).prs.open hly
          obtain ⟨d0, d1, d2, d3⟩ := (hc k hly).grown
          have he := run_eql_val (getP xs ds[k].key) (getP ys ds[k].key)
          have he2 := run_neq_val ds[k] (getP ys ds[k].key)
          rw [(G.out k hly).1] at he
          rw [(G.out k hly).2] at he2
          generalize getP xs ds[k].key = g at HG1 he
          generalize getP ys ds[k].key = h at HG2 he he2
          generalize ds[k] = p at d0 d1 d2 d3 HG1 HG2 he2
          clear hc
          go_wp2_with fail
          refine wp_region_quiet_below (by kernel_rfl) (by kernel_rfl) ?_
          repeat (go_big_quiet_step (first | with_reducible exact HG1.out _ _ | with_reducible exact HG2.out _ _))
          refine wpQuiet_nil ?_
          intro w7 hw'
          have hb7 : Below wr.heap.size wr w7 := by
            obtain ⟨⟨dq, osq⟩, hw''⟩ := hw'
            rw [hw'']
            exact below_regrown _ dq osq
          clear hw' d0 d1 d2 d3
          go_wp2_with fail
          go_roundw
          case rel => exact ⟨k + 1, by omega, by go_num, below_2 hb hb7⟩
          case measure => simp [intOf]; omega
        · obtain rfl : k = ds.length := by omega
          have HAr := Lib.hid (HA6.out.below hb)
          have Hr := Lib.hid (below_2 H6.out hb)
          clear HA6 HB6 HS1 H6 hb
          go_wp2_with fail
          refine (P9.out _ HAr.out).mono ?_; rintro e w8 ⟨⟨a3, c3, rfl, hS3⟩, hb8⟩
          clear hS3
          go_wp2_with fail
          refine (PE.out _).mono ?_; rintro e w9 ⟨rfl, hb9⟩
          go_wp2_with fail
          go_ret
          exact ⟨rfl, below_2 (below_2 Hr.out hb8) hb9⟩
end Go.Proofs.Ytieloegadhgipaa.S
