/-
  The law on Slice and Union of layer 6, walked.
-/
import Derived.Test.YtieloegadhgipaaSLawsD
namespace Go.Proofs.Ytieloegadhgipaa.S
open Go.RowKit
open Go.Proofs.Ytieloegadhgipaa.V (ret_bool ret_int ret_string below_2 below_box below_box2 size_len)

def outR (f t : ByteArray) (p : P) : Bool := !inR f t p
theorem filter_fits {xs : List P} (h : Fits xs) (f : P → Bool) : Fits (xs.filter f) :=
  ⟨Nat.le_trans (List.length_filter_le f xs) h.len, fun p hp => h.sz p (List.mem_filter.1 hp).1, fun p hp => h.num p (List.mem_filter.1 hp).1⟩
theorem vs_part {xs : List P} (h : vs (prs xs) = true) (f t : ByteArray) : vs (prs (xs.filter (inR f t))) = true ∧ vs (prs (xs.filter (outR f t))) = true := by
  rw [filter_prs (f := inR f t) (g := fun p => K.cont f.data.toList t.data.toList p.1) (fun p => rfl), filter_prs (f := outR f t) (g := fun p => !K.cont f.data.toList t.data.toList p.1) (fun p => rfl)]
  exact ⟨vs_filter h _, vs_filter h _⟩
theorem uni_parts {xs : List P} (h : vs (prs xs) = true) (f t : ByteArray) : uniP (xs.filter (inR f t)) (xs.filter (outR f t)) = (xs, 0) ∧ uniP (xs.filter (outR f t)) (xs.filter (inR f t)) = (xs, 0) := by
  obtain ⟨v1, v2⟩ := vs_part h f t
  have hu := up_of_vw (vs_iff.1 h).2
  have e1 : prs (xs.filter (inR f t)) = (prs xs).filter (fun p => K.cont f.data.toList t.data.toList p.1) := filter_prs (f := inR f t) (g := fun p => K.cont f.data.toList t.data.toList p.1) (fun p => rfl) xs
  have e2 : prs (xs.filter (outR f t)) = (prs xs).filter (fun p => !K.cont f.data.toList t.data.toList p.1) := filter_prs (f := outR f t) (g := fun p => !K.cont f.data.toList t.data.toList p.1) (fun p => rfl) xs
  have e3 : prs (xs.filter (inR f t)) = (prs xs).filter (fun p => !!K.cont f.data.toList t.data.toList p.1) := by rw [e1]; congr 1; funext p; rw [Bool.not_not]
  constructor
  · rw [uniP_ok v1 v2 (fun k hk => ?_), aplP_ok v1 (vs_iff.1 v2).2]
    · congr 1
      refine prs_inj ?_
      rw [appP_prs, e1, e2]
      exact app_split h _
    · have h1 := split_apart hu (fun p => K.cont f.data.toList t.data.toList p.1)
      rw [← e1, ← e2, List.any_eq_false] at h1
      have h2 := h1 _ (mem_prs hk)
      rw [Bool.not_eq_true] at h2
      exact h2
  · rw [uniP_ok v2 v1 (fun k hk => ?_), aplP_ok v2 (vs_iff.1 v1).2]
    · congr 1
      refine prs_inj ?_
      rw [appP_prs, e2, e3]
      exact app_split h _
    · have h1 := split_apart hu (fun p => !K.cont f.data.toList t.data.toList p.1)
      rw [← e3, ← e2, List.any_eq_false] at h1
      have h2 := h1 _ (mem_prs hk)
      rw [Bool.not_eq_true] at h2
      exact h2
theorem uni_twice {xs : List P} (h : vs (prs xs) = true) : uniP xs xs = ([], if 0 < xs.length then 8 else 0) := by
  by_cases hx : 0 < xs.length
  · rw [if_pos hx]
    exact uniP_dup h h hx (has_iff.2 ⟨_, mem_prs hx, rfl⟩)
  · have : xs = [] := List.length_eq_zero_iff.1 (by omega)
    subst this
    rfl
set_option maxHeartbeats 4000000 in
set_option maxRecDepth 100000 in
theorem splits_walk (O : Own) (a : Option Addr) (c : Nat) (xs : List P) (f t : ByteArray) (hf : Fits xs) (hff : f.size ≤ 9223372036854775807) (htt : t.size ≤ 9223372036854775807) (w : World) (hA : Sl w a c xs) :
    Calls Try.prog 9 #[.slice a xs.length c, .agg #[.string f, .string t]] w fun e w' => e = .returned (.bool true) ∧ Below w.heap.size w w' := by
  have hbx := below_box w (.cells #[.string f, .string t] 35)
  have HBox := Lib.hid hbx
  have HR := Lib.hid (K.Has.box w f t)
  have HA := Lib.hid (hA.below hbx)
  have PE := Lib.hid (examples_any O)
  have p1 := fun w h => O.valid a c xs hf w h
  clear hbx hA
  cases hv : vs (prs xs)
  · rw [hv] at p1
    have P1 := Lib.hid p1
    generalize xs.length = n at P1 ⊢
    clear hf hff htt O p1 hv
    go_enter Try.func9, Try.ntmps9
    go_wp2_with fail
    refine (P1.out _ HA.out).mono ?_; rintro e w1 ⟨rfl, hb1⟩
    go_wp2_with fail
    refine (PE.out _).mono ?_; rintro e w2 ⟨rfl, hb2⟩
    go_wp2_with fail
    go_ret
    exact ⟨rfl, below_2 (below_2 HBox.out hb1) hb2⟩
  · rw [hv] at p1
    obtain ⟨u1, u2⟩ := uni_parts hv f t
    have p2 := fun w h => O.slice a c xs f t hf hff htt w h
    have p3 := fun a1 a2 c1 c2 w h1 h2 => O.union a1 a2 c1 c2 (xs.filter (inR f t)) (xs.filter (outR f t)) (filter_fits hf _) (filter_fits hf _) w h1 h2
    have p4 := fun a1 a2 c1 c2 w h1 h2 => O.union a1 a2 c1 c2 (xs.filter (outR f t)) (xs.filter (inR f t)) (filter_fits hf _) (filter_fits hf _) w h1 h2
    rw [u1] at p3
    rw [u2] at p4
    have P5 := Lib.hid (fun (a1 : Option Addr) (c1 : Nat) (w : World) (h1 : Sl w a1 c1 xs) (h2 : Sl w a c xs) => rsame_any a1 a c1 c xs xs hf.len w h1.prs h2.prs)
    rw [same_self] at P5
    have p6 := fun w h => O.union a a c c xs xs hf hf w h h
    rw [uni_twice hv] at p6
    have P7 := Lib.hid (fun k => K.contains_any f t k hff htt)
    have HSP : Hid (sliP f t xs = xs.filter (inR f t)) := rfl
    rw [HSP.out] at p2
    have P1 := Lib.hid p1
    have P2 := Lib.hid p2
    have P3 := Lib.hid p3
    have P4 := Lib.hid p4
    have P6 := Lib.hid p6
    have HFL := Lib.hid (fun k => filter_len (outR f t) xs k)
    have HFI := Lib.hid (fun k => filter_len (inR f t) xs k)
    have hx := hf.len
    clear hf hff htt O p1 p2 p3 p4 p6 hv u1 u2 HSP
    go_enter Try.func9, Try.ntmps9
    go_wp2_with fail
    refine (P1.out _ HA.out).mono ?_; rintro e w1 ⟨rfl, hb1⟩
    have HA1 := Lib.hid (HA.out.below hb1)
    have hr1 := HR.out.below (show Below (w.heap.size + 1) _ w1 by simpa using hb1) (Nat.lt_succ_self _)
    have HR1 := Lib.hid hr1
    have H1 := Lib.hid (below_2 HBox.out hb1)
    have hs1 : w.heap.size < w1.heap.size := by have := hb1.size; simp at this; omega
    obtain ⟨r0, r1⟩ := hr1
    clear hb1
    go_wp2_with fail
    refine (P2.out _ HA1.out).mono ?_; rintro e w2 ⟨⟨a1, c1, rfl, hS1⟩, hb2⟩
    have HA2 := Lib.hid (HA1.out.below hb2)
    have HR2 := Lib.hid (HR1.out.below hb2 hs1)
    have H2 := Lib.hid (below_2 H1.out hb2)
    have HS1 := Lib.hid hS1
    have hs2 : w.heap.size < w2.heap.size := by have := hb2.size; omega
    clear hb2 hS1 HA1 HR1 H1 r0 r1
    go_wp2_with fail
    go_loopw [6, 7, 8] (fun vo vn vi wr => ∃ k : Nat, k ≤ xs.length ∧ vi = .int .i64 k ∧ vn = .int .i64 ((xs.take k).filter (inR f t)).length ∧ Hid (wr.ownsRow w2.heap.size 33 4 vo ((xs.take k).filter (outR f t)).length (pc ((xs.take k).filter (outR f t)))) ∧ Below w2.heap.size w2 wr) (fun _ _ vi _ => xs.length - (intOf vi).toNat)
    case atStart => exact ⟨0, Nat.zero_le _, rfl, rfl, World.ownsRow_nil _ _ _ _, Below.refl _ _⟩
    case round =>
      obtain ⟨k, hk, rfl, rfl, HO, hb⟩ := hrel
      have hzr := hb.size
      by_cases hlx : k < xs.length
      · obtain ⟨b1, o1, rfl, hc⟩ := (HA2.out.below hb).prs.open hlx
        obtain ⟨c0, c1', c2', c3⟩ := (hc k hlx).grown
        obtain ⟨g0, g1⟩ := HR2.out.below hb hs2
        have r0 := fun d os => cell_regrown g0 d os
        have r1 := fun d os => cell_regrown g1 d os
        have hl := HFL.out k
        have hl2 := HFI.out k
        obtain ⟨n1, n2⟩ := filter_next (f := outR f t) hlx
        obtain ⟨m1, m2⟩ := filter_next (f := inR f t) hlx
        have hC := P7.out xs[k].key
        have hAt := Lib.hid (hc k hlx)
        clear g0 g1
        cases hq : inR f t xs[k]
        · have HN := Lib.hid (n1 (by unfold outR; rw [hq]; rfl))
          have HM : Hid (((xs.take (k + 1)).filter (inR f t)).length = ((xs.take k).filter (inR f t)).length) := by show _ = _; rw [m2 hq]
          rw [show K.cont f.data.toList t.data.toList xs[k].key.data.toList = false from hq] at hC
          have HCC := Lib.hid (grownW (W := wr) hC)
          generalize xs[k] = p at c0 c1' c2' c3 HCC HN hAt
          generalize ((xs.take k).filter (inR f t)).length = cnt at HM hl2 ⊢
          clear n1 n2 m1 m2 hc hq hC
          go_wp2_with fail
          refine wp_region_quiet_below (by kernel_rfl) (by kernel_rfl) ?_
          repeat (go_big_quiet_step (with_reducible exact HCC.out _ _))
          refine wpQuiet_nil ?_
          intro w4 hw'
          have hb4 : Below wr.heap.size wr w4 := by
            obtain ⟨⟨dq, osq⟩, hw''⟩ := hw'
            rw [hw'']
            exact below_regrown _ dq osq
          clear hw' c0 c1' c2' c3 r0 r1
          have hB4 := below_2 hb hb4
          have HO4 := Lib.hid (own_belowO HO.out hb4)
          have hz4 := hB4.size
          obtain ⟨c0, c1', c2', c3⟩ := hAt.out.below hb4 hAt.out.lt
          go_wp2_with (at_builtin; refine wpList_append_pair rfl _ _ rfl w2.heap.size u6 ((xs.take k).filter (outR f t)) rfl p HO4.out rfl (by omega) (by omega) ?_; intro v1 w5 hown1 hgrow1; have hb2 := below_app hB4 (by omega) hgrow1 (own_ge HO4.out))
          go_roundw
          case rel => exact ⟨k + 1, by omega, by go_num, by rw [HM.out], (by unfold Hid; rw [HN.out]; exact hown1), hb2⟩
          case measure => simp [intOf]; omega
        · have HN := Lib.hid (n2 (by unfold outR; rw [hq]; rfl))
          have hm := m1 hq
          have HM : Hid (((xs.take (k + 1)).filter (inR f t)).length = ((xs.take k).filter (inR f t)).length + 1) := by
            show _ = _
            rw [hm, List.length_append]; rfl
          rw [show K.cont f.data.toList t.data.toList xs[k].key.data.toList = true from hq] at hC
          have HCC := Lib.hid (grownW (W := wr) hC)
          generalize xs[k] = p at c0 c1' c2' c3 HCC
          generalize ((xs.take k).filter (inR f t)).length = cnt at HM hl2 ⊢
          clear n1 n2 m1 m2 hc hq hC hm hAt
          go_wp2_with fail
          refine wp_region_quiet_below (by kernel_rfl) (by kernel_rfl) ?_
          repeat (go_big_quiet_step (with_reducible exact HCC.out _ _))
          refine wpQuiet_nil ?_
          intro w4 hw'
          have hb4 : Below wr.heap.size wr w4 := by
            obtain ⟨⟨dq, osq⟩, hw''⟩ := hw'
            rw [hw'']
            exact below_regrown _ dq osq
          clear hw' c0 c1' c2' c3 r0 r1
          have HB4 := Lib.hid (below_2 hb hb4)
          have HO4 := Lib.hid (own_belowO HO.out hb4)
          go_wp2_with fail
          go_roundw
          case rel => exact ⟨k + 1, by omega, by go_num, by rw [HM.out]; go_num, (by unfold Hid; rw [HN.out]; exact HO4.out), HB4.out⟩
          case measure => simp [intOf]; omega
      · obtain rfl : k = xs.length := by omega
        have hown := HO.out
        rw [List.take_length] at hown ⊢
        obtain ⟨a2, c2, rfl, hS2⟩ := own_sl hown
        have HS2 := Lib.hid hS2
        have HS1r := Lib.hid (HS1.out.below hb)
        have HAr := Lib.hid (HA2.out.below hb)
        have Hr := Lib.hid (below_2 H2.out hb)
        clear hown hS2 HO hb HS1 HA2 H2 HFL HFI P7 HR2
        generalize xs.filter (inR f t) = is at P3 P4 HS1r ⊢
        generalize xs.filter (outR f t) = os at P3 P4 HS2 ⊢
        go_wp2_with fail
        refine (P3.out _ _ _ _ _ HS1r.out HS2.out).mono ?_; rintro e w3 ⟨⟨a3, c3, rfl, hS3⟩, hb3⟩
        have HS3 := Lib.hid hS3
        have HS1 := Lib.hid (HS1r.out.below hb3)
        have HS2 := Lib.hid (HS2.out.below hb3)
        have HA3 := Lib.hid (HAr.out.below hb3)
        have H3 := Lib.hid (below_2 Hr.out hb3)
        clear hS3 hb3 HS1r HAr Hr
        go_wp2_with fail
        refine (P4.out _ _ _ _ _ HS2.out HS1.out).mono ?_; rintro e w4 ⟨⟨a4, c4, rfl, hS4⟩, hb4⟩
        have HS4 := Lib.hid hS4
        have HS3 := Lib.hid (HS3.out.below hb4)
        have HA4 := Lib.hid (HA3.out.below hb4)
        have H4 := Lib.hid (below_2 H3.out hb4)
        clear hS4 hb4 HA3 H3 HS1 HS2
        go_wp2_with fail
        refine (P5.out _ _ _ HS3.out HA4.out).mono ?_; rintro e w5 ⟨rfl, hb5⟩
        have HS4 := Lib.hid (HS4.out.below hb5)
        have HA5 := Lib.hid (HA4.out.below hb5)
        have H5 := Lib.hid (below_2 H4.out hb5)
        clear hb5 HA4 H4 HS3
        go_wp2_with fail
        refine (P5.out _ _ _ HS4.out HA5.out).mono ?_; rintro e w6 ⟨rfl, hb6⟩
        have HA6 := Lib.hid (HA5.out.below hb6)
        have H6 := Lib.hid (below_2 H5.out hb6)
        clear hb6 HA5 H5 HS4
        go_wp2_with fail
        refine (P6.out _ HA6.out).mono ?_; rintro e w7 ⟨⟨a5, c5, rfl, hS5⟩, hb7⟩
        have H7 := Lib.hid (below_2 H6.out hb7)
        clear hS5 hb7 HA6 H6
        by_cases hx0 : 0 < xs.length
        · go_wp2_with fail
          refine (PE.out _).mono ?_; rintro e w8 ⟨rfl, hb8⟩
          go_wp2_with fail
          go_ret
          exact ⟨rfl, below_2 H7.out hb8⟩
        · go_wp2_with fail
          refine (PE.out _).mono ?_; rintro e w8 ⟨rfl, hb8⟩
          go_wp2_with fail
          go_ret
          exact ⟨rfl, below_2 H7.out hb8⟩
end Go.Proofs.Ytieloegadhgipaa.S
