/-
  The laws of layer 9: PrinterJoins: the walk.
-/
import Derived.Test.YtbmdadhbkdkgmaaDoorQF
namespace Go.Proofs.YtbmdadhbkdkgmaaDoor.P
open Go.RowKit
open L (Str isName prt size_len below_2 below_box ret_bool ret_int ret_string bytes_eq append_list Own8)
open A
theorem raw_snoc : ∀ (l : List Pr) (n : Nat) (p : Pr), raw n (l ++ [p]) = raw n l ++ ((if n + l.length = 0 then [] else [10]) ++ procT p)
  | [], n, p => by simp [raw]
  | q :: r, n, p => by
    rw [List.cons_append, raw, raw, raw_snoc r (n + 1) p, if_neg (show ¬ n + 1 + r.length = 0 by omega), if_neg (show ¬ n + (q :: r).length = 0 by simp)]
    simp
theorem raw_step {l : List Pr} {k : Nat} (h : k < l.length) : raw 0 (l.take (k + 1)) = raw 0 (l.take k) ++ ((if k = 0 then [] else [10]) ++ procT l[k]) := by
  rw [List.take_succ_eq_append_getElem h, raw_snoc, List.length_take, Nat.zero_add, show min k l.length = k by omega]
theorem procT_len {p : Pr} (hok : OkP p) : (procT p).length ≤ 240200 := by
  unfold procT
  by_cases h : valE p = 0
  · rw [if_pos h]; exact txP_lenN h (wp_here hok h)
  · rw [if_neg h]; exact Nat.zero_le _
/-- whether the first k are valid -/
def good (l : List Pr) (k : Nat) : Bool := (l.take k).all (fun p => decide (valE p = 0))
theorem good_step {l : List Pr} {k : Nat} (h : k < l.length) : good l (k + 1) = (good l k && decide (valE l[k] = 0)) := by
  unfold good
  rw [List.take_succ_eq_append_getElem h, List.all_append]
  simp
set_option maxHeartbeats 4000000 in
set_option maxRecDepth 100000 in
theorem joins_walk (l : List Pr) (a : Option Addr) (c : Nat) (hok : OkL l) (w : World) (ht : Tab w) (hK : Prs w a l) :
    Calls Tryd.prog 6 #[.slice a l.length c] w fun e' w' => e' = .returned (.bool true) ∧ Below w.heap.size w w' := by
  have HK := Lib.hid hK
  have HO := Lib.hid hok.each
  have HT := Lib.hid ht
  have H1 := Lib.hid (fun w' hb => oprogram_any l a c hok w' (HT.out.below hb) (HK.out.below hb))
  have H3 := Lib.hid (fun w' hb => examples_any w' (HT.out.below hb))
  have hlen := hok.len
  obtain ⟨m, hm⟩ : ∃ m, l.length = m := ⟨_, rfl⟩
  have HL := Lib.hid hm
  rw [hm] at hlen H1 ⊢
  clear hm hK hok ht
  go_enter Tryd.func6, Tryd.ntmps6
  go_wp2_with fail
  go_loopw [3, 4, 5] (fun s b i wr => ∃ (k : Nat) (t : ByteArray), k ≤ m ∧ i = .int .i64 k ∧ s = .string t ∧ b = .bool (good l k) ∧ t.size ≤ 240201 * k ∧ Hid (t.data.toList = raw 0 (l.take k)) ∧ Hid (Below w.heap.size w wr)) (fun _ _ i _ => m - (intOf i).toNat)
  case atStart => exact ⟨0, ⟨#[]⟩, Nat.zero_le _, rfl, rfl, rfl, Nat.zero_le _, rfl, Below.refl _ _⟩
  case round =>
    obtain ⟨k, t, hk, rfl, rfl, rfl, hz, HS, HB⟩ := hrel
    by_cases hlt : k < m
    · have hlx : k < l.length := by rw [HL.out]; exact hlt
      obtain ⟨b2, i2, rfl, hat⟩ := HK.out.open hlx
      obtain ⟨p1, q1, p2, q2, d0, d1, d2, hq1, hin⟩ := hat
      have hbl := block_lt_of_cell d0
      have HD := Lib.hid (fun (w' : World) (hb : Below w.heap.size w w') => And.intro ((hb.cell hbl).trans d0) (And.intro ((hb.cell (by exact hbl)).trans d1) ((hb.cell (by exact hbl)).trans d2)))
      have hop := HO.out k hlx
      have HX := Lib.hid (fun w' hb => oproct_any l[k] hop p1 p2 q1 q2 hq1 w' (HT.out.below hb) (hin.below hb))
      have HV := Lib.hid (fun w' hb => ovalidate_any l[k] p1 p2 q1 q2 hop hq1 w' (hin.below hb))
      have hzp : (ba (procT l[k])).size ≤ 240200 := by rw [oba_size]; exact procT_len hop
      have hS := raw_step hlx
      have HXl := Lib.hid (oba_list (procT l[k]))
      have HG := Lib.hid (good_step hlx)
      have hst : t.size ≤ 260000000000 := by have : 240201 * k ≤ 240201 * 1048576 := Nat.mul_le_mul_left _ (by omega); omega
      have HS2 := Lib.hid hS
      obtain ⟨e0, e1, e2⟩ := HD.out _ HB.out
      generalize ba (procT l[k]) = U at HX hzp HXl
      have hvb : decide (valE l[k] = 0) = decide (valE l[k] = 0) := rfl
      generalize hbv : decide (valE l[k] = 0) = bv at HG
      clear hvb
      unfold prV at HX HV
      generalize l[k] = p at e0 e1 e2 HX HV HD HS2 hbv HXl
      clear hin hop hq1 d0 d1 d2 hbl hS
      have fin : ∀ (u : ByteArray), u.data.toList = raw 0 (l.take (k + 1)) → u.size ≤ t.size + 240201 → u.size ≤ 240201 * (k + 1) := fun u _ h => by omega
      have HF := Lib.hid fin
      clear fin
      by_cases hk0 : k = 0
      · have bk : decide (0 < k) = false := decide_eq_false (by omega)
        have HN2 : Hid ((t ++ U).data.toList = raw 0 (l.take (k + 1))) := by
          show _ = _
          rw [append_list, HS.out, HS2.out, if_pos hk0, HXl.out]; rfl
        have hz2 : (t ++ U).size ≤ 240201 * (k + 1) := by simp only [ByteArray.size_append]; omega
        clear hk0
        go_wp2_with fail
        refine (HX.out _ HB.out).mono ?_; rintro e w2 ⟨rfl, hb2⟩
        have HB2 := Lib.hid (HB.out.trans (hb2.mono HB.out.size))
        obtain ⟨f0, f1, f2⟩ := HD.out _ HB2.out
        clear hb2 e0 e1 e2
        cases hg : good l k
        · rw [hg] at HG
          go_wp2_with fail
          go_roundw
          case rel => exact ⟨k + 1, _, by omega, by go_num, rfl, (by rw [HG.out]; rfl), hz2, HN2, HB2.out⟩
          case measure => simp only [intOf]; omega
        · rw [hg] at HG
          go_wp2_with fail
          refine (HV.out _ HB2.out).mono ?_; rintro e w3 ⟨rfl, hb3⟩
          have HB3 := Lib.hid (HB2.out.trans (hb3.mono HB2.out.size))
          clear hb3 f0 f1 f2
          go_wp2_with fail
          go_roundw
          case rel => exact ⟨k + 1, _, by omega, by go_num, rfl, (by rw [HG.out, ← hbv]; rfl), hz2, HN2, HB3.out⟩
          case measure => simp only [intOf]; omega
      · have bk : decide (0 < k) = true := decide_eq_true (by omega)
        have HN2 : Hid ((t ++ ⟨#[10]⟩ ++ U).data.toList = raw 0 (l.take (k + 1))) := by
          show _ = _
          rw [append_list, append_list, HS.out, HS2.out, if_neg hk0, HXl.out]; simp
        have hz2 : (t ++ ⟨#[10]⟩ ++ U : ByteArray).size ≤ 240201 * (k + 1) := by
          have h1 : (⟨#[10]⟩ : ByteArray).size = 1 := rfl
          simp only [ByteArray.size_append, h1]; omega
        clear hk0
        go_wp2_with fail
        refine (HX.out _ HB.out).mono ?_; rintro e w2 ⟨rfl, hb2⟩
        have HB2 := Lib.hid (HB.out.trans (hb2.mono HB.out.size))
        obtain ⟨f0, f1, f2⟩ := HD.out _ HB2.out
        clear hb2 e0 e1 e2
        cases hg : good l k
        · rw [hg] at HG
          go_wp2_with fail
          go_roundw
          case rel => exact ⟨k + 1, _, by omega, by go_num, rfl, (by rw [HG.out]; rfl), hz2, HN2, HB2.out⟩
          case measure => simp only [intOf]; omega
        · rw [hg] at HG
          go_wp2_with fail
          refine (HV.out _ HB2.out).mono ?_; rintro e w3 ⟨rfl, hb3⟩
          have HB3 := Lib.hid (HB2.out.trans (hb3.mono HB2.out.size))
          clear hb3 f0 f1 f2
          go_wp2_with fail
          go_roundw
          case rel => exact ⟨k + 1, _, by omega, by go_num, rfl, (by rw [HG.out, ← hbv]; rfl), hz2, HN2, HB3.out⟩
          case measure => simp only [intOf]; omega
    · have hall : l.take k = l := List.take_of_length_le (by rw [HL.out]; omega)
      rw [hall] at HS
      have hgl : good l k = l.all (fun p => decide (valE p = 0)) := by unfold good; rw [hall]
      cases hg : good l k
      · have HV : Hid (ba (progT l) = ⟨#[]⟩) := by
          show _ = _
          unfold progT
          rw [← hgl, hg]; rfl
        rw [HV.out] at H1
        clear hall hgl
        go_wp2_with fail
        refine (H1.out _ HB.out).mono ?_; rintro e w2 ⟨rfl, hb2⟩
        have HB2 := Lib.hid (HB.out.trans (hb2.mono HB.out.size))
        clear hb2
        go_wp2_with fail
        refine (H3.out _ HB2.out).mono ?_; rintro e w3 ⟨rfl, hb3⟩
        have HB3 := Lib.hid (HB2.out.trans (hb3.mono HB2.out.size))
        clear hb3
        go_wp2_with fail
        go_ret
        exact ⟨rfl, HB3.out⟩
      · have HV : Hid (ba (progT l) = t) := by
          have h1 : ∀ p ∈ l, valE p = 0 := fun p hp => of_decide_eq_true (List.all_eq_true.1 (hgl.symm.trans hg) p hp)
          show _ = _
          rw [progT_good h1, ← raw_good h1]
          exact (oba_eq HS.out).symm
        rw [HV.out] at H1
        clear hall hgl
        go_wp2_with fail
        refine (H1.out _ HB.out).mono ?_; rintro e w2 ⟨rfl, hb2⟩
        have HB2 := Lib.hid (HB.out.trans (hb2.mono HB.out.size))
        clear hb2
        go_wp2_with fail
        refine (H3.out _ HB2.out).mono ?_; rintro e w3 ⟨rfl, hb3⟩
        have HB3 := Lib.hid (HB2.out.trans (hb3.mono HB2.out.size))
        clear hb3
        go_wp2_with fail
        go_ret
        exact ⟨rfl, HB3.out⟩
end Go.Proofs.YtbmdadhbkdkgmaaDoor.P
