/-
  The laws of layer 9: PrinterLines: the walk.
-/
import Derived.Test.YtbmdadhbkdkgmaaDoorQF
namespace Go.Proofs.YtbmdadhbkdkgmaaDoor.P
open Go.RowKit
open L (Str isName prt size_len below_2 below_box ret_bool ret_int ret_string bytes_eq append_list Own8 drop_get)
open A
theorem ok_parts {op n op' : Int} {D : Str} (h : okLine op n D = some op') : ∃ x : Int, x = (if D[lead D]? = some 125 then op - 1 else op) ∧ lead D ≠ D.length ∧ (lead D : Int) = 4 * x ∧ (x = 0 → 1 < n → D = [125]) ∧ ((D.getLast? = some 123 ∧ op' = x + 1) ∨ (D.getLast? = some 59 ∧ op' = x) ∨ (D.getLast? = some 125 ∧ op' = x)) := by
  unfold okLine at h
  refine ⟨_, rfl, ?_⟩
  generalize (if D[lead D]? = some 125 then op - 1 else op) = x at h ⊢
  by_cases h1 : lead D = D.length
  · rw [if_pos h1] at h; cases h
  rw [if_neg h1] at h
  by_cases h2 : (lead D : Int) ≠ 4 * x ∨ x = 0 ∧ 1 < n ∧ D ≠ [125]
  · rw [if_pos h2] at h; cases h
  rw [if_neg h2] at h
  have h3 : (lead D : Int) = 4 * x := Decidable.byContradiction fun e => h2 (Or.inl e)
  have h4 : x = 0 → 1 < n → D = [125] := fun a b => Decidable.byContradiction fun e => h2 (Or.inr ⟨a, b, e⟩)
  refine ⟨h1, h3, h4, ?_⟩
  by_cases h5 : D.getLast? = some 123
  · rw [if_pos h5] at h; cases h; exact Or.inl ⟨h5, rfl⟩
  rw [if_neg h5] at h
  by_cases h6 : D.getLast? = some 59 ∨ D.getLast? = some 125
  · rw [if_pos h6] at h
    cases h
    rcases h6 with h6 | h6
    · exact Or.inr (Or.inl ⟨h6, rfl⟩)
    · exact Or.inr (Or.inr ⟨h6, rfl⟩)
  · rw [if_neg h6] at h; cases h
theorem lead_le : ∀ l : Str, lead l ≤ l.length
  | [] => Nat.le_refl _
  | c :: r => by
    have := lead_le r
    unfold lead
    by_cases h : c = 32
    · rw [if_pos h, List.length_cons]; omega
    · rw [if_neg h]; exact Nat.zero_le _
theorem lead_go {d : ByteArray} {j : Nat} (h : j < d.size) (hc : d[j] = 32) : lead (d.data.toList.drop j) = 1 + lead (d.data.toList.drop (j + 1)) := by
  rw [drop_get d j h, lead, if_pos hc]; omega
theorem lead_stop {d : ByteArray} {j : Nat} (h : j < d.size) (hc : d[j] ≠ 32) : lead (d.data.toList.drop j) = 0 := by
  rw [drop_get d j h, lead, if_neg hc]
theorem str_get {s : ByteArray} {k : Nat} (h : k < s.size) : s.data.toList[k]? = some s[k] := by
  rw [List.getElem?_eq_getElem (by rw [← size_len]; exact h)]; rfl
theorem last_get {d : ByteArray} (h : 0 < d.size) : d.data.toList.getLast? = some (d[d.size - 1]'(by omega)) := by
  rw [List.getLast?_eq_getElem?, ← size_len, str_get (by omega)]
theorem u8_ne {c : UInt8} {n : UInt8} (h : c ≠ n) : (c.toNat : Int) ≠ (n.toNat : Int) := fun e => h (UInt8.toNat_inj.1 (by omega))
theorem slice_mid (s : ByteArray) (f k : Nat) (h1 : f ≤ k) (h2 : k ≤ s.size) : ∃ d : ByteArray, d.data.toList = (s.data.toList.take k).drop f ∧ d.size = k - f ∧ ∀ W, (Instr.slice 9 (.string s) (some (.int .i64 (f : Int))) (some (.int .i64 (k : Int))) none).run Tryd.prog W = .ok (.string d) W := by
  refine ⟨s.extract f k, ?_, ?_, fun W => ?_⟩
  · simp only [ByteArray.data_extract, Array.toList_extract, List.extract_eq_take_drop, List.drop_take]
  · rw [ByteArray.size_extract]; omega
  · rw [run_slice_string (P := Tryd.prog) W 9 s .i64 .i64 (f : Int) (k : Int) Tryd.underlying9 (by omega) (by omega) (by omega)]
    rfl
set_option maxHeartbeats 8000000 in
set_option maxRecDepth 100000 in
theorem lines_walk (p : Pr) (a1 a2 : Option Addr) (c1 c2 : Nat) (hok : OkP p) (hc1 : p.params.length ≤ c1) (w : World) (ht : Tab w) (hK : PrIn w p a1 a2) :
    Calls Tryd.prog 4 #[prV p a1 c1 a2 c2] w fun e' w' => e' = .returned (.bool true) ∧ Below w.heap.size w w' := by
  have hb := below_box w (.cells #[.string p.name, .slice a1 p.params.length c1, .slice a2 p.body.length c2] 25)
  have HB := Lib.hid hb
  have HBx := Lib.hid (BoxP.new w p a1 c1 a2 c2)
  have HT := Lib.hid (ht.below hb)
  have HX := Lib.hid (oproct_any p hok a1 a2 c1 c2 hc1 _ (ht.below hb) (hK.below hb))
  have HV := Lib.hid (fun w' hb' => ovalidate_any p a1 a2 c1 c2 hok hc1 w' ((hK.below hb).below hb'))
  have H3 := Lib.hid (fun w' hb' => examples_any w' ((ht.below hb).below hb'))
  unfold prV at *
  by_cases hv : valE p = 0
  · have wp := wp_here hok hv
    have hlen := txP_lenN hv wp
    obtain ⟨mm, hs1, hs2, hs3, t5, hs4, hs5⟩ := txP_scan wp
    have hPT : procT p = txP p := by unfold procT; rw [if_pos hv]
    rw [hv] at HV
    rw [hPT] at HX
    have HS := Lib.hid (oba_list (txP p))
    have hsz : (ba (txP p)).size = (txP p).length := oba_size _
    generalize ba (txP p) = s at HX HS hsz
    have hS : txP p = s.data.toList := HS.out.symm
    rw [hS] at hs1 hs3 hs4 hlen hsz
    have HE := Lib.hid hs1
    have HN := Lib.hid hs3
    have hsz2 : s.size ≤ 240200 := by omega
    have h5 : 6 ≤ s.size := by
      rw [size_len, hs4]
      simp [kProc]; omega
    have H5 : Hid (s.extract 0 5 = ⟨#[112, 114, 111, 99, 32]⟩) := by
      refine bytes_eq ?_
      simp only [ByteArray.data_extract, Array.toList_extract, List.extract_eq_take_drop, List.drop_zero, Nat.sub_zero]
      rw [hs4]; rfl
    clear hsz hs1 hs3 hs4 hs5 hlen hS HS hPT wp hv ht hK hok hc1 hb
    go_enter Tryd.func4, Tryd.ntmps4
    go_wp2_with fail
    refine HX.out.mono ?_; rintro e w1 ⟨rfl, hb1⟩
    have HB1 := Lib.hid hb1
    have y := HBx.out.below hb1
    have y0 := y.k0
    have y1 := y.k1
    have y2 := y.k2
    clear hb1 y
    go_wp2_with fail
    refine (HV.out _ HB1.out).mono ?_; rintro e w2 ⟨rfl, hb2⟩
    have HB2 := Lib.hid (below_2 HB1.out hb2)
    clear hb2 y0 y1 y2
    go_wp2_with fail
    go_loopw [4, 5, 6, 7] (fun o f n i wr => ∃ (k f' : Nat) (op nn : Int), k ≤ s.size ∧ i = .int .i64 k ∧ f = .int .i64 f' ∧ o = .int .i64 op ∧ n = .int .i64 nn ∧ wr = w2 ∧ Hid (scan s.data.toList k = some (f', op, nn))) (fun _ _ _ i _ => s.size - (intOf i).toNat)
    case atStart => exact ⟨0, 0, 0, 0, Nat.zero_le _, rfl, rfl, rfl, rfl, rfl, rfl⟩
    case round =>
      obtain ⟨k, f, op, n, hk, rfl, rfl, rfl, rfl, rfl, HC⟩ := hrel
      have bd := scan_bd HC.out
      by_cases hlt : k < s.size
      · have hg := str_get hlt
        have hne := HN.out (k + 1) (by rw [← size_len]; omega)
        by_cases h10 : s[k] = 10
        · have b10 : (s[k].toNat : Int) = 10 := by rw [h10]; rfl
          obtain ⟨d, hd, hdz, hsl⟩ := slice_mid s f k bd.1 hk
          obtain ⟨op', HO⟩ : ∃ op', okLine op (n + 1) d.data.toList = some op' := by
            rw [scan, HC.out] at hne
            simp only at hne
            rw [if_pos (by rw [hg, h10]), ← hd] at hne
            cases ho : okLine op (n + 1) d.data.toList with
            | none => rw [ho] at hne; exact absurd rfl hne
            | some x => exact ⟨x, rfl⟩
          have HNx : Hid (scan s.data.toList (k + 1) = some (k + 1, op', n + 1)) := by
            show _ = _
            rw [scan, HC.out]
            simp only
            rw [if_pos (by rw [hg, h10]), ← hd, HO]
          obtain ⟨x, hx, hl1, hl2, hl3, hl4⟩ := ok_parts HO
          have HLe := Lib.hid (lead_le d.data.toList)
          clear hd hne hg HO h10
          obtain ⟨bd1, bd2, bd3, bd4, bd5⟩ := bd
          obtain ⟨ld, hld⟩ : ∃ ld, lead d.data.toList = ld := ⟨_, rfl⟩
          have HLD := Lib.hid hld
          rw [hld] at hl1 hl2 hx HLe
          have hl1' : ld < d.size := by rw [size_len]; have := HLe.out; omega
          have HL1 := Lib.hid hl1'
          have HX1 := Lib.hid hx
          have HL2 := Lib.hid hl2
          have HL3 := Lib.hid hl3
          have HL4 := Lib.hid hl4
          clear hl1 hl2 hl3 hl4 hx hld hl1'
          go_wp2_with fail
          go_loopw [9] (fun s9 wq => ∃ j : Nat, j ≤ d.size ∧ s9 = .int .i64 j ∧ wq = wr ∧ Hid (j + lead (d.data.toList.drop j) = ld)) (fun s9 _ => d.size - (intOf s9).toNat)
          case atStart => exact ⟨0, Nat.zero_le _, rfl, rfl, by unfold Hid; rw [List.drop_zero, HLD.out]; omega⟩
          case round =>
            obtain ⟨j, hj, rfl, rfl, HJ⟩ := hrel
            have hjl : j ≤ ld := by have := HJ.out; omega
            have hjs : j < d.size := Nat.lt_of_le_of_lt hjl HL1.out
            by_cases h32 : d[j] = 32
            · have b32 : (d[j].toNat : Int) = 32 := by rw [h32]; rfl
              have HJ2 : Hid (j + 1 + lead (d.data.toList.drop (j + 1)) = ld) := by
                show _ = _
                rw [← HJ.out, lead_go hjs h32]; omega
              clear h32
              go_wp2_with fail
              go_roundw
              case rel => exact ⟨j + 1, by omega, by go_num, by first | rfl | trivial, HJ2⟩
              case measure => simp only [intOf]; omega
            · have b32 : (d[j].toNat : Int) ≠ 32 := u8_ne h32
              obtain rfl : j = ld := by have := HJ.out; rw [lead_stop hjs h32] at this; omega
              clear h32 hjl
              have hjl := HL1.out
              have hdb : d.size ≤ 240200 := by omega
              have hdp : 0 < d.size := by omega
              have hlast := last_get hdp
              have hd1 : (1 : Int) ≤ (d.size : Int) := by omega
              have hd2 : (d.size : Int) - 1 < (d.size : Int) := by omega
              have bj : ((j : Int) == (d.size : Int)) = false := by rw [beq_eq_false_iff_ne]; omega
              have hgj := str_get hjl
              have HD : Hid (x = 0 → 1 < n + 1 → (d.toList == [125]) = true) := fun a b => by
                have := HL3.out a b
                rw [Lib.toList_data, this]; rfl
              have HX2 := HX1.out
              rw [hgj] at HX2
              have HL4' := HL4.out
              rw [hlast] at HL4'
              clear hgj hlast hdz
              by_cases h125 : d[j] = 125
              · have bc : (d[j].toNat : Int) = 125 := by rw [h125]; rfl
                rw [if_pos (by rw [h125])] at HX2
                have HX3 := Lib.hid HX2
                clear HX2 h125
                rcases HL4' with ⟨h, hop⟩ | ⟨h, hop⟩ | ⟨h, hop⟩
                · have bl : ((d[d.size - 1]'(by omega)).toNat : Int) = 123 := by rw [Option.some.inj h]; rfl
                  have HOP := Lib.hid hop
                  clear h hop
                  go_wp2_with fail
                  all_goals
                    have e3 := HX3.out
                    have e4 := HL2.out
                    have e5 := HOP.out
                    first
                      | exact ⟨⟨k + 1, k + 1, _, n + 1, by omega, by go_num, by go_num, rfl, rfl, by first | rfl | trivial, by unfold Hid; rw [HNx.out]; exact congrArg (fun z : Int => some (k + 1, z, n + 1)) (by omega)⟩, by simp only [intOf]; omega⟩
                      | (exfalso; omega)
                      | (exfalso; have h2 := HD.out (by omega) (by omega); simp_all)
                · have bl : ((d[d.size - 1]'(by omega)).toNat : Int) = 59 := by rw [Option.some.inj h]; rfl
                  have HOP := Lib.hid hop
                  clear h hop
                  go_wp2_with fail
                  all_goals
                    have e3 := HX3.out
                    have e4 := HL2.out
                    have e5 := HOP.out
                    first
                      | exact ⟨⟨k + 1, k + 1, _, n + 1, by omega, by go_num, by go_num, rfl, rfl, by first | rfl | trivial, by unfold Hid; rw [HNx.out]; exact congrArg (fun z : Int => some (k + 1, z, n + 1)) (by omega)⟩, by simp only [intOf]; omega⟩
                      | (exfalso; omega)
                      | (exfalso; have h2 := HD.out (by omega) (by omega); simp_all)
                · have bl : ((d[d.size - 1]'(by omega)).toNat : Int) = 125 := by rw [Option.some.inj h]; rfl
                  have HOP := Lib.hid hop
                  clear h hop
                  go_wp2_with fail
                  all_goals
                    have e3 := HX3.out
                    have e4 := HL2.out
                    have e5 := HOP.out
                    first
                      | exact ⟨⟨k + 1, k + 1, _, n + 1, by omega, by go_num, by go_num, rfl, rfl, by first | rfl | trivial, by unfold Hid; rw [HNx.out]; exact congrArg (fun z : Int => some (k + 1, z, n + 1)) (by omega)⟩, by simp only [intOf]; omega⟩
                      | (exfalso; omega)
                      | (exfalso; have h2 := HD.out (by omega) (by omega); simp_all)
              · have bc : (d[j].toNat : Int) ≠ 125 := u8_ne h125
                rw [if_neg (by intro e; exact h125 (Option.some.inj e))] at HX2
                have HX3 := Lib.hid HX2
                clear HX2 h125
                rcases HL4' with ⟨h, hop⟩ | ⟨h, hop⟩ | ⟨h, hop⟩
                · have bl : ((d[d.size - 1]'(by omega)).toNat : Int) = 123 := by rw [Option.some.inj h]; rfl
                  have HOP := Lib.hid hop
                  clear h hop
                  go_wp2_with fail
                  all_goals
                    have e3 := HX3.out
                    have e4 := HL2.out
                    have e5 := HOP.out
                    first
                      | exact ⟨⟨k + 1, k + 1, _, n + 1, by omega, by go_num, by go_num, rfl, rfl, by first | rfl | trivial, by unfold Hid; rw [HNx.out]; exact congrArg (fun z : Int => some (k + 1, z, n + 1)) (by omega)⟩, by simp only [intOf]; omega⟩
                      | (exfalso; omega)
                      | (exfalso; have h2 := HD.out (by omega) (by omega); simp_all)
                · have bl : ((d[d.size - 1]'(by omega)).toNat : Int) = 59 := by rw [Option.some.inj h]; rfl
                  have HOP := Lib.hid hop
                  clear h hop
                  go_wp2_with fail
                  all_goals
                    have e3 := HX3.out
                    have e4 := HL2.out
                    have e5 := HOP.out
                    first
                      | exact ⟨⟨k + 1, k + 1, _, n + 1, by omega, by go_num, by go_num, rfl, rfl, by first | rfl | trivial, by unfold Hid; rw [HNx.out]; exact congrArg (fun z : Int => some (k + 1, z, n + 1)) (by omega)⟩, by simp only [intOf]; omega⟩
                      | (exfalso; omega)
                      | (exfalso; have h2 := HD.out (by omega) (by omega); simp_all)
                · have bl : ((d[d.size - 1]'(by omega)).toNat : Int) = 125 := by rw [Option.some.inj h]; rfl
                  have HOP := Lib.hid hop
                  clear h hop
                  go_wp2_with fail
                  all_goals
                    have e3 := HX3.out
                    have e4 := HL2.out
                    have e5 := HOP.out
                    first
                      | exact ⟨⟨k + 1, k + 1, _, n + 1, by omega, by go_num, by go_num, rfl, rfl, by first | rfl | trivial, by unfold Hid; rw [HNx.out]; exact congrArg (fun z : Int => some (k + 1, z, n + 1)) (by omega)⟩, by simp only [intOf]; omega⟩
                      | (exfalso; omega)
                      | (exfalso; have h2 := HD.out (by omega) (by omega); simp_all)
        · have b10 : (s[k].toNat : Int) ≠ 10 := u8_ne h10
          have HNx : Hid (scan s.data.toList (k + 1) = some (f, op, n)) := by
            show _ = _
            rw [scan, HC.out]
            simp only
            rw [if_neg (by rw [hg]; intro e; exact h10 (Option.some.inj e))]
          clear hne hg h10
          go_wp2_with fail
          go_roundw
          case rel => exact ⟨k + 1, f, op, n, by omega, by go_num, rfl, rfl, rfl, by first | rfl | trivial, HNx⟩
          case measure => simp only [intOf]; omega
      · obtain rfl : k = s.size := by omega
        have he := HC.out
        rw [size_len, HE.out] at he
        have hfe : f = s.size ∧ op = 0 ∧ n = mm := by
          rw [size_len]
          injection he with he
          injection he with h1 h2
          injection h2 with h2 h3
          exact ⟨h1.symm, h2.symm, h3.symm⟩
        obtain ⟨rfl, rfl, rfl⟩ := hfe
        have h5' := H5.out
        clear bd he hlt
        go_wp2_with fail
        refine (H3.out _ HB2.out).mono ?_; rintro e w3 ⟨rfl, hb3⟩
        have HB3 := Lib.hid (below_2 (below_2 HB.out HB2.out) hb3)
        clear hb3
        go_wp2_with fail
        go_ret
        exact ⟨rfl, HB3.out⟩
  · have hPT : procT p = [] := by unfold procT; rw [if_neg hv]
    have HT0 : Hid (ba [] = ⟨#[]⟩) := rfl
    rw [hPT, HT0.out] at HX
    have bv : decide (valE p = 0) = false := decide_eq_false hv
    clear hPT ht hK hok hc1 hb
    go_enter Tryd.func4, Tryd.ntmps4
    go_wp2_with fail
    refine HX.out.mono ?_; rintro e w1 ⟨rfl, hb1⟩
    have HB1 := Lib.hid hb1
    have y := HBx.out.below hb1
    have y0 := y.k0
    have y1 := y.k1
    have y2 := y.k2
    clear hb1 y
    go_wp2_with fail
    refine (HV.out _ HB1.out).mono ?_; rintro e w2 ⟨rfl, hb2⟩
    have HB2 := Lib.hid (below_2 HB1.out hb2)
    clear hb2 y0 y1 y2
    go_wp2_with fail
    refine (H3.out _ HB2.out).mono ?_; rintro e w3 ⟨rfl, hb3⟩
    have HB3 := Lib.hid (below_2 (below_2 HB.out HB2.out) hb3)
    clear hb3
    go_wp2_with fail
    go_ret
    exact ⟨rfl, HB3.out⟩
end Go.Proofs.YtbmdadhbkdkgmaaDoor.P
