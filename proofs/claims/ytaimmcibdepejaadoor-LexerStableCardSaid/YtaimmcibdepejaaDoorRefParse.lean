/-
  What the reference's Parse returns, for every text.
-/
import Derived.Test.YtaimmcibdepejaaDoorParse
namespace Go.Proofs.YtaimmcibdepejaaDoor
open Go.RowKit

theorem val_pos {s : ByteArray} {k : Nat} {x : Int} (h : k < s.size) (hx : x = (val (s.data.toList.take k) : Int)) (hc : 48 ≤ (s[k].toNat : Int)) :
    x * 10 + ((s[k].toNat : Int) - 48) = (val (s.data.toList.take (k + 1)) : Int) := by
  rw [val_next h]; omega
theorem val_over2 {s : ByteArray} {k : Nat} {x : Int} (h : k < s.size) (hx : x = (val (s.data.toList.take k) : Int)) (L : Int) (ho : L < x * 10 + ((s[k].toNat : Int) - 48)) (hc : 48 ≤ (s[k].toNat : Int)) :
    L < (val s.data.toList : Int) := by
  have h1 := val_take_le s.data.toList (k + 1)
  rw [val_pos h hx hc] at ho
  omega
theorem val_all2 {s : ByteArray} {x : Int} (hx : x = (val (s.data.toList.take s.size) : Int)) : x = (val s.data.toList : Int) := by
  rw [List.take_of_length_le (by rw [← size_len]; exact Nat.le_refl _)] at hx
  exact hx
theorem rparse_neg_bad (s : ByteArray) (w : World) (hs : s.size ≤ 9223372036854775807) (hp : 0 < s.size) (hm : ((s[0].toNat : Int) == 45) = true) (hw : whole (s.extract 1 s.size).data.toList = false) :
    Calls Tryd.prog 71 #[.string s] w fun e w' => e = .returned (.tuple #[.int .i64 0, .int .i64 5]) ∧ w = w' := by
  have hs2 : (s.extract 1 s.size).size ≤ 9223372036854775807 := by simp; omega
  have HW := Lib.hid hw
  clear hw
  go_enter Tryd.func71, Tryd.ntmps71
  go_wp2_with (go_at_call 81; refine (digits_any _ _ hs2).mono ?_; rw [HW.out]; rintro e w' ⟨rfl, rfl⟩)
  go_ret2
  exact ⟨rfl, rfl⟩
theorem rparse_neg_min (s : ByteArray) (w : World) (hs : s.size ≤ 9223372036854775807) (hp : 0 < s.size) (hm : ((s[0].toNat : Int) == 45) = true) (hw : whole (s.extract 1 s.size).data.toList = true) (hz : (s.extract 1 s.size).toList = [48]) :
    Calls Tryd.prog 71 #[.string s] w fun e w' => e = .returned (.tuple #[.int .i64 0, .int .i64 5]) ∧ w = w' := by
  have hs2 : (s.extract 1 s.size).size ≤ 9223372036854775807 := by simp; omega
  have HW := Lib.hid hw
  clear hw
  go_enter Tryd.func71, Tryd.ntmps71
  go_wp2_with (go_at_call 81; refine (digits_any _ _ hs2).mono ?_; rw [HW.out]; rintro e w' ⟨rfl, rfl⟩)
  go_ret2
  exact ⟨rfl, rfl⟩
theorem rparse_neg (s d : ByteArray) (w : World) (hx : s.extract 1 s.size = d) (hs : s.size ≤ 9223372036854775807) (hp : 0 < s.size) (hm : ((s[0].toNat : Int) == 45) = true) (hw : whole d.data.toList = true) (hz : (d.toList == [48]) = false) :
    Calls Tryd.prog 71 #[.string s] w fun e w' => e = .returned (.tuple #[.int .i64 (vR (-(val d.data.toList : Int))), .int .i64 (eR (-(val d.data.toList : Int)))]) ∧ w = w' := by
  have hs2 : d.size ≤ 9223372036854775807 := by rw [← hx]; simp; omega
  have HW := Lib.hid hw
  clear hw
  go_enter Tryd.func71, Tryd.ntmps71
  go_wp2_with (go_at_call 81; refine (digits_any _ _ hs2).mono ?_; rw [HW.out]; rintro e w' ⟨rfl, rfl⟩)
  clear hx
  go_loop [7, 8] (fun u i => ∃ (k : Nat) (x : Int), k ≤ d.size ∧ i = .int .i64 k ∧ u = .int .u64 x ∧ 0 ≤ x ∧ x ≤ 9223372036854775808 ∧ Hid (x = (val (d.data.toList.take k) : Int))) (fun _ i => d.size - (intOf i).toNat)
  case atStart => exact ⟨0, 0, Nat.zero_le _, rfl, rfl, by omega, by omega, rfl⟩
  case round =>
    obtain ⟨k, x, hk, rfl, rfl, hx1, hx2, HX⟩ := hrel
    by_cases hlt : k < d.size
    · obtain ⟨hc1, hc2⟩ := all_get hlt (whole_all HW.out)
      by_cases hfit : (9223372036854775808 - ((d[k].toNat : Int) - 48)) / 10 < x
      · have HF := Lib.hid (val_over2 hlt HX.out 9223372036854775808 (by omega : 9223372036854775808 < x * 10 + ((d[k].toNat : Int) - 48)) hc1)
        go_wp2
        go_ret2
        exact ⟨pair_out (by have := HF.out; omega), rfl⟩
      · have hfit2 : x ≤ (9223372036854775808 - ((d[k].toNat : Int) - 48)) / 10 := by omega
        have hn : x * 10 + ((d[k].toNat : Int) - 48) ≤ 9223372036854775808 := by omega
        have hn2 : x * 10 ≤ 9223372036854775808 := by omega
        have HN := Lib.hid (val_pos hlt HX.out hc1)
        clear hfit
        go_wp2
        go_round
        case rel => exact ⟨k + 1, x * 10 + ((d[k].toNat : Int) - 48), by omega, by go_num, rfl, by omega, hn, HN⟩
        case measure => simp [intOf]; omega
    · obtain rfl : d.size = k := by omega
      have HA := Lib.hid (val_all2 HX.out)
      go_wp2
      go_ret2
      exact ⟨pair_of (by have := HA.out; omega) (by have := HA.out; rw [w_u64]; unfold wrap64; omega), rfl⟩
theorem rparse_e_bad (s : ByteArray) (w : World) (hs : s.size ≤ 9223372036854775807) (hp : ¬ 0 < s.size) (hw : whole s.data.toList = false) :
    Calls Tryd.prog 71 #[.string s] w fun e w' => e = .returned (.tuple #[.int .i64 0, .int .i64 5]) ∧ w = w' := by
  have hs2 : s.size ≤ 9223372036854775807 := hs
  have HW := Lib.hid hw
  clear hw
  go_enter Tryd.func71, Tryd.ntmps71
  go_wp2_with (go_at_call 81; refine (digits_any _ _ hs2).mono ?_; rw [HW.out]; rintro e w' ⟨rfl, rfl⟩)
  go_ret2
  exact ⟨rfl, rfl⟩
theorem rparse_p_bad (s : ByteArray) (w : World) (hs : s.size ≤ 9223372036854775807) (hp : 0 < s.size) (hm : ((s[0].toNat : Int) == 45) = false) (hw : whole s.data.toList = false) :
    Calls Tryd.prog 71 #[.string s] w fun e w' => e = .returned (.tuple #[.int .i64 0, .int .i64 5]) ∧ w = w' := by
  have hs2 : s.size ≤ 9223372036854775807 := hs
  have HW := Lib.hid hw
  clear hw
  go_enter Tryd.func71, Tryd.ntmps71
  go_wp2_with (go_at_call 81; refine (digits_any _ _ hs2).mono ?_; rw [HW.out]; rintro e w' ⟨rfl, rfl⟩)
  go_ret2
  exact ⟨rfl, rfl⟩
theorem rparse_pos (d : ByteArray) (w : World) (hs : d.size ≤ 9223372036854775807) (hp : 0 < d.size) (hm : ((d[0].toNat : Int) == 45) = false) (hw : whole d.data.toList = true) :
    Calls Tryd.prog 71 #[.string d] w fun e w' => e = .returned (.tuple #[.int .i64 (vR (val d.data.toList : Int)), .int .i64 (eR (val d.data.toList : Int))]) ∧ w = w' := by
  have hs2 : d.size ≤ 9223372036854775807 := hs
  have HW := Lib.hid hw
  clear hw
  go_enter Tryd.func71, Tryd.ntmps71
  go_wp2_with (go_at_call 81; refine (digits_any _ _ hs2).mono ?_; rw [HW.out]; rintro e w' ⟨rfl, rfl⟩)
  go_loop [7, 8] (fun u i => ∃ (k : Nat) (x : Int), k ≤ d.size ∧ i = .int .i64 k ∧ u = .int .u64 x ∧ 0 ≤ x ∧ x ≤ 9223372036854775807 ∧ Hid (x = (val (d.data.toList.take k) : Int))) (fun _ i => d.size - (intOf i).toNat)
  case atStart => exact ⟨0, 0, Nat.zero_le _, rfl, rfl, by omega, by omega, rfl⟩
  case round =>
    obtain ⟨k, x, hk, rfl, rfl, hx1, hx2, HX⟩ := hrel
    by_cases hlt : k < d.size
    · obtain ⟨hc1, hc2⟩ := all_get hlt (whole_all HW.out)
      by_cases hfit : (9223372036854775807 - ((d[k].toNat : Int) - 48)) / 10 < x
      · have HF := Lib.hid (val_over2 hlt HX.out 9223372036854775807 (by omega : 9223372036854775807 < x * 10 + ((d[k].toNat : Int) - 48)) hc1)
        go_wp2
        go_ret2
        exact ⟨pair_out (by have := HF.out; omega), rfl⟩
      · have hfit2 : x ≤ (9223372036854775807 - ((d[k].toNat : Int) - 48)) / 10 := by omega
        have hn : x * 10 + ((d[k].toNat : Int) - 48) ≤ 9223372036854775807 := by omega
        have hn2 : x * 10 ≤ 9223372036854775807 := by omega
        have HN := Lib.hid (val_pos hlt HX.out hc1)
        clear hfit
        go_wp2
        go_round
        case rel => exact ⟨k + 1, x * 10 + ((d[k].toNat : Int) - 48), by omega, by go_num, rfl, by omega, hn, HN⟩
        case measure => simp [intOf]; omega
    · obtain rfl : d.size = k := by omega
      have HA := Lib.hid (val_all2 HX.out)
      go_wp2
      go_ret2
      exact ⟨pair_of (by have := HA.out; omega) HA.out, rfl⟩
/-- What the reference's Parse returns, for every text. -/
theorem rparse_any (s : ByteArray) (w : World) (hs : s.size ≤ 9223372036854775807) :
    Calls Tryd.prog 71 #[.string s] w fun e w' => e = .returned (.tuple #[.int .i64 (pV s.data.toList), .int .i64 (pE s.data.toList)]) ∧ w = w' := by
  by_cases hp : 0 < s.size
  · cases hm : ((s[0].toNat : Int) == 45)
    · have h1 : minus s.data.toList = false := by
        unfold minus
        rw [list_cons hp, List.head?_cons, Option.some_beq_some]
        refine beq_eq_false_iff_ne.2 fun h => ?_
        rw [h] at hm
        exact absurd hm (by decide)
      have h2 : body s.data.toList = s.data.toList := by unfold body; rw [h1]; rfl
      unfold pV pE good num
      rw [h1, h2]
      cases hw : whole s.data.toList
      · exact rparse_p_bad s w hs hp hm hw
      · exact rparse_pos s w hs hp hm hw
    · have h1 : minus s.data.toList = true := by
        unfold minus
        rw [list_cons hp, List.head?_cons, Option.some_beq_some]
        have h := beq_iff_eq.1 hm
        exact beq_iff_eq.2 (UInt8.toNat_inj.1 (by simpa using (by omega : s[0].toNat = 45)))
      have h2 : body s.data.toList = (s.extract 1 s.size).data.toList := by
        unfold body; rw [h1, Lib.extract_to_end, List.drop_one]; rfl
      unfold pV pE good num
      rw [h1, h2]
      cases hw : whole (s.extract 1 s.size).data.toList
      · exact rparse_neg_bad s w hs hp hm hw
      · cases hq : (s.extract 1 s.size).data.toList == [48]
        · exact rparse_neg s _ w rfl hs hp hm hw (by rw [Lib.toList_data]; exact hq)
        · exact rparse_neg_min s w hs hp hm hw (by rw [Lib.toList_data]; exact beq_iff_eq.1 hq)
  · have hn := list_nil hp
    rw [Lib.toList_data] at hn
    have hw : whole s.data.toList = false := by rw [hn]; rfl
    rw [hn]
    exact rparse_e_bad s w hs hp hw
end Go.Proofs.YtaimmcibdepejaaDoor
