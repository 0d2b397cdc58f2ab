import Derived.Test.YtaimmcibdepejaaDoorDigits
import Derived.Deep.LoopGhost
namespace Go.Proofs.YtaimmcibdepejaaDoor
open Go.RowKit

theorem cut_any (s : ByteArray) (w : World) :
    Calls Tryd.prog 90 #[.string s, .string ⟨#[45]⟩] w fun e w' => e = .returned (.tuple #[.string ⟨(body s.data.toList).toArray⟩, .bool (minus s.data.toList)]) ∧ w = w' := by
  have h1 : Lib.hasPrefix s.data.toList [45] = minus s.data.toList := by
    unfold Lib.hasPrefix minus
    cases s.data.toList with
    | nil => rfl
    | cons c r => rw [Bool.eq_iff_iff]; simp [List.isPrefixOf]; exact eq_comm
  have h2 : Lib.trimPrefix s.data.toList [45] = body s.data.toList := by
    unfold Lib.trimPrefix body
    rw [h1]
    simp
  rw [← h1, ← h2]
  exact (Tryd.strings_CutPrefix s ⟨#[45]⟩ w).mono fun e w' ⟨a, b⟩ => ⟨a, b.symm⟩

theorem all_get {s : ByteArray} {k : Nat} (h : k < s.size) (hd : s.data.toList.all isDig = true) : 48 ≤ (s[k].toNat : Int) ∧ (s[k].toNat : Int) ≤ 57 := by
  refine (isDig_iff _).1 (List.all_eq_true.1 hd _ ?_)
  rw [← list_get h]
  exact List.getElem_mem _
theorem whole_all {l : List UInt8} (h : whole l = true) : l.all isDig = true := by
  unfold whole at h
  exact (Bool.and_eq_true _ _ ▸ h).1
theorem val_next {s : ByteArray} {k : Nat} (h : k < s.size) : val (s.data.toList.take (k + 1)) = val (s.data.toList.take k) * 10 + (s[k].toNat - 48) := by
  rw [take_snoc _ _ (by rw [← size_len]; exact h), val_snoc, list_get h]

theorem tdiv_10 (y : Int) (h : y ≤ 0) : y.tdiv 10 = -((-y) / 10) := by
  have h1 := Int.neg_tdiv (-y) 10
  rw [Int.neg_neg] at h1
  rw [h1, Int.tdiv_eq_ediv_of_nonneg (by omega)]
theorem val_neg {s : ByteArray} {k : Nat} {x : Int} (h : k < s.size) (hx : x = -(val (s.data.toList.take k) : Int)) (hc : 48 ≤ (s[k].toNat : Int)) :
    x * 10 - ((s[k].toNat : Int) - 48) = -(val (s.data.toList.take (k + 1)) : Int) := by
  rw [val_next h]; omega
theorem val_over {s : ByteArray} {k : Nat} {x : Int} (h : k < s.size) (hx : x = -(val (s.data.toList.take k) : Int)) (ho : x * 10 - ((s[k].toNat : Int) - 48) < -9223372036854775808) (hc : 48 ≤ (s[k].toNat : Int)) :
    9223372036854775808 < (val s.data.toList : Int) := by
  have h1 := val_take_le s.data.toList (k + 1)
  rw [val_neg h hx hc] at ho
  omega
theorem val_all {s : ByteArray} {x : Int} (hx : x = -(val (s.data.toList.take s.size) : Int)) : -x = (val s.data.toList : Int) := by
  rw [List.take_of_length_le (by rw [← size_len]; exact Nat.le_refl _)] at hx
  omega

theorem parse_pos (s d : ByteArray) (w : World) (hd : ∀ w, Calls Tryd.prog 90 #[.string s, .string ⟨#[45]⟩] w fun e w' => e = .returned (.tuple #[.string d, .bool false]) ∧ w = w') (hs : d.size ≤ 9223372036854775807)
    (hw : whole d.data.toList = true) :
    Calls Tryd.prog 80 #[.string s] w fun e w' => e = .returned (.tuple #[.int .i64 (vR (val d.data.toList : Int)), .int .i64 (eR (val d.data.toList : Int))]) ∧ w = w' := by
  have HC := Lib.hid hd
  have HW := Lib.hid hw
  clear hd hw
  go_enter Tryd.func80, Tryd.ntmps80
  go_wp2
  go_step3
  go_wp2_with (first
    | (go_at_call 90; refine (HC.out _).mono ?_; rintro e w' ⟨rfl, rfl⟩)
    | (go_at_call 91; refine (isWhole_any _ _ hs).mono ?_; rw [HW.out]; rintro e w' ⟨rfl, rfl⟩))
  go_step3
  go_wp2
  go_loop [6, 7, 27] (fun v f i => ∃ (k : Nat) (x : Int), k ≤ d.size ∧ i = .int .i64 k ∧ f = .bool true ∧ v = .int .i64 x ∧ -9223372036854775808 ≤ x ∧ x ≤ 0 ∧ Hid (x = -(val (d.data.toList.take k) : Int))) (fun _ _ i => d.size - (intOf i).toNat)
  case atStart => exact ⟨0, 0, Nat.zero_le _, rfl, rfl, rfl, by omega, by omega, rfl⟩
  case round =>
    obtain ⟨k, x, hk, rfl, rfl, rfl, hx1, hx2, HX⟩ := hrel
    by_cases hlt : k < d.size
    · obtain ⟨hc1, hc2⟩ := all_get hlt (whole_all HW.out)
      have ht := tdiv_10 (-9223372036854775808 + ((d[k].toNat : Int) - 48)) (by omega)
      by_cases hfit : x < (-9223372036854775808 + ((d[k].toNat : Int) - 48)).tdiv 10
      · have HF := Lib.hid (val_over hlt HX.out (by omega : x * 10 - ((d[k].toNat : Int) - 48) < -9223372036854775808) hc1)
        clear ht
        go_wp2
        go_ret2
        exact ⟨pair_out (by have := HF.out; omega), rfl⟩
      · have hfit2 : (-9223372036854775808 + ((d[k].toNat : Int) - 48)).tdiv 10 ≤ x := by omega
        have hn : -9223372036854775808 ≤ x * 10 - ((d[k].toNat : Int) - 48) := by omega
        have hn2 : -9223372036854775808 ≤ x * 10 := by omega
        have HN := Lib.hid (val_neg hlt HX.out hc1)
        clear hfit ht
        go_wp2
        go_round
        case rel => exact ⟨k + 1, x * 10 - ((d[k].toNat : Int) - 48), by omega, by go_num, rfl, rfl, hn, by omega, HN⟩
        case measure => simp [intOf]; omega
    · obtain rfl : d.size = k := by omega
      have HA := Lib.hid (val_all HX.out)
      go_wp2_with (go_at_call 92; refine (neg_any _ (by omega) (by omega) _).mono ?_; rintro e w' ⟨rfl, rfl⟩)
      rw [Exit.noGoto_ret]
      go_ret2
      exact ⟨ret2 (by rw [HA.out]) (by rw [HA.out]), rfl⟩
theorem parse_neg (s d : ByteArray) (w : World) (hd : ∀ w, Calls Tryd.prog 90 #[.string s, .string ⟨#[45]⟩] w fun e w' => e = .returned (.tuple #[.string d, .bool true]) ∧ w = w') (hs : d.size ≤ 9223372036854775807)
    (hw : whole d.data.toList = true) (hz : (d.toList == [48]) = false) :
    Calls Tryd.prog 80 #[.string s] w fun e w' => e = .returned (.tuple #[.int .i64 (vR (-(val d.data.toList : Int))), .int .i64 (eR (-(val d.data.toList : Int)))]) ∧ w = w' := by
  have HC := Lib.hid hd
  have HW := Lib.hid hw
  clear hd hw
  go_enter Tryd.func80, Tryd.ntmps80
  go_wp2
  go_step3
  go_wp2_with (first
    | (go_at_call 90; refine (HC.out _).mono ?_; rintro e w' ⟨rfl, rfl⟩)
    | (go_at_call 91; refine (isWhole_any _ _ hs).mono ?_; rw [HW.out]; rintro e w' ⟨rfl, rfl⟩))
  go_step3
  go_wp2
  go_loop [6, 7, 27] (fun v f i => ∃ (k : Nat) (x : Int), k ≤ d.size ∧ i = .int .i64 k ∧ f = .bool true ∧ v = .int .i64 x ∧ -9223372036854775808 ≤ x ∧ x ≤ 0 ∧ Hid (x = -(val (d.data.toList.take k) : Int))) (fun _ _ i => d.size - (intOf i).toNat)
  case atStart => exact ⟨0, 0, Nat.zero_le _, rfl, rfl, rfl, by omega, by omega, rfl⟩
  case round =>
    obtain ⟨k, x, hk, rfl, rfl, rfl, hx1, hx2, HX⟩ := hrel
    by_cases hlt : k < d.size
    · obtain ⟨hc1, hc2⟩ := all_get hlt (whole_all HW.out)
      have ht := tdiv_10 (-9223372036854775808 + ((d[k].toNat : Int) - 48)) (by omega)
      by_cases hfit : x < (-9223372036854775808 + ((d[k].toNat : Int) - 48)).tdiv 10
      · have HF := Lib.hid (val_over hlt HX.out (by omega : x * 10 - ((d[k].toNat : Int) - 48) < -9223372036854775808) hc1)
        clear ht
        go_wp2
        go_ret2
        exact ⟨pair_out (by have := HF.out; omega), rfl⟩
      · have hfit2 : (-9223372036854775808 + ((d[k].toNat : Int) - 48)).tdiv 10 ≤ x := by omega
        have hn : -9223372036854775808 ≤ x * 10 - ((d[k].toNat : Int) - 48) := by omega
        have hn2 : -9223372036854775808 ≤ x * 10 := by omega
        have HN := Lib.hid (val_neg hlt HX.out hc1)
        clear hfit ht
        go_wp2
        go_round
        case rel => exact ⟨k + 1, x * 10 - ((d[k].toNat : Int) - 48), by omega, by go_num, rfl, rfl, hn, by omega, HN⟩
        case measure => simp [intOf]; omega
    · obtain rfl : d.size = k := by omega
      have HA := Lib.hid (val_all HX.out)
      go_wp2
      go_ret2
      exact ⟨pair_of (by have := HA.out; omega) (by have := HA.out; omega), rfl⟩
theorem parse_bad (s d : ByteArray) (g : Bool) (w : World) (hd : ∀ w, Calls Tryd.prog 90 #[.string s, .string ⟨#[45]⟩] w fun e w' => e = .returned (.tuple #[.string d, .bool g]) ∧ w = w') (hs : d.size ≤ 9223372036854775807)
    (hw : whole d.data.toList = false) :
    Calls Tryd.prog 80 #[.string s] w fun e w' => e = .returned (.tuple #[.int .i64 0, .int .i64 5]) ∧ w = w' := by
  have HC := Lib.hid hd
  have HW := Lib.hid hw
  clear hd hw
  go_enter Tryd.func80, Tryd.ntmps80
  go_wp2
  go_step3
  go_wp2_with (first
    | (go_at_call 90; refine (HC.out _).mono ?_; rintro e w' ⟨rfl, rfl⟩)
    | (go_at_call 91; refine (isWhole_any _ _ hs).mono ?_; rw [HW.out]; rintro e w' ⟨rfl, rfl⟩))
  rw [Exit.noGoto_ret]
  go_ret2
  exact ⟨rfl, rfl⟩
theorem parse_min (s d : ByteArray) (w : World) (hd : ∀ w, Calls Tryd.prog 90 #[.string s, .string ⟨#[45]⟩] w fun e w' => e = .returned (.tuple #[.string d, .bool true]) ∧ w = w') (hs : d.size ≤ 9223372036854775807)
    (hw : whole d.data.toList = true) (hz : d.toList = [48]) :
    Calls Tryd.prog 80 #[.string s] w fun e w' => e = .returned (.tuple #[.int .i64 0, .int .i64 5]) ∧ w = w' := by
  have HC := Lib.hid hd
  have HW := Lib.hid hw
  clear hd hw
  go_enter Tryd.func80, Tryd.ntmps80
  go_wp2
  go_step3
  go_wp2_with (first
    | (go_at_call 90; refine (HC.out _).mono ?_; rintro e w' ⟨rfl, rfl⟩)
    | (go_at_call 91; refine (isWhole_any _ _ hs).mono ?_; rw [HW.out]; rintro e w' ⟨rfl, rfl⟩))
  rw [Exit.noGoto_ret]
  go_ret2
  exact ⟨rfl, rfl⟩

/-- the text behind a minus sign, as bytes -/
def bodyB (s : ByteArray) : ByteArray := ⟨(body s.data.toList).toArray⟩
theorem bodyB_list (s : ByteArray) : (bodyB s).data.toList = body s.data.toList := by simp [bodyB]
theorem bodyB_size (s : ByteArray) : (bodyB s).size ≤ s.size := by
  rw [size_len, bodyB_list, size_len]
  unfold body
  split <;> simp
/-- What Parse returns, for every text. -/
theorem parse_any (s : ByteArray) (w : World) (hs : s.size ≤ 9223372036854775807) :
    Calls Tryd.prog 80 #[.string s] w fun e w' => e = .returned (.tuple #[.int .i64 (pV s.data.toList), .int .i64 (pE s.data.toList)]) ∧ w = w' := by
  have hd : ∀ w, Calls Tryd.prog 90 #[.string s, .string ⟨#[45]⟩] w fun e w' => e = .returned (.tuple #[.string (bodyB s), .bool (minus s.data.toList)]) ∧ w = w' := fun w => cut_any s w
  have hz := bodyB_size s
  have hl := bodyB_list s
  unfold pV pE good num
  rw [← hl]
  generalize bodyB s = d at *
  cases hw : whole d.data.toList
  · exact parse_bad s d _ w hd (by omega) hw
  · generalize minus s.data.toList = g at *
    cases g
    · exact parse_pos s d w hd (by omega) hw
    · cases hq : d.data.toList == [48]
      · exact parse_neg s d w hd (by omega) hw (by rw [Lib.toList_data]; exact hq)
      · exact parse_min s d w hd (by omega) hw (by rw [Lib.toList_data]; exact beq_iff_eq.1 hq)
end Go.Proofs.YtaimmcibdepejaaDoor
