/-
  What the arithmetic functions of the program and of the reference return, for all 64-bit integers: contracts, one a function.
  What the functions on texts return, of the program and of the reference: contracts, one a function.
  
  What Format returns, of the program and of the reference: the decimal numeral, for every 64-bit integer.
-/
import Derived.Test.YteglaeopaocilaaGreatDoorRows
import Derived.Test.YteglaeopaocilaaGreatDoorPlain
import Derived.WalkKit
import Derived.WalkLawsBesides
import Derived.WalkSpells
import Derived.Lib.Hide
import Derived.Test.YteglaeopaocilaaGreatDoorShelf
import Derived.LoopTactic
import Derived.Lib.Strings
import Derived.Lib.IndexBytes
import Derived.Deep.LoopGhost
import Derived.Below
import Derived.Sort.Grow
import Derived.Laws.IdiomStrings
import Derived.Lib.SmallJoins
namespace Go.Proofs.YteglaeopaocilaaGreatDoor
open Go.RowKit

theorem pair_in {n : Int} (h : -9223372036854775808 ≤ n ∧ n ≤ 9223372036854775807) : Ending.returned (.tuple #[.int .i64 n, .int .i64 0]) = Ending.returned (.tuple #[.int .i64 (vR n), .int .i64 (eR n)]) := by
  rw [vR_in h, eR_in h]
theorem pair_out {n : Int} (h : ¬ (-9223372036854775808 ≤ n ∧ n ≤ 9223372036854775807)) : Ending.returned (.tuple #[.int .i64 0, .int .i64 3]) = Ending.returned (.tuple #[.int .i64 (vR n), .int .i64 (eR n)]) := by
  rw [vR_out h, eR_out h]
theorem pair_of {m n : Int} (h : -9223372036854775808 ≤ n ∧ n ≤ 9223372036854775807) (e : m = n) : Ending.returned (.tuple #[.int .i64 m, .int .i64 0]) = Ending.returned (.tuple #[.int .i64 (vR n), .int .i64 (eR n)]) := by
  rw [e]; exact pair_in h

section sums
variable (a b : Int) (ha : -9223372036854775808 ≤ a) (ha' : a ≤ 9223372036854775807) (hb : -9223372036854775808 ≤ b) (hb' : b ≤ 9223372036854775807) (w : World)
include ha ha' hb hb'
end sums
theorem neg_any (a : Int) (ha : -9223372036854775808 ≤ a) (ha' : a ≤ 9223372036854775807) (w : World) :
    Calls Tryz.prog 226 #[.int .i64 a] w fun e w' => e = Ending.returned (.tuple #[.int .i64 (vR (-a)), .int .i64 (eR (-a))]) ∧ w = w' := by
  by_cases h : a = -9223372036854775808
  · subst h
    go_enter Tryz.func226, Tryz.ntmps226
    go_wp2
    go_ret2
    exact ⟨pair_out (by omega), rfl⟩
  · have h2 : -9223372036854775808 < a := by omega
    clear h ha
    go_enter Tryz.func226, Tryz.ntmps226
    go_wp2
    go_ret2
    exact ⟨pair_in (by omega), rfl⟩
/-! ### division -/

theorem ret2 {a b c d : Int} (h : a = c) (k : b = d) : Ending.returned (.tuple #[.int .i64 a, .int .i64 b]) = Ending.returned (.tuple #[.int .i64 c, .int .i64 d]) := by rw [h, k]

/-! ### products -/

end Go.Proofs.YteglaeopaocilaaGreatDoor
namespace Go.Proofs.YteglaeopaocilaaGreatDoor
open Go.RowKit

theorem ret_bool {a b : Bool} (h : a = b) : Ending.returned (.bool a) = Ending.returned (.bool b) := by rw [h]
theorem isDig_iff (c : UInt8) : isDig c = true ↔ 48 ≤ (c.toNat : Int) ∧ (c.toNat : Int) ≤ 57 := by
  unfold isDig
  simp [UInt8.le_iff_toNat_le]
  omega
theorem size_len (s : ByteArray) : s.size = s.data.toList.length := by simp
theorem list_get {s : ByteArray} {k : Nat} (h : k < s.size) : s.data.toList[k]'(by rw [← size_len]; exact h) = s[k] := rfl
theorem take_dig {s : ByteArray} {k : Nat} (h : k < s.size) (hd : (s.data.toList.take k).all isDig = true) (hc : 48 ≤ (s[k].toNat : Int) ∧ (s[k].toNat : Int) ≤ 57) :
    (s.data.toList.take (k + 1)).all isDig = true := by
  rw [take_snoc _ _ (by rw [← size_len]; exact h), List.all_append, hd, list_get h]
  have : isDig s[k] = true := (isDig_iff _).2 hc
  rw [List.all_cons, this]; rfl
theorem whole_not {s : ByteArray} {k : Nat} (h : k < s.size) (hc : ¬ (48 ≤ (s[k].toNat : Int) ∧ (s[k].toNat : Int) ≤ 57)) : whole s.data.toList = false := by
  have h2 : isDig s[k] = false := by
    cases hd : isDig s[k]
    · rfl
    · exact absurd ((isDig_iff _).1 hd) hc
  have : s.data.toList.all isDig = false := by
    rw [List.all_eq_false]
    exact ⟨s[k], by rw [← list_get h]; exact List.getElem_mem _, by simp [h2]⟩
  unfold whole
  rw [this]; rfl
theorem cons_get (l : List UInt8) (h : 0 < l.length) : l = l[0] :: l.tail := by
  match l, h with
  | c :: r, _ => rfl
theorem list_cons {s : ByteArray} (h : 0 < s.size) : s.data.toList = s[0] :: s.data.toList.tail :=
  cons_get s.data.toList (by rw [← size_len]; exact h)
theorem whole_cons {c : UInt8} {r : List UInt8} (hd : (c :: r).all isDig = true) : whole (c :: r) = (c != 48 || r == []) := by
  unfold whole
  rw [hd]
  by_cases hc : c = 48
  · subst hc; cases r <;> simp
  · have e1 : (c == 48) = false := beq_eq_false_iff_ne.2 hc
    have e2 : (c != 48) = true := bne_iff_ne.2 hc
    rw [e2]
    simp [e1, hc]
theorem ne_48 (c : UInt8) : (c != 48) = ((c.toNat : Int) != 48) := by
  rw [Bool.eq_iff_iff]
  simp only [bne_iff_ne, ne_eq]
  constructor
  · intro h1 h2; exact h1 (UInt8.toNat_inj.1 (by simpa using (by omega : c.toNat = 48)))
  · intro h1 h2; rw [h2] at h1; exact h1 rfl
theorem whole_end {s : ByteArray} (h : 0 < s.size) (hd : (s.data.toList.take s.size).all isDig = true) :
    (s.toList == [48] || !s.toList.isEmpty && (s[0].toNat : Int) != 48) = whole s.data.toList := by
  rw [List.take_of_length_le (by rw [← size_len]; exact Nat.le_refl _)] at hd
  rw [Lib.toList_data, list_cons h] at *
  rw [whole_cons hd, ← ne_48]
  by_cases hc : s[0] = 48
  · rw [hc]; cases s.data.toList.tail <;> simp
  · have e1 : (s[0] == 48) = false := beq_eq_false_iff_ne.2 hc
    have e2 : (s[0] != 48) = true := bne_iff_ne.2 hc
    simp [e1, e2]
theorem list_nil {s : ByteArray} (h : ¬ 0 < s.size) : s.toList = [] := by
  rw [Lib.toList_data]
  have := size_len s
  exact List.length_eq_zero_iff.1 (by omega)

theorem isWhole_any (s : ByteArray) (w : World) (hs : s.size ≤ 9223372036854775807) :
    Calls Tryz.prog 225 #[.string s] w fun e w' => e = .returned (.bool (whole s.data.toList)) ∧ w = w' := by
  go_enter Tryz.func225, Tryz.ntmps225
  go_wp2
  go_loop [6] (fun i => ∃ k : Nat, k ≤ s.size ∧ i = .int .i64 k ∧ (s.data.toList.take k).all isDig = true) (fun i => s.size - (intOf i).toNat)
  case atStart => exact ⟨0, Nat.zero_le _, rfl, rfl⟩
  case round =>
    obtain ⟨k, hk, rfl, hd⟩ := hrel
    have HD := Lib.hid hd
    clear hd
    by_cases hlt : k < s.size
    · by_cases hc : 48 ≤ (s[k].toNat : Int) ∧ (s[k].toNat : Int) ≤ 57
      · have HT := Lib.hid (take_dig hlt HD.out hc)
        obtain ⟨hc1, hc2⟩ := hc
        go_wp2
        go_round
        case rel => exact ⟨k + 1, by omega, by go_num, HT.out⟩
        case measure => simp [intOf]; omega
      · have HT := Lib.hid (whole_not hlt hc)
        by_cases hc1 : (s[k].toNat : Int) < 48
        · clear hc
          go_wp2
          go_ret
          exact ⟨ret_bool HT.out.symm, rfl⟩
        · have hc2 : 57 < (s[k].toNat : Int) := by omega
          clear hc
          go_wp2
          go_ret
          exact ⟨ret_bool HT.out.symm, rfl⟩
    · obtain rfl : s.size = k := by omega
      by_cases hp : 0 < s.size
      · have HT := Lib.hid (whole_end hp HD.out)
        go_wp2
        · rename_i h _
          go_ret
          exact ⟨ret_bool (by rw [← HT.out, h]; rfl), rfl⟩
        · rename_i h _
          go_ret
          exact ⟨ret_bool (by rw [← HT.out, h]; rfl), rfl⟩
        · go_ret
          exact ⟨ret_bool HT.out, rfl⟩
      · have he := list_nil hp
        go_wp2
        go_ret
        exact ⟨ret_bool (by rw [← Lib.toList_data, he]; rfl), rfl⟩
end Go.Proofs.YteglaeopaocilaaGreatDoor
namespace Go.Proofs.YteglaeopaocilaaGreatDoor
open Go.RowKit

theorem cut_any (s : ByteArray) (w : World) :
    Calls Tryz.prog 224 #[.string s, .string ⟨#[45]⟩] w fun e w' => e = .returned (.tuple #[.string ⟨(body s.data.toList).toArray⟩, .bool (minus s.data.toList)]) ∧ w = w' := by
  have h1 : Lib.hasPrefix s.data.toList [45] = minus s.data.toList := by
    unfold Lib.hasPrefix minus
    cases s.data.toList with
    | nil => rfl
    | cons c r => rw [Bool.eq_iff_iff]; simp [List.isPrefixOf]; exact eq_comm
  have h2 : Lib.trimPrefix s.data.toList [45] = body s.data.toList := by
    unfold Lib.trimPrefix body
    rw [h1]
    simp
  rw [← h1, ← h2]
  exact (Tryz.strings_CutPrefix s ⟨#[45]⟩ w).mono fun e w' ⟨a, b⟩ => ⟨a, b.symm⟩

theorem all_get {s : ByteArray} {k : Nat} (h : k < s.size) (hd : s.data.toList.all isDig = true) : 48 ≤ (s[k].toNat : Int) ∧ (s[k].toNat : Int) ≤ 57 := by
  refine (isDig_iff _).1 (List.all_eq_true.1 hd _ ?_)
  rw [← list_get h]
  exact List.getElem_mem _
theorem whole_all {l : List UInt8} (h : whole l = true) : l.all isDig = true := by
  unfold whole at h
  exact (Bool.and_eq_true _ _ ▸ h).1
theorem val_next {s : ByteArray} {k : Nat} (h : k < s.size) : val (s.data.toList.take (k + 1)) = val (s.data.toList.take k) * 10 + (s[k].toNat - 48) := by
  rw [take_snoc _ _ (by rw [← size_len]; exact h), val_snoc, list_get h]

theorem tdiv_10 (y : Int) (h : y ≤ 0) : y.tdiv 10 = -((-y) / 10) := by
  have h1 := Int.neg_tdiv (-y) 10
  rw [Int.neg_neg] at h1
  rw [h1, Int.tdiv_eq_ediv_of_nonneg (by omega)]
theorem val_neg {s : ByteArray} {k : Nat} {x : Int} (h : k < s.size) (hx : x = -(val (s.data.toList.take k) : Int)) (hc : 48 ≤ (s[k].toNat : Int)) :
    x * 10 - ((s[k].toNat : Int) - 48) = -(val (s.data.toList.take (k + 1)) : Int) := by
  rw [val_next h]; omega
theorem val_over {s : ByteArray} {k : Nat} {x : Int} (h : k < s.size) (hx : x = -(val (s.data.toList.take k) : Int)) (ho : x * 10 - ((s[k].toNat : Int) - 48) < -9223372036854775808) (hc : 48 ≤ (s[k].toNat : Int)) :
    9223372036854775808 < (val s.data.toList : Int) := by
  have h1 := val_take_le s.data.toList (k + 1)
  rw [val_neg h hx hc] at ho
  omega
theorem val_all {s : ByteArray} {x : Int} (hx : x = -(val (s.data.toList.take s.size) : Int)) : -x = (val s.data.toList : Int) := by
  rw [List.take_of_length_le (by rw [← size_len]; exact Nat.le_refl _)] at hx
  omega

theorem parse_pos (s d : ByteArray) (w : World) (hd : ∀ w, Calls Tryz.prog 224 #[.string s, .string ⟨#[45]⟩] w fun e w' => e = .returned (.tuple #[.string d, .bool false]) ∧ w = w') (hs : d.size ≤ 9223372036854775807)
    (hw : whole d.data.toList = true) :
    Calls Tryz.prog 213 #[.string s] w fun e w' => e = .returned (.tuple #[.int .i64 (vR (val d.data.toList : Int)), .int .i64 (eR (val d.data.toList : Int))]) ∧ w = w' := by
  have HC := Lib.hid hd
  have HW := Lib.hid hw
  clear hd hw
  go_enter Tryz.func213, Tryz.ntmps213
  go_wp2
  go_step3
  go_wp2_with (first
    | (go_at_call 224; refine (HC.out _).mono ?_; rintro e w' ⟨rfl, rfl⟩)
    | (go_at_call 225; refine (isWhole_any _ _ hs).mono ?_; rw [HW.out]; rintro e w' ⟨rfl, rfl⟩))
  go_step3
  go_wp2
  go_loop [6, 7, 27] (fun v f i => ∃ (k : Nat) (x : Int), k ≤ d.size ∧ i = .int .i64 k ∧ f = .bool true ∧ v = .int .i64 x ∧ -9223372036854775808 ≤ x ∧ x ≤ 0 ∧ Hid (x = -(val (d.data.toList.take k) : Int))) (fun _ _ i => d.size - (intOf i).toNat)
  case atStart => exact ⟨0, 0, Nat.zero_le _, rfl, rfl, rfl, by omega, by omega, rfl⟩
  case round =>
    obtain ⟨k, x, hk, rfl, rfl, rfl, hx1, hx2, HX⟩ := hrel
    by_cases hlt : k < d.size
    · obtain ⟨hc1, hc2⟩ := all_get hlt (whole_all HW.out)
      have ht := tdiv_10 (-9223372036854775808 + ((d[k].toNat : Int) - 48)) (by omega)
      by_cases hfit : x < (-9223372036854775808 + ((d[k].toNat : Int) - 48)).tdiv 10
      · have HF := Lib.hid (val_over hlt HX.out (by omega : x * 10 - ((d[k].toNat : Int) - 48) < -9223372036854775808) hc1)
        clear ht
        go_wp2
        go_ret2
        exact ⟨pair_out (by have := HF.out; omega), rfl⟩
      · have hfit2 : (-9223372036854775808 + ((d[k].toNat : Int) - 48)).tdiv 10 ≤ x := by omega
        have hn : -9223372036854775808 ≤ x * 10 - ((d[k].toNat : Int) - 48) := by omega
        have hn2 : -9223372036854775808 ≤ x * 10 := by omega
        have HN := Lib.hid (val_neg hlt HX.out hc1)
        clear hfit ht
        go_wp2
        go_round
        case rel => exact ⟨k + 1, x * 10 - ((d[k].toNat : Int) - 48), by omega, by go_num, rfl, rfl, hn, by omega, HN⟩
        case measure => simp [intOf]; omega
    · obtain rfl : d.size = k := by omega
      have HA := Lib.hid (val_all HX.out)
      go_wp2_with (go_at_call 226; refine (neg_any _ (by omega) (by omega) _).mono ?_; rintro e w' ⟨rfl, rfl⟩)
      rw [Exit.noGoto_ret]
      go_ret2
      exact ⟨ret2 (by rw [HA.out]) (by rw [HA.out]), rfl⟩
theorem parse_neg (s d : ByteArray) (w : World) (hd : ∀ w, Calls Tryz.prog 224 #[.string s, .string ⟨#[45]⟩] w fun e w' => e = .returned (.tuple #[.string d, .bool true]) ∧ w = w') (hs : d.size ≤ 9223372036854775807)
    (hw : whole d.data.toList = true) (hz : (d.toList == [48]) = false) :
    Calls Tryz.prog 213 #[.string s] w fun e w' => e = .returned (.tuple #[.int .i64 (vR (-(val d.data.toList : Int))), .int .i64 (eR (-(val d.data.toList : Int)))]) ∧ w = w' := by
  have HC := Lib.hid hd
  have HW := Lib.hid hw
  clear hd hw
  go_enter Tryz.func213, Tryz.ntmps213
  go_wp2
  go_step3
  go_wp2_with (first
    | (go_at_call 224; refine (HC.out _).mono ?_; rintro e w' ⟨rfl, rfl⟩)
    | (go_at_call 225; refine (isWhole_any _ _ hs).mono ?_; rw [HW.out]; rintro e w' ⟨rfl, rfl⟩))
  go_step3
  go_wp2
  go_loop [6, 7, 27] (fun v f i => ∃ (k : Nat) (x : Int), k ≤ d.size ∧ i = .int .i64 k ∧ f = .bool true ∧ v = .int .i64 x ∧ -9223372036854775808 ≤ x ∧ x ≤ 0 ∧ Hid (x = -(val (d.data.toList.take k) : Int))) (fun _ _ i => d.size - (intOf i).toNat)
  case atStart => exact ⟨0, 0, Nat.zero_le _, rfl, rfl, rfl, by omega, by omega, rfl⟩
  case round =>
    obtain ⟨k, x, hk, rfl, rfl, rfl, hx1, hx2, HX⟩ := hrel
    by_cases hlt : k < d.size
    · obtain ⟨hc1, hc2⟩ := all_get hlt (whole_all HW.out)
      have ht := tdiv_10 (-9223372036854775808 + ((d[k].toNat : Int) - 48)) (by omega)
      by_cases hfit : x < (-9223372036854775808 + ((d[k].toNat : Int) - 48)).tdiv 10
      · have HF := Lib.hid (val_over hlt HX.out (by omega : x * 10 - ((d[k].toNat : Int) - 48) < -9223372036854775808) hc1)
        clear ht
        go_wp2
        go_ret2
        exact ⟨pair_out (by have := HF.out; omega), rfl⟩
      · have hfit2 : (-9223372036854775808 + ((d[k].toNat : Int) - 48)).tdiv 10 ≤ x := by omega
        have hn : -9223372036854775808 ≤ x * 10 - ((d[k].toNat : Int) - 48) := by omega
        have hn2 : -9223372036854775808 ≤ x * 10 := by omega
        have HN := Lib.hid (val_neg hlt HX.out hc1)
        clear hfit ht
        go_wp2
        go_round
        case rel => exact ⟨k + 1, x * 10 - ((d[k].toNat : Int) - 48), by omega, by go_num, rfl, rfl, hn, by omega, HN⟩
        case measure => simp [intOf]; omega
    · obtain rfl : d.size = k := by omega
      have HA := Lib.hid (val_all HX.out)
      go_wp2
      go_ret2
      exact ⟨pair_of (by have := HA.out; omega) (by have := HA.out; omega), rfl⟩
theorem parse_bad (s d : ByteArray) (g : Bool) (w : World) (hd : ∀ w, Calls Tryz.prog 224 #[.string s, .string ⟨#[45]⟩] w fun e w' => e = .returned (.tuple #[.string d, .bool g]) ∧ w = w') (hs : d.size ≤ 9223372036854775807)
    (hw : whole d.data.toList = false) :
    Calls Tryz.prog 213 #[.string s] w fun e w' => e = .returned (.tuple #[.int .i64 0, .int .i64 5]) ∧ w = w' := by
  have HC := Lib.hid hd
  have HW := Lib.hid hw
  clear hd hw
  go_enter Tryz.func213, Tryz.ntmps213
  go_wp2
  go_step3
  go_wp2_with (first
    | (go_at_call 224; refine (HC.out _).mono ?_; rintro e w' ⟨rfl, rfl⟩)
    | (go_at_call 225; refine (isWhole_any _ _ hs).mono ?_; rw [HW.out]; rintro e w' ⟨rfl, rfl⟩))
  rw [Exit.noGoto_ret]
  go_ret2
  exact ⟨rfl, rfl⟩
theorem parse_min (s d : ByteArray) (w : World) (hd : ∀ w, Calls Tryz.prog 224 #[.string s, .string ⟨#[45]⟩] w fun e w' => e = .returned (.tuple #[.string d, .bool true]) ∧ w = w') (hs : d.size ≤ 9223372036854775807)
    (hw : whole d.data.toList = true) (hz : d.toList = [48]) :
    Calls Tryz.prog 213 #[.string s] w fun e w' => e = .returned (.tuple #[.int .i64 0, .int .i64 5]) ∧ w = w' := by
  have HC := Lib.hid hd
  have HW := Lib.hid hw
  clear hd hw
  go_enter Tryz.func213, Tryz.ntmps213
  go_wp2
  go_step3
  go_wp2_with (first
    | (go_at_call 224; refine (HC.out _).mono ?_; rintro e w' ⟨rfl, rfl⟩)
    | (go_at_call 225; refine (isWhole_any _ _ hs).mono ?_; rw [HW.out]; rintro e w' ⟨rfl, rfl⟩))
  rw [Exit.noGoto_ret]
  go_ret2
  exact ⟨rfl, rfl⟩

/-- the text behind a minus sign, as bytes -/
def bodyB (s : ByteArray) : ByteArray := ⟨(body s.data.toList).toArray⟩
theorem bodyB_list (s : ByteArray) : (bodyB s).data.toList = body s.data.toList := by simp [bodyB]
theorem bodyB_size (s : ByteArray) : (bodyB s).size ≤ s.size := by
  rw [size_len, bodyB_list, size_len]
  unfold body
  split <;> simp
/-- What Parse returns, for every text. -/
theorem parse_any (s : ByteArray) (w : World) (hs : s.size ≤ 9223372036854775807) :
    Calls Tryz.prog 213 #[.string s] w fun e w' => e = .returned (.tuple #[.int .i64 (pV s.data.toList), .int .i64 (pE s.data.toList)]) ∧ w = w' := by
  have hd : ∀ w, Calls Tryz.prog 224 #[.string s, .string ⟨#[45]⟩] w fun e w' => e = .returned (.tuple #[.string (bodyB s), .bool (minus s.data.toList)]) ∧ w = w' := fun w => cut_any s w
  have hz := bodyB_size s
  have hl := bodyB_list s
  unfold pV pE good num
  rw [← hl]
  generalize bodyB s = d at *
  cases hw : whole d.data.toList
  · exact parse_bad s d _ w hd (by omega) hw
  · generalize minus s.data.toList = g at *
    cases g
    · exact parse_pos s d w hd (by omega) hw
    · cases hq : d.data.toList == [48]
      · exact parse_neg s d w hd (by omega) hw (by rw [Lib.toList_data]; exact hq)
      · exact parse_min s d w hd (by omega) hw (by rw [Lib.toList_data]; exact beq_iff_eq.1 hq)
end Go.Proofs.YteglaeopaocilaaGreatDoor
namespace Go.Proofs.YteglaeopaocilaaGreatDoor
open Go.RowKit

theorem below_grow (w : World) (q : Nat) (os : Array Obj) : Below w.heap.size w (Go.Sort.grow (w.drewN q) os) :=
  ⟨rfl, rfl, rfl, by simp [Go.Sort.grow], fun k hk => by
    show (w.heap ++ os)[k]? = w.heap[k]?
    rw [Array.getElem?_append_left hk]⟩
theorem format_any (n : Int) (h0 : -9223372036854775808 ≤ n) (h1 : n ≤ 9223372036854775807) (w : World) (htab : Lib.TabIs Tryz.prog w "internal/strconv.uint64pow10" .u64 Lib.pow10Tab) :
    Calls Tryz.prog 126 #[.int .i64 n] w fun e w' => e = .returned (.string ⟨(Lib.itoa n).toArray⟩) ∧ Below w.heap.size w w' := by
  have HT := Lib.hid htab
  clear htab
  go_enter Tryz.func126, Tryz.ntmps126
  go_wp2_with (go_at_call 176; refine (Tryz.strconv_FormatInt_10 _ h0 h1 _ HT.out).mono ?_; rintro e w' ⟨rfl, k, os, rfl⟩)
  go_ret
  exact ⟨rfl, below_grow _ _ _⟩

theorem append_list (c t : ByteArray) : (c ++ t).data.toList = c.data.toList ++ t.data.toList := by simp
theorem ret_string {a b : ByteArray} (h : a = b) : Ending.returned (.string a) = Ending.returned (.string b) := by rw [h]
theorem bytes_eq {a b : ByteArray} (h : a.data.toList = b.data.toList) : a = b := WideShapes.bytes_inj h
end Go.Proofs.YteglaeopaocilaaGreatDoor
