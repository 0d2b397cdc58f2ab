/-
  What the functions on texts return, of the program and of the reference: contracts, one a function.
-/
import Derived.Test.YtaimmcibdepejaaDoorArith
import Derived.Test.YtaimmcibdepejaaDoorShelf
import Derived.LoopTactic
import Derived.Lib.Strings
import Derived.Lib.IndexBytes
namespace Go.Proofs.YtaimmcibdepejaaDoor
open Go.RowKit

theorem ret_bool {a b : Bool} (h : a = b) : Ending.returned (.bool a) = Ending.returned (.bool b) := by rw [h]
theorem isDig_iff (c : UInt8) : isDig c = true ↔ 48 ≤ (c.toNat : Int) ∧ (c.toNat : Int) ≤ 57 := by
  unfold isDig
  simp [UInt8.le_iff_toNat_le]
  omega
theorem size_len (s : ByteArray) : s.size = s.data.toList.length := by simp
theorem list_get {s : ByteArray} {k : Nat} (h : k < s.size) : s.data.toList[k]'(by rw [← size_len]; exact h) = s[k] := rfl
theorem take_dig {s : ByteArray} {k : Nat} (h : k < s.size) (hd : (s.data.toList.take k).all isDig = true) (hc : 48 ≤ (s[k].toNat : Int) ∧ (s[k].toNat : Int) ≤ 57) :
    (s.data.toList.take (k + 1)).all isDig = true := by
  rw [take_snoc _ _ (by rw [← size_len]; exact h), List.all_append, hd, list_get h]
  have : isDig s[k] = true := (isDig_iff _).2 hc
  rw [List.all_cons, this]; rfl
theorem whole_not {s : ByteArray} {k : Nat} (h : k < s.size) (hc : ¬ (48 ≤ (s[k].toNat : Int) ∧ (s[k].toNat : Int) ≤ 57)) : whole s.data.toList = false := by
  have h2 : isDig s[k] = false := by
    cases hd : isDig s[k]
    · rfl
    · exact absurd ((isDig_iff _).1 hd) hc
  have : s.data.toList.all isDig = false := by
    rw [List.all_eq_false]
    exact ⟨s[k], by rw [← list_get h]; exact List.getElem_mem _, by simp [h2]⟩
  unfold whole
  rw [this]; rfl
theorem cons_get (l : List UInt8) (h : 0 < l.length) : l = l[0] :: l.tail := by
  match l, h with
  | c :: r, _ => rfl
theorem list_cons {s : ByteArray} (h : 0 < s.size) : s.data.toList = s[0] :: s.data.toList.tail :=
  cons_get s.data.toList (by rw [← size_len]; exact h)
theorem whole_cons {c : UInt8} {r : List UInt8} (hd : (c :: r).all isDig = true) : whole (c :: r) = (c != 48 || r == []) := by
  unfold whole
  rw [hd]
  by_cases hc : c = 48
  · subst hc; cases r <;> simp
  · have e1 : (c == 48) = false := beq_eq_false_iff_ne.2 hc
    have e2 : (c != 48) = true := bne_iff_ne.2 hc
    rw [e2]
    simp [e1, hc]
theorem ne_48 (c : UInt8) : (c != 48) = ((c.toNat : Int) != 48) := by
  rw [Bool.eq_iff_iff]
  simp only [bne_iff_ne, ne_eq]
  constructor
  · intro h1 h2; exact h1 (UInt8.toNat_inj.1 (by simpa using (by omega : c.toNat = 48)))
  · intro h1 h2; rw [h2] at h1; exact h1 rfl
theorem whole_end {s : ByteArray} (h : 0 < s.size) (hd : (s.data.toList.take s.size).all isDig = true) :
    (s.toList == [48] || !s.toList.isEmpty && (s[0].toNat : Int) != 48) = whole s.data.toList := by
  rw [List.take_of_length_le (by rw [← size_len]; exact Nat.le_refl _)] at hd
  rw [Lib.toList_data, list_cons h] at *
  rw [whole_cons hd, ← ne_48]
  by_cases hc : s[0] = 48
  · rw [hc]; cases s.data.toList.tail <;> simp
  · have e1 : (s[0] == 48) = false := beq_eq_false_iff_ne.2 hc
    have e2 : (s[0] != 48) = true := bne_iff_ne.2 hc
    simp [e1, e2]
theorem whole_end2 {s : ByteArray} (h : 0 < s.size) (hd : (s.data.toList.take s.size).all isDig = true) :
    whole s.data.toList = ((s[0].toNat : Int) != 48 || (s.size : Int) == 1) := by
  rw [List.take_of_length_le (by rw [← size_len]; exact Nat.le_refl _)] at hd
  have hl := size_len s
  rw [list_cons h] at hd hl ⊢
  rw [whole_cons hd, ← ne_48, hl]
  congr 1
  cases s.data.toList.tail with
  | nil => rfl
  | cons c r => simp; omega
theorem list_nil {s : ByteArray} (h : ¬ 0 < s.size) : s.toList = [] := by
  rw [Lib.toList_data]
  have := size_len s
  exact List.length_eq_zero_iff.1 (by omega)

theorem isWhole_any (s : ByteArray) (w : World) (hs : s.size ≤ 9223372036854775807) :
    Calls Tryd.prog 91 #[.string s] w fun e w' => e = .returned (.bool (whole s.data.toList)) ∧ w = w' := by
  go_enter Tryd.func91, Tryd.ntmps91
  go_wp2
  go_loop [6] (fun i => ∃ k : Nat, k ≤ s.size ∧ i = .int .i64 k ∧ (s.data.toList.take k).all isDig = true) (fun i => s.size - (intOf i).toNat)
  case atStart => exact ⟨0, Nat.zero_le _, rfl, rfl⟩
  case round =>
    obtain ⟨k, hk, rfl, hd⟩ := hrel
    have HD := Lib.hid hd
    clear hd
    by_cases hlt : k < s.size
    · by_cases hc : 48 ≤ (s[k].toNat : Int) ∧ (s[k].toNat : Int) ≤ 57
      · have HT := Lib.hid (take_dig hlt HD.out hc)
        obtain ⟨hc1, hc2⟩ := hc
        go_wp2
        go_round
        case rel => exact ⟨k + 1, by omega, by go_num, HT.out⟩
        case measure => simp [intOf]; omega
      · have HT := Lib.hid (whole_not hlt hc)
        by_cases hc1 : (s[k].toNat : Int) < 48
        · clear hc
          go_wp2
          go_ret
          exact ⟨ret_bool HT.out.symm, rfl⟩
        · have hc2 : 57 < (s[k].toNat : Int) := by omega
          clear hc
          go_wp2
          go_ret
          exact ⟨ret_bool HT.out.symm, rfl⟩
    · obtain rfl : s.size = k := by omega
      by_cases hp : 0 < s.size
      · have HT := Lib.hid (whole_end hp HD.out)
        go_wp2
        · rename_i h _
          go_ret
          exact ⟨ret_bool (by rw [← HT.out, h]; rfl), rfl⟩
        · rename_i h _
          go_ret
          exact ⟨ret_bool (by rw [← HT.out, h]; rfl), rfl⟩
        · go_ret
          exact ⟨ret_bool HT.out, rfl⟩
      · have he := list_nil hp
        go_wp2
        go_ret
        exact ⟨ret_bool (by rw [← Lib.toList_data, he]; rfl), rfl⟩
theorem digits_any (s : ByteArray) (w : World) (hs : s.size ≤ 9223372036854775807) :
    Calls Tryd.prog 81 #[.string s] w fun e w' => e = .returned (.bool (whole s.data.toList)) ∧ w = w' := by
  go_enter Tryd.func81, Tryd.ntmps81
  go_wp2
  go_loop [3] (fun i => ∃ k : Nat, k ≤ s.size ∧ i = .int .i64 k ∧ (s.data.toList.take k).all isDig = true) (fun i => s.size - (intOf i).toNat)
  case atStart => exact ⟨0, Nat.zero_le _, rfl, rfl⟩
  case round =>
    obtain ⟨k, hk, rfl, hd⟩ := hrel
    have HD := Lib.hid hd
    clear hd
    by_cases hlt : k < s.size
    · by_cases hc : 48 ≤ (s[k].toNat : Int) ∧ (s[k].toNat : Int) ≤ 57
      · have HT := Lib.hid (take_dig hlt HD.out hc)
        obtain ⟨hc1, hc2⟩ := hc
        go_wp2
        go_round
        case rel => exact ⟨k + 1, by omega, by go_num, HT.out⟩
        case measure => simp [intOf]; omega
      · have HT := Lib.hid (whole_not hlt hc)
        by_cases hc1 : (s[k].toNat : Int) < 48
        · clear hc
          go_wp2
          go_ret
          exact ⟨ret_bool HT.out.symm, rfl⟩
        · have hc2 : 57 < (s[k].toNat : Int) := by omega
          clear hc
          go_wp2
          go_ret
          exact ⟨ret_bool HT.out.symm, rfl⟩
    · obtain rfl : s.size = k := by omega
      by_cases hp : 0 < s.size
      · have HT := Lib.hid (whole_end2 hp HD.out)
        go_wp2
        · rename_i h _
          go_ret
          exact ⟨ret_bool (by rw [HT.out, h]; rfl), rfl⟩
        · rename_i h _
          go_ret
          exact ⟨ret_bool (by rw [HT.out, bne_iff_ne.2 h]; rfl), rfl⟩
      · have he := Lib.hid (list_nil hp)
        go_wp2
        go_ret
        exact ⟨ret_bool (by rw [← Lib.toList_data, he.out]; rfl), rfl⟩
end Go.Proofs.YtaimmcibdepejaaDoor
