/-
  What the program's own small functions of layer 7 return: isLetter, isDigit, isPlain, isSpecial, IsKeyword, isMark.
-/
import Derived.Test.YtbmdadhbkdkgmaaDoorLRefsB
import Derived.Laws.RangeAny
namespace Go.Proofs.YtbmdadhbkdkgmaaDoor.L
open Go.RowKit

def ltr (r : Int) : Bool := decide (97 ≤ r) && decide (r ≤ 122)
def dgt (r : Int) : Bool := decide (48 ≤ r) && decide (r ≤ 57)
theorem oletter_any (r : Int) (w : World) : Calls Tryd.prog 30 #[.int .i32 r] w fun e w' => e = .returned (.bool (ltr r)) ∧ w' = w := by
  by_cases h1 : 97 ≤ r
  · by_cases h2 : r ≤ 122
    all_goals
      go_enter Tryd.func30, Tryd.ntmps30
      go_wp2
      go_ret
      exact ⟨ret_bool (by simp [ltr, h1, h2]), rfl⟩
  · go_enter Tryd.func30, Tryd.ntmps30
    go_wp2
    go_ret
    exact ⟨ret_bool (by simp [ltr]; omega), rfl⟩
theorem odigit_any (r : Int) (w : World) : Calls Tryd.prog 50 #[.int .i32 r] w fun e w' => e = .returned (.bool (dgt r)) ∧ w' = w := by
  by_cases h1 : 48 ≤ r
  · by_cases h2 : r ≤ 57
    all_goals
      go_enter Tryd.func50, Tryd.ntmps50
      go_wp2
      go_ret
      exact ⟨ret_bool (by simp [dgt, h1, h2]), rfl⟩
  · go_enter Tryd.func50, Tryd.ntmps50
    go_wp2
    go_ret
    exact ⟨ret_bool (by simp [dgt]; omega), rfl⟩
theorem ltr_of (c : UInt8) : ltr (c.toNat : Int) = letter c := by
  unfold ltr letter
  rw [show decide (97 ≤ (c.toNat : Int)) = decide (97 ≤ c.toNat) from decide_eq_decide.2 (by omega), show decide ((c.toNat : Int) ≤ 122) = decide (c.toNat ≤ 122) from decide_eq_decide.2 (by omega)]
theorem dgt_of (c : UInt8) : dgt (c.toNat : Int) = digit c := by
  unfold dgt digit
  rw [show decide (48 ≤ (c.toNat : Int)) = decide (48 ≤ c.toNat) from decide_eq_decide.2 (by omega), show decide ((c.toNat : Int) ≤ 57) = decide (c.toNat ≤ 57) from decide_eq_decide.2 (by omega)]
theorem oplain_any (c : UInt8) (w : World) : Calls Tryd.prog 61 #[.int .u8 (c.toNat : Int)] w fun e w' => e = .returned (.bool (prt c)) ∧ w' = w := by
  cases hp : prt c
  · rcases prt_not hp with h | h
    · have h1 : ¬ 32 ≤ (c.toNat : Int) := by omega
      clear h
      go_enter Tryd.func61, Tryd.ntmps61
      go_wp2
      go_ret
      exact ⟨rfl, rfl⟩
    · have h1 : 32 ≤ (c.toNat : Int) := by omega
      have h2 : ¬ (c.toNat : Int) ≤ 126 := by omega
      clear h
      go_enter Tryd.func61, Tryd.ntmps61
      go_wp2
      go_ret
      exact ⟨rfl, rfl⟩
  · have h := prt_iff.1 hp
    have h1 : 32 ≤ (c.toNat : Int) := by omega
    have h2 : (c.toNat : Int) ≤ 126 := by omega
    clear h
    go_enter Tryd.func61, Tryd.ntmps61
    go_wp2
    go_ret
    exact ⟨rfl, rfl⟩
def spc (c : UInt8) : Bool := decide (c.toNat = 34 ∨ c.toNat = 92)
theorem ospecial_any (c : UInt8) (w : World) : Calls Tryd.prog 62 #[.int .u8 (c.toNat : Int)] w fun e w' => e = .returned (.bool (spc c)) ∧ w' = w := by
  by_cases h1 : c.toNat = 34
  · have HV : Hid (spc c = true) := decide_eq_true (Or.inl h1)
    have b1 : ((c.toNat : Int) == 34) = true := beq_iff_eq.2 (by omega)
    clear h1
    go_enter Tryd.func62, Tryd.ntmps62
    go_wp2
    go_ret
    exact ⟨ret_bool HV.out.symm, rfl⟩
  · have b1 : ((c.toNat : Int) == 34) = false := beq_eq_false_iff_ne.2 (by omega)
    by_cases h2 : c.toNat = 92
    · have HV : Hid (spc c = true) := decide_eq_true (Or.inr h2)
      have b2 : ((c.toNat : Int) == 92) = true := beq_iff_eq.2 (by omega)
      clear h1 h2
      go_enter Tryd.func62, Tryd.ntmps62
      go_wp2
      go_ret
      exact ⟨ret_bool HV.out.symm, rfl⟩
    · have HV : Hid (spc c = false) := decide_eq_false (fun h => h.elim h1 h2)
      have b2 : ((c.toNat : Int) == 92) = false := beq_eq_false_iff_ne.2 (by omega)
      clear h1 h2
      go_enter Tryd.func62, Tryd.ntmps62
      go_wp2
      go_ret
      exact ⟨ret_bool HV.out.symm, rfl⟩

set_option maxHeartbeats 4000000 in
set_option maxRecDepth 100000 in
theorem oisKw_any (s : ByteArray) (w : World) :
    Calls Tryd.prog 32 #[.string s] w fun e w' => e = .returned (.bool (isKw s.data.toList)) ∧ w' = w := by
  obtain ⟨b0, h0⟩ : ∃ b, (s.toList == [112, 114, 111, 99]) = b := ⟨_, rfl⟩
  obtain ⟨b1, h1⟩ : ∃ b, (s.toList == [108, 101, 116]) = b := ⟨_, rfl⟩
  obtain ⟨b2, h2⟩ : ∃ b, (s.toList == [112, 117, 116]) = b := ⟨_, rfl⟩
  obtain ⟨b3, h3⟩ : ∃ b, (s.toList == [100, 101, 108, 101, 116, 101]) = b := ⟨_, rfl⟩
  obtain ⟨b4, h4⟩ : ∃ b, (s.toList == [105, 102]) = b := ⟨_, rfl⟩
  obtain ⟨b5, h5⟩ : ∃ b, (s.toList == [101, 108, 115, 101]) = b := ⟨_, rfl⟩
  obtain ⟨b6, h6⟩ : ∃ b, (s.toList == [102, 111, 114]) = b := ⟨_, rfl⟩
  obtain ⟨b7, h7⟩ : ∃ b, (s.toList == [116, 111]) = b := ⟨_, rfl⟩
  obtain ⟨b8, h8⟩ : ∃ b, (s.toList == [109, 97, 120]) = b := ⟨_, rfl⟩
  obtain ⟨b9, h9⟩ : ∃ b, (s.toList == [101, 109, 105, 116]) = b := ⟨_, rfl⟩
  obtain ⟨b10, h10⟩ : ∃ b, (s.toList == [97, 98, 111, 114, 116]) = b := ⟨_, rfl⟩
  obtain ⟨b11, h11⟩ : ∃ b, (s.toList == [110, 111, 116]) = b := ⟨_, rfl⟩
  obtain ⟨b12, h12⟩ : ∃ b, (s.toList == [97, 110, 100]) = b := ⟨_, rfl⟩
  obtain ⟨b13, h13⟩ : ∃ b, (s.toList == [111, 114]) = b := ⟨_, rfl⟩
  obtain ⟨b14, h14⟩ : ∃ b, (s.toList == [105, 110, 116]) = b := ⟨_, rfl⟩
  obtain ⟨b15, h15⟩ : ∃ b, (s.toList == [115, 116, 114]) = b := ⟨_, rfl⟩
  obtain ⟨b16, h16⟩ : ∃ b, (s.toList == [98, 111, 111, 108]) = b := ⟨_, rfl⟩
  obtain ⟨b17, h17⟩ : ∃ b, (s.toList == [116, 101, 120, 116]) = b := ⟨_, rfl⟩
  obtain ⟨b18, h18⟩ : ∃ b, (s.toList == [108, 101, 110]) = b := ⟨_, rfl⟩
  obtain ⟨b19, h19⟩ : ∃ b, (s.toList == [103, 101, 116, 105, 110, 116]) = b := ⟨_, rfl⟩
  obtain ⟨b20, h20⟩ : ∃ b, (s.toList == [103, 101, 116, 115, 116, 114]) = b := ⟨_, rfl⟩
  obtain ⟨b21, h21⟩ : ∃ b, (s.toList == [104, 97, 115]) = b := ⟨_, rfl⟩
  obtain ⟨b22, h22⟩ : ∃ b, (s.toList == [110, 111, 119]) = b := ⟨_, rfl⟩
  obtain ⟨b23, h23⟩ : ∃ b, (s.toList == [114, 97, 110, 100, 111, 109]) = b := ⟨_, rfl⟩
  obtain ⟨b24, h24⟩ : ∃ b, (s.toList == [110, 111, 100, 101]) = b := ⟨_, rfl⟩
  have HV : Hid (isKw s.data.toList = (b0 || b1 || b2 || b3 || b4 || b5 || b6 || b7 || b8 || b9 || b10 || b11 || b12 || b13 || b14 || b15 || b16 || b17 || b18 || b19 || b20 || b21 || b22 || b23 || b24)) := by
    show _ = _
    rw [← h0]
    rw [← h1]
    rw [← h2]
    rw [← h3]
    rw [← h4]
    rw [← h5]
    rw [← h6]
    rw [← h7]
    rw [← h8]
    rw [← h9]
    rw [← h10]
    rw [← h11]
    rw [← h12]
    rw [← h13]
    rw [← h14]
    rw [← h15]
    rw [← h16]
    rw [← h17]
    rw [← h18]
    rw [← h19]
    rw [← h20]
    rw [← h21]
    rw [← h22]
    rw [← h23]
    rw [← h24]
    rw [Lib.toList_data]
    unfold isKw keywords
    simp only [List.mem_cons, List.not_mem_nil, or_false, Bool.decide_or, Bool.beq_eq_decide_eq, Bool.or_assoc]
  go_enter Tryd.func32, Tryd.ntmps32
  go_wp2_with fail
  all_goals (clear h0 h1 h2 h3 h4 h5 h6 h7 h8 h9 h10 h11 h12 h13 h14 h15 h16 h17 h18 h19 h20 h21 h22 h23 h24; go_ret; exact ⟨ret_bool (by rw [HV.out]; clear HV; simp_all), rfl⟩)

end Go.Proofs.YtbmdadhbkdkgmaaDoor.L
