/-
  What the program's functions of layer 8 return: Arity, has, usedFields, isAbsent, isMaxValid: contracts.
-/
import Derived.Test.YtbmdadhbkdkgmaaDoorARefsA
import Derived.Test.YtbmdadhbkdkgmaaDoorGA
namespace Go.Proofs.YtbmdadhbkdkgmaaDoor.A
open Go.RowKit
open L (Str isName prt size_len below_2 below_box ret_bool ret_int eql_eq bytes_eq)

set_option maxHeartbeats 4000000 in
set_option maxRecDepth 100000 in
theorem oarity_any (op : Int) (w : World) : Calls Tryd.prog 43 #[.int .i64 op] w fun e w' => e = .returned (.int .i64 (arity op)) ∧ w' = w := by
  obtain ⟨b1, h1⟩ : ∃ b, (op == 1) = b := ⟨_, rfl⟩
  obtain ⟨b2, h2⟩ : ∃ b, (op == 2) = b := ⟨_, rfl⟩
  obtain ⟨b3, h3⟩ : ∃ b, (op == 3) = b := ⟨_, rfl⟩
  obtain ⟨b4, h4⟩ : ∃ b, (op == 4) = b := ⟨_, rfl⟩
  obtain ⟨b5, h5⟩ : ∃ b, (op == 5) = b := ⟨_, rfl⟩
  obtain ⟨b6, h6⟩ : ∃ b, (op == 6) = b := ⟨_, rfl⟩
  obtain ⟨b7, h7⟩ : ∃ b, (op == 7) = b := ⟨_, rfl⟩
  obtain ⟨b8, h8⟩ : ∃ b, (op == 8) = b := ⟨_, rfl⟩
  obtain ⟨b9, h9⟩ : ∃ b, (op == 9) = b := ⟨_, rfl⟩
  obtain ⟨b10, h10⟩ : ∃ b, (op == 10) = b := ⟨_, rfl⟩
  obtain ⟨b11, h11⟩ : ∃ b, (op == 11) = b := ⟨_, rfl⟩
  obtain ⟨b12, h12⟩ : ∃ b, (op == 12) = b := ⟨_, rfl⟩
  obtain ⟨b13, h13⟩ : ∃ b, (op == 13) = b := ⟨_, rfl⟩
  obtain ⟨b14, h14⟩ : ∃ b, (op == 14) = b := ⟨_, rfl⟩
  obtain ⟨b15, h15⟩ : ∃ b, (op == 15) = b := ⟨_, rfl⟩
  obtain ⟨b16, h16⟩ : ∃ b, (op == 16) = b := ⟨_, rfl⟩
  obtain ⟨b17, h17⟩ : ∃ b, (op == 17) = b := ⟨_, rfl⟩
  obtain ⟨b18, h18⟩ : ∃ b, (op == 18) = b := ⟨_, rfl⟩
  obtain ⟨b19, h19⟩ : ∃ b, (op == 19) = b := ⟨_, rfl⟩
  obtain ⟨b20, h20⟩ : ∃ b, (op == 20) = b := ⟨_, rfl⟩
  obtain ⟨b21, h21⟩ : ∃ b, (op == 21) = b := ⟨_, rfl⟩
  obtain ⟨b22, h22⟩ : ∃ b, (op == 22) = b := ⟨_, rfl⟩
  obtain ⟨b23, h23⟩ : ∃ b, (op == 23) = b := ⟨_, rfl⟩
  obtain ⟨b24, h24⟩ : ∃ b, (op == 24) = b := ⟨_, rfl⟩
  obtain ⟨b25, h25⟩ : ∃ b, (op == 25) = b := ⟨_, rfl⟩
  obtain ⟨b26, h26⟩ : ∃ b, (op == 26) = b := ⟨_, rfl⟩
  obtain ⟨b27, h27⟩ : ∃ b, (op == 27) = b := ⟨_, rfl⟩
  have HV : Hid (arity op = if (b1 || b2 || b3 || b25 || b26 || b27) = true then 0 else if (b9 || b18 || b20 || b21 || b22 || b23 || b24) = true then 1 else if (b4 || b5 || b6 || b7 || b8 || b10 || b11 || b12 || b13 || b14 || b15 || b16 || b17 || b19) = true then 2 else -1) := by
    show _ = _
    subst h1 h2 h3 h4 h5 h6 h7 h8 h9 h10 h11 h12 h13 h14 h15 h16 h17 h18 h19 h20 h21 h22 h23 h24 h25 h26 h27
    unfold arity
    simp only [Bool.or_eq_true, beq_iff_eq, or_assoc]
    split
    · rfl
    · split
      · rfl
      · by_cases h : 4 ≤ op ∧ op ≤ 19
        · rw [if_pos h, if_pos (by omega)]
        · rw [if_neg h, if_neg (by omega)]
  go_enter Tryd.func43, Tryd.ntmps43
  go_wp2_with fail
  all_goals (clear h1 h2 h3 h4 h5 h6 h7 h8 h9 h10 h11 h12 h13 h14 h15 h16 h17 h18 h19 h20 h21 h22 h23 h24 h25 h26 h27; go_ret; exact ⟨ret_int (by rw [HV.out]; clear HV; simp_all), rfl⟩)
/-- the fields that a statement uses, as the program's set -/
def usedI (o : Int) : Int := if o = 1 ∨ o = 2 then 5 else if o = 3 then 12 else if o = 4 ∨ o = 7 then 4 else if o = 5 then 52 else if o = 6 then 31 else if o = 8 then 2 else 0
set_option maxHeartbeats 2000000 in
set_option maxRecDepth 100000 in
theorem oused_any (op : Int) (w : World) : Calls Tryd.prog 37 #[.int .i64 op] w fun e w' => e = .returned (.int .i64 (usedI op)) ∧ w' = w := by
  obtain ⟨b1, h1⟩ : ∃ b, (op == 1) = b := ⟨_, rfl⟩
  obtain ⟨b2, h2⟩ : ∃ b, (op == 2) = b := ⟨_, rfl⟩
  obtain ⟨b3, h3⟩ : ∃ b, (op == 3) = b := ⟨_, rfl⟩
  obtain ⟨b4, h4⟩ : ∃ b, (op == 4) = b := ⟨_, rfl⟩
  obtain ⟨b5, h5⟩ : ∃ b, (op == 5) = b := ⟨_, rfl⟩
  obtain ⟨b6, h6⟩ : ∃ b, (op == 6) = b := ⟨_, rfl⟩
  obtain ⟨b7, h7⟩ : ∃ b, (op == 7) = b := ⟨_, rfl⟩
  obtain ⟨b8, h8⟩ : ∃ b, (op == 8) = b := ⟨_, rfl⟩
  have HV : Hid (usedI op = if (b1 || b2) = true then 5 else if b3 = true then 12 else if (b4 || b7) = true then 4 else if b5 = true then 52 else if b6 = true then 31 else if b8 = true then 2 else 0) := by
    show _ = _
    subst h1 h2 h3 h4 h5 h6 h7 h8
    unfold usedI
    simp only [Bool.or_eq_true, beq_iff_eq]
  go_enter Tryd.func37, Tryd.ntmps37
  go_wp2_with fail
  all_goals (clear h1 h2 h3 h4 h5 h6 h7 h8; go_ret; exact ⟨ret_int (by rw [HV.out]; clear HV; simp_all), rfl⟩)
theorem used_cases (op : Int) : usedI op = 5 ∨ usedI op = 12 ∨ usedI op = 4 ∨ usedI op = 52 ∨ usedI op = 31 ∨ usedI op = 2 ∨ usedI op = 0 := by
  unfold usedI
  repeat' split
  all_goals simp
/-- whether a set holds a field -/
def hasB (f g : Int) : Bool := !decide (f.toNat &&& g.toNat = 0)
set_option maxHeartbeats 4000000 in
set_option maxRecDepth 100000 in
theorem ohas_any (op g : Int) (hg : g = 1 ∨ g = 2 ∨ g = 4 ∨ g = 8 ∨ g = 16 ∨ g = 32) (w : World) : Calls Tryd.prog 40 #[.int .i64 (usedI op), .int .i64 g] w fun e w' => e = .returned (.bool (hasB (usedI op) g)) ∧ w' = w := by
  rcases used_cases op with h | h | h | h | h | h | h <;> rw [h] <;> clear h <;> rcases hg with h | h | h | h | h | h <;> subst h
  all_goals
    go_enter Tryd.func40, Tryd.ntmps40
    go_wp2_with fail
    go_ret
    exact ⟨ret_bool (by decide), rfl⟩
end Go.Proofs.YtbmdadhbkdkgmaaDoor.A
