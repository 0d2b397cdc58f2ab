/-
  What the reference of layer 8 returns: Arity, Absent, Plain, node: contracts, one a function.
  What the program's functions of layer 8 return: Arity, has, usedFields, isAbsent, isMaxValid: contracts.
  What the reference of layer 8 returns: node: its contract.
  What the reference of layer 8 returns: valid, ValidExpr, countExpr: contracts by induction on the tree.
  Plain mathematics of layer 8: the walk that stops at its limit. Visits as the reference keeps them, in rows that a call owns.
-/
import Derived.Test.YtnelpgeiioflmaaGreatDoorM03
import Derived.Laws.AppendOwn
import Derived.OwnWalk
namespace Go.Proofs.YtnelpgeiioflmaaGreatDoor.A
open Go.RowKit
open L (Str isName prt prt_iff prt_not upto upto_all upto_not size_len below_2 below_box below_drew ret_bool ret_int eql_eq bytes_eq isName_any)

theorem grownS {f : FuncId} {args : Array Value} {v : Value} {W : World} (h : ∀ w, Calls Tryz.prog f args w fun e w' => e = .returned v ∧ w' = w) (d : Nat) (os : Array Obj) :
    Calls Tryz.prog f args (Sort.grow (redrawn W d) os) fun e w'' => e = .returned v ∧ ∃ p : Regrown, w'' = Sort.grow (redrawn W p.d) p.os :=
  Calls.regrown_of ((h _).mono fun _ _ ⟨a, b⟩ => ⟨a, by rw [b]; exact Below.refl _ _⟩)
theorem empty_of {s : ByteArray} : s.toList.isEmpty = decide (s.size = 0) := by
  rw [Lib.toList_data, Bool.eq_iff_iff, List.isEmpty_iff, decide_eq_true_iff, size_len, List.length_eq_zero_iff]
theorem nil_of {s : ByteArray} : (s.toList == []) = decide (s.size = 0) := by
  rw [← empty_of]; cases s.toList <;> rfl
set_option maxHeartbeats 2000000 in
set_option maxRecDepth 100000 in
theorem rarity_any (op : Int) (w : World) : Calls Tryz.prog 124 #[.int .i64 op] w fun e w' => e = .returned (.int .i64 (arity op)) ∧ w' = w := by
  obtain ⟨b1, h1⟩ : ∃ b, (op == 1) = b := ⟨_, rfl⟩
  obtain ⟨b2, h2⟩ : ∃ b, (op == 2) = b := ⟨_, rfl⟩
  obtain ⟨b3, h3⟩ : ∃ b, (op == 3) = b := ⟨_, rfl⟩
  obtain ⟨b25, h25⟩ : ∃ b, (op == 25) = b := ⟨_, rfl⟩
  obtain ⟨b26, h26⟩ : ∃ b, (op == 26) = b := ⟨_, rfl⟩
  obtain ⟨b27, h27⟩ : ∃ b, (op == 27) = b := ⟨_, rfl⟩
  obtain ⟨b9, h9⟩ : ∃ b, (op == 9) = b := ⟨_, rfl⟩
  obtain ⟨b18, h18⟩ : ∃ b, (op == 18) = b := ⟨_, rfl⟩
  obtain ⟨b20, h20⟩ : ∃ b, (op == 20) = b := ⟨_, rfl⟩
  obtain ⟨b21, h21⟩ : ∃ b, (op == 21) = b := ⟨_, rfl⟩
  obtain ⟨b22, h22⟩ : ∃ b, (op == 22) = b := ⟨_, rfl⟩
  obtain ⟨b23, h23⟩ : ∃ b, (op == 23) = b := ⟨_, rfl⟩
  obtain ⟨b24, h24⟩ : ∃ b, (op == 24) = b := ⟨_, rfl⟩
  obtain ⟨p, hp⟩ : ∃ b, decide (4 ≤ op) = b := ⟨_, rfl⟩
  obtain ⟨q, hq⟩ : ∃ b, decide (op ≤ 19) = b := ⟨_, rfl⟩
  have HV : Hid (arity op = if (b1 || b2 || b3 || b25 || b26 || b27) = true then 0 else if (b9 || b18 || b20 || b21 || b22 || b23 || b24) = true then 1 else if (p && q) = true then 2 else -1) := by
    show _ = _
    subst h1 h2 h3 h25 h26 h27 h9 h18 h20 h21 h22 h23 h24 hp hq
    unfold arity
    simp only [Bool.or_eq_true, Bool.and_eq_true, beq_iff_eq, decide_eq_true_eq, or_assoc]
  go_enter Tryz.func124, Tryz.ntmps124
  go_wp2_with fail
  all_goals (clear h1 h2 h3 h25 h26 h27 h9 h18 h20 h21 h22 h23 h24 hp hq; go_ret; exact ⟨ret_int (by rw [HV.out]; clear HV; simp_all), rfl⟩)
set_option maxHeartbeats 2000000 in
set_option maxRecDepth 100000 in
theorem rabsent_any (e : Ex) (a : Option Addr) (c : Nat) (w : World) : Calls Tryz.prog 74 #[exV e a c] w fun e' w' => e' = .returned (.bool (absent e)) ∧ Below w.heap.size w w' := by
  have HW := Lib.hid (below_box w (exO e a c))
  unfold exV
  unfold exO at HW
  have hv : absent e = ((e.op == 0) && (e.n == 0) && (e.s.toList == []) && ((e.args.length : Int) == 0)) := by
    unfold absent
    rw [nil_of, Bool.beq_eq_decide_eq, Bool.beq_eq_decide_eq, Bool.beq_eq_decide_eq]
    congr 1
    cases e.args with
    | nil => rfl
    | cons x l => rw [decide_eq_false (by simp; omega)]; rfl
  have he : e.s.toList.isEmpty = (e.s.toList == []) := by cases e.s.toList <;> rfl
  rw [hv]
  clear hv
  generalize (e.s.toList == []) = b3 at he ⊢
  obtain ⟨b1, h1⟩ : ∃ b, (e.op == 0) = b := ⟨_, rfl⟩
  obtain ⟨b2, h2⟩ : ∃ b, (e.n == 0) = b := ⟨_, rfl⟩
  obtain ⟨b4, h4⟩ : ∃ b, ((e.args.length : Int) == 0) = b := ⟨_, rfl⟩
  rw [h1, h2, h4]
  cases b1 <;> cases b2 <;> cases b3 <;> cases b4
  all_goals
    go_enter Tryz.func74, Tryz.ntmps74
    go_wp2_with fail
    go_ret
    exact ⟨rfl, HW.out⟩
set_option maxRecDepth 100000 in
theorem rplain_any (s : ByteArray) (w : World) : Calls Tryz.prog 133 #[.string s] w fun e w' => e = .returned (.bool (plain s)) ∧ w' = w := by
  by_cases h64 : s.size ≤ 64
  · have HP : Hid (plain s = s.data.toList.all prt) := by show _ = _; unfold plain; rw [decide_eq_true h64, Bool.true_and]
    go_enter Tryz.func133, Tryz.ntmps133
    go_wp2
    go_loopw [3] (fun s3 wr => ∃ k : Nat, k ≤ s.size ∧ s3 = .int .i64 k ∧ wr = w ∧ Hid (upto prt s k)) (fun s3 _ => s.size - (intOf s3).toNat)
    case atStart => exact ⟨0, Nat.zero_le _, rfl, rfl, fun j _ h => absurd h (Nat.not_lt_zero _)⟩
    case round =>
      obtain ⟨k, hk, rfl, rfl, HK⟩ := hrel
      by_cases hlt : k < s.size
      · cases hok : prt s[k]
        · have HV := Lib.hid (upto_not hlt hok)
          rcases prt_not hok with h | h
          · have b1 : decide ((s[k].toNat : Int) < 32) = true := decide_eq_true h
            clear hok h
            go_wp2_with fail
            go_ret
            exact ⟨ret_bool (by rw [HP.out, HV.out]), rfl⟩
          · have b1 : decide ((s[k].toNat : Int) < 32) = false := decide_eq_false (by omega)
            have b2 : decide (126 < (s[k].toNat : Int)) = true := decide_eq_true h
            clear hok h
            go_wp2_with fail
            go_ret
            exact ⟨ret_bool (by rw [HP.out, HV.out]), rfl⟩
        · have HN : Hid (upto prt s (k + 1)) := by
            intro j h hj
            by_cases e : j = k
            · subst e; exact hok
            · exact HK.out j h (by omega)
          have hp := prt_iff.1 hok
          have b1 : decide ((s[k].toNat : Int) < 32) = false := decide_eq_false (by omega)
          have b2 : decide (126 < (s[k].toNat : Int)) = false := decide_eq_false (by omega)
          clear hok hp
          go_wp2_with fail
          go_roundw
          case rel => exact ⟨k + 1, by omega, by go_num, by first | rfl | trivial, HN⟩
          case measure => simp [intOf]; omega
      · obtain rfl : k = s.size := by omega
        have HV := Lib.hid (upto_all HK.out)
        go_wp2_with fail
        go_ret
        exact ⟨ret_bool (by rw [HP.out, HV.out]), rfl⟩
  · have HP : Hid (plain s = false) := by show _ = _; unfold plain; rw [decide_eq_false h64, Bool.false_and]
    go_enter Tryz.func133, Tryz.ntmps133
    go_wp2
    go_ret
    exact ⟨ret_bool HP.out.symm, rfl⟩
end Go.Proofs.YtnelpgeiioflmaaGreatDoor.A
namespace Go.Proofs.YtnelpgeiioflmaaGreatDoor.A
open Go.RowKit
open L (Str isName prt size_len below_2 below_box ret_bool ret_int eql_eq bytes_eq)

set_option maxHeartbeats 4000000 in
set_option maxRecDepth 100000 in
theorem oarity_any (op : Int) (w : World) : Calls Tryz.prog 134 #[.int .i64 op] w fun e w' => e = .returned (.int .i64 (arity op)) ∧ w' = w := by
  obtain ⟨b1, h1⟩ : ∃ b, (op == 1) = b := ⟨_, rfl⟩
  obtain ⟨b2, h2⟩ : ∃ b, (op == 2) = b := ⟨_, rfl⟩
  obtain ⟨b3, h3⟩ : ∃ b, (op == 3) = b := ⟨_, rfl⟩
  obtain ⟨b4, h4⟩ : ∃ b, (op == 4) = b := ⟨_, rfl⟩
  obtain ⟨b5, h5⟩ : ∃ b, (op == 5) = b := ⟨_, rfl⟩
  obtain ⟨b6, h6⟩ : ∃ b, (op == 6) = b := ⟨_, rfl⟩
  obtain ⟨b7, h7⟩ : ∃ b, (op == 7) = b := ⟨_, rfl⟩
  obtain ⟨b8, h8⟩ : ∃ b, (op == 8) = b := ⟨_, rfl⟩
  obtain ⟨b9, h9⟩ : ∃ b, (op == 9) = b := ⟨_, rfl⟩
  obtain ⟨b10, h10⟩ : ∃ b, (op == 10) = b := ⟨_, rfl⟩
  obtain ⟨b11, h11⟩ : ∃ b, (op == 11) = b := ⟨_, rfl⟩
  obtain ⟨b12, h12⟩ : ∃ b, (op == 12) = b := ⟨_, rfl⟩
  obtain ⟨b13, h13⟩ : ∃ b, (op == 13) = b := ⟨_, rfl⟩
  obtain ⟨b14, h14⟩ : ∃ b, (op == 14) = b := ⟨_, rfl⟩
  obtain ⟨b15, h15⟩ : ∃ b, (op == 15) = b := ⟨_, rfl⟩
  obtain ⟨b16, h16⟩ : ∃ b, (op == 16) = b := ⟨_, rfl⟩
  obtain ⟨b17, h17⟩ : ∃ b, (op == 17) = b := ⟨_, rfl⟩
  obtain ⟨b18, h18⟩ : ∃ b, (op == 18) = b := ⟨_, rfl⟩
  obtain ⟨b19, h19⟩ : ∃ b, (op == 19) = b := ⟨_, rfl⟩
  obtain ⟨b20, h20⟩ : ∃ b, (op == 20) = b := ⟨_, rfl⟩
  obtain ⟨b21, h21⟩ : ∃ b, (op == 21) = b := ⟨_, rfl⟩
  obtain ⟨b22, h22⟩ : ∃ b, (op == 22) = b := ⟨_, rfl⟩
  obtain ⟨b23, h23⟩ : ∃ b, (op == 23) = b := ⟨_, rfl⟩
  obtain ⟨b24, h24⟩ : ∃ b, (op == 24) = b := ⟨_, rfl⟩
  obtain ⟨b25, h25⟩ : ∃ b, (op == 25) = b := ⟨_, rfl⟩
  obtain ⟨b26, h26⟩ : ∃ b, (op == 26) = b := ⟨_, rfl⟩
  obtain ⟨b27, h27⟩ : ∃ b, (op == 27) = b := ⟨_, rfl⟩
  have HV : Hid (arity op = if (b1 || b2 || b3 || b25 || b26 || b27) = true then 0 else if (b9 || b18 || b20 || b21 || b22 || b23 || b24) = true then 1 else if (b4 || b5 || b6 || b7 || b8 || b10 || b11 || b12 || b13 || b14 || b15 || b16 || b17 || b19) = true then 2 else -1) := by
    show _ = _
    subst h1 h2 h3 h4 h5 h6 h7 h8 h9 h10 h11 h12 h13 h14 h15 h16 h17 h18 h19 h20 h21 h22 h23 h24 h25 h26 h27
    unfold arity
    simp only [Bool.or_eq_true, beq_iff_eq, or_assoc]
    split
    · rfl
    · split
      · rfl
      · by_cases h : 4 ≤ op ∧ op ≤ 19
        · rw [if_pos h, if_pos (by omega)]
        · rw [if_neg h, if_neg (by omega)]
  go_enter Tryz.func134, Tryz.ntmps134
  go_wp2_with fail
  all_goals (clear h1 h2 h3 h4 h5 h6 h7 h8 h9 h10 h11 h12 h13 h14 h15 h16 h17 h18 h19 h20 h21 h22 h23 h24 h25 h26 h27; go_ret; exact ⟨ret_int (by rw [HV.out]; clear HV; simp_all), rfl⟩)
def usedI (o : Int) : Int := if o = 1 ∨ o = 2 then 5 else if o = 3 then 12 else if o = 4 ∨ o = 7 then 4 else if o = 5 then 52 else if o = 6 then 31 else if o = 8 then 2 else 0
set_option maxHeartbeats 2000000 in
set_option maxRecDepth 100000 in
theorem oused_any (op : Int) (w : World) : Calls Tryz.prog 112 #[.int .i64 op] w fun e w' => e = .returned (.int .i64 (usedI op)) ∧ w' = w := by
  obtain ⟨b1, h1⟩ : ∃ b, (op == 1) = b := ⟨_, rfl⟩
  obtain ⟨b2, h2⟩ : ∃ b, (op == 2) = b := ⟨_, rfl⟩
  obtain ⟨b3, h3⟩ : ∃ b, (op == 3) = b := ⟨_, rfl⟩
  obtain ⟨b4, h4⟩ : ∃ b, (op == 4) = b := ⟨_, rfl⟩
  obtain ⟨b5, h5⟩ : ∃ b, (op == 5) = b := ⟨_, rfl⟩
  obtain ⟨b6, h6⟩ : ∃ b, (op == 6) = b := ⟨_, rfl⟩
  obtain ⟨b7, h7⟩ : ∃ b, (op == 7) = b := ⟨_, rfl⟩
  obtain ⟨b8, h8⟩ : ∃ b, (op == 8) = b := ⟨_, rfl⟩
  have HV : Hid (usedI op = if (b1 || b2) = true then 5 else if b3 = true then 12 else if (b4 || b7) = true then 4 else if b5 = true then 52 else if b6 = true then 31 else if b8 = true then 2 else 0) := by
    show _ = _
    subst h1 h2 h3 h4 h5 h6 h7 h8
    unfold usedI
    simp only [Bool.or_eq_true, beq_iff_eq]
  go_enter Tryz.func112, Tryz.ntmps112
  go_wp2_with fail
  all_goals (clear h1 h2 h3 h4 h5 h6 h7 h8; go_ret; exact ⟨ret_int (by rw [HV.out]; clear HV; simp_all), rfl⟩)
theorem used_cases (op : Int) : usedI op = 5 ∨ usedI op = 12 ∨ usedI op = 4 ∨ usedI op = 52 ∨ usedI op = 31 ∨ usedI op = 2 ∨ usedI op = 0 := by
  unfold usedI
  repeat' split
  all_goals simp
def hasB (f g : Int) : Bool := !decide (f.toNat &&& g.toNat = 0)
set_option maxHeartbeats 4000000 in
set_option maxRecDepth 100000 in
theorem ohas_any (op g : Int) (hg : g = 1 ∨ g = 2 ∨ g = 4 ∨ g = 8 ∨ g = 16 ∨ g = 32) (w : World) : Calls Tryz.prog 115 #[.int .i64 (usedI op), .int .i64 g] w fun e w' => e = .returned (.bool (hasB (usedI op) g)) ∧ w' = w := by
  rcases used_cases op with h | h | h | h | h | h | h <;> rw [h] <;> clear h <;> rcases hg with h | h | h | h | h | h <;> subst h
  all_goals
    go_enter Tryz.func115, Tryz.ntmps115
    go_wp2_with fail
    go_ret
    exact ⟨ret_bool (by decide), rfl⟩
end Go.Proofs.YtnelpgeiioflmaaGreatDoor.A
namespace Go.Proofs.YtnelpgeiioflmaaGreatDoor.A
open Go.RowKit
open L (Str isName prt size_len below_2 below_box ret_bool ret_int isName_any)

theorem n_arg {e : Ex} {d : Nat} (h : arity e.op < 0 ∨ (e.op ≠ 1 ∧ e.n ≠ 0) ∨ (e.op ≠ 2 ∧ e.op ≠ 3 ∧ e.s.size ≠ 0)) : nodeE e d = 1 := by unfold nodeE; rw [if_pos h]
theorem n_name {e : Ex} {d : Nat} (h : ¬ (arity e.op < 0 ∨ (e.op ≠ 1 ∧ e.n ≠ 0) ∨ (e.op ≠ 2 ∧ e.op ≠ 3 ∧ e.s.size ≠ 0))) (h2 : e.op = 3 ∧ nam e.s = false) : nodeE e d = 7 := by unfold nodeE; rw [if_neg h, if_pos h2]
theorem n_arg2 {e : Ex} {d : Nat} (h : ¬ (arity e.op < 0 ∨ (e.op ≠ 1 ∧ e.n ≠ 0) ∨ (e.op ≠ 2 ∧ e.op ≠ 3 ∧ e.s.size ≠ 0))) (h2 : ¬ (e.op = 3 ∧ nam e.s = false)) (h3 : e.n < 0 ∨ (e.op = 2 ∧ plain e.s = false) ∨ (e.args.length : Int) ≠ arity e.op) : nodeE e d = 1 := by unfold nodeE; rw [if_neg h, if_neg h2, if_pos h3]
theorem n_deep {e : Ex} {d : Nat} (h : ¬ (arity e.op < 0 ∨ (e.op ≠ 1 ∧ e.n ≠ 0) ∨ (e.op ≠ 2 ∧ e.op ≠ 3 ∧ e.s.size ≠ 0))) (h2 : ¬ (e.op = 3 ∧ nam e.s = false)) (h3 : ¬ (e.n < 0 ∨ (e.op = 2 ∧ plain e.s = false) ∨ (e.args.length : Int) ≠ arity e.op)) (h4 : 12 < d) : nodeE e d = 2 := by unfold nodeE; rw [if_neg h, if_neg h2, if_neg h3, if_pos h4]
theorem n_ok {e : Ex} {d : Nat} (h : ¬ (arity e.op < 0 ∨ (e.op ≠ 1 ∧ e.n ≠ 0) ∨ (e.op ≠ 2 ∧ e.op ≠ 3 ∧ e.s.size ≠ 0))) (h2 : ¬ (e.op = 3 ∧ nam e.s = false)) (h3 : ¬ (e.n < 0 ∨ (e.op = 2 ∧ plain e.s = false) ∨ (e.args.length : Int) ≠ arity e.op)) (h4 : ¬ 12 < d) : nodeE e d = 0 := by unfold nodeE; rw [if_neg h, if_neg h2, if_neg h3, if_neg h4]
set_option maxHeartbeats 8000000 in
set_option maxRecDepth 100000 in
theorem rnode_any (e : Ex) (a : Option Addr) (c : Nat) (d : Nat) (hd : d ≤ 1000000) (hs : e.s.size ≤ 1000000000000000) (w : World) :
    Calls Tryz.prog 123 #[exV e a c, .int .i64 (d : Int)] w fun e' w' => e' = .returned (.int .i64 (nodeE e d)) ∧ Below w.heap.size w w' := by
  have hw := below_box w (exO e a c)
  obtain ⟨c0, c1, c2, c3⟩ := exO_cells w e a c
  have hI := isName_any e.s (by omega)
  have hP := rplain_any e.s
  have hA := rarity_any e.op
  have n1 := @n_arg e d
  have n2 := @n_name e d
  have n3 := @n_arg2 e d
  have n4 := @n_deep e d
  have n5 := @n_ok e d
  generalize nodeE e d = R at n1 n2 n3 n4 n5 ⊢
  change ∀ w, Calls Tryz.prog 49 #[.string e.s] w fun e' w' => e' = .returned (.bool (nam e.s)) ∧ Below w.heap.size w w' at hI
  unfold exV
  unfold exO at hw c0 c1 c2 c3
  have he := empty_of (s := e.s)
  have he2 := nil_of (s := e.s)
  generalize hz : e.s.size = z at n1 n2 n3 n4 n5 he he2
  generalize e.s = s at *
  generalize e.n = n at *
  generalize e.args.length = k at *
  generalize e.op = op at *
  generalize nam s = I at *
  generalize plain s = P at *
  have bd : decide (12 < (d : Int)) = decide (12 < d) := decide_eq_decide.2 (by omega)
  clear hz hs
  by_cases o1 : op = 1
  · subst o1
    rw [show arity 1 = 0 from rfl] at *
    by_cases z0 : z = 0
    · rw [decide_eq_true z0] at he he2
      have H1 : ¬ ((0 : Int) < 0 ∨ ((1 : Int) ≠ 1 ∧ n ≠ 0) ∨ ((1 : Int) ≠ 2 ∧ (1 : Int) ≠ 3 ∧ z ≠ 0)) := by omega
      have H2 : ¬ ((1 : Int) = 3 ∧ I = false) := fun h => absurd h.1 (by decide)
      by_cases hn : n < 0
      · have bn : decide (n < 0) = true := decide_eq_true hn
        have HV := Lib.hid (n3 H1 H2 (Or.inl hn))
        have HA := Lib.hid hA
        have HWB := Lib.hid hw
        have HQ1 := Lib.hid (grownS (W := (w.alloc (.cells #[.int .i64 1, .int .i64 n, .string s, .slice a k c] 42))) hA)
        have HQ2 := Lib.hid (grownS (W := (w.alloc (.cells #[.int .i64 1, .int .i64 n, .string s, .slice a k c] 42))) hP)
        have d0 := fun d os => cell_regrown c0 d os
        have d1 := fun d os => cell_regrown c1 d os
        have d2 := fun d os => cell_regrown c2 d os
        have d3 := fun d os => cell_regrown c3 d os
        clear hI hP hA n1 n2 n3 n4 n5 hw c0 c1 c2 c3
        go_enter Tryz.func123, Tryz.ntmps123
        go_wp2_with fail
        refine (HA.out _).mono ?_; rintro e w1 ⟨rfl, rfl⟩
        go_wp2_with fail
        refine wp_region_quiet_below (by kernel_rfl) (by kernel_rfl) ?_
        repeat (go_big_quiet_step (first | with_reducible exact HQ1.out _ _ | with_reducible exact HQ2.out _ _))
        refine wpQuiet_nil ?_
        intro w4 hw'
        obtain ⟨⟨dq, osq⟩, hw2⟩ := hw'
        have hb4 := below_regrown (w.alloc (.cells #[.int .i64 1, .int .i64 n, .string s, .slice a k c] 42)) dq osq
        rw [← hw2] at hb4
        have HB4 := Lib.hid (below_2 HWB.out hb4)
        clear hw2 hb4
        go_wp2_with fail
        go_ret
        exact ⟨ret_int HV.out.symm, HB4.out⟩
      · have bn : decide (n < 0) = false := decide_eq_false hn
        by_cases hk : (k : Int) = 0
        · have bk : ((k : Int) != 0) = false := by rw [bne_eq_false_iff_eq]; exact hk
          have H3 : ¬ ((n : Int) < 0 ∨ ((1 : Int) = 2 ∧ P = false) ∨ (k : Int) ≠ 0) := by rintro (h | h | h) <;> omega
          by_cases h12 : 12 < d
          · rw [decide_eq_true h12] at bd
            clear hk
            have HV := Lib.hid (n4 H1 H2 H3 h12)
            have HA := Lib.hid hA
            have HWB := Lib.hid hw
            have HQ1 := Lib.hid (grownS (W := (w.alloc (.cells #[.int .i64 1, .int .i64 n, .string s, .slice a k c] 42))) hA)
            have HQ2 := Lib.hid (grownS (W := (w.alloc (.cells #[.int .i64 1, .int .i64 n, .string s, .slice a k c] 42))) hP)
            have d0 := fun d os => cell_regrown c0 d os
            have d1 := fun d os => cell_regrown c1 d os
            have d2 := fun d os => cell_regrown c2 d os
            have d3 := fun d os => cell_regrown c3 d os
            clear hI hP hA n1 n2 n3 n4 n5 hw c0 c1 c2 c3
            go_enter Tryz.func123, Tryz.ntmps123
            go_wp2_with fail
            refine (HA.out _).mono ?_; rintro e w1 ⟨rfl, rfl⟩
            go_wp2_with fail
            refine wp_region_quiet_below (by kernel_rfl) (by kernel_rfl) ?_
            repeat (go_big_quiet_step (first | with_reducible exact HQ1.out _ _ | with_reducible exact HQ2.out _ _))
            refine wpQuiet_nil ?_
            intro w4 hw'
            obtain ⟨⟨dq, osq⟩, hw2⟩ := hw'
            have hb4 := below_regrown (w.alloc (.cells #[.int .i64 1, .int .i64 n, .string s, .slice a k c] 42)) dq osq
            rw [← hw2] at hb4
            have HB4 := Lib.hid (below_2 HWB.out hb4)
            clear hw2 hb4
            go_wp2_with fail
            go_ret
            exact ⟨ret_int HV.out.symm, HB4.out⟩
          · rw [decide_eq_false h12] at bd
            clear hk
            have HV := Lib.hid (n5 H1 H2 H3 h12)
            have HA := Lib.hid hA
            have HWB := Lib.hid hw
            have HQ1 := Lib.hid (grownS (W := (w.alloc (.cells #[.int .i64 1, .int .i64 n, .string s, .slice a k c] 42))) hA)
            have HQ2 := Lib.hid (grownS (W := (w.alloc (.cells #[.int .i64 1, .int .i64 n, .string s, .slice a k c] 42))) hP)
            have d0 := fun d os => cell_regrown c0 d os
            have d1 := fun d os => cell_regrown c1 d os
            have d2 := fun d os => cell_regrown c2 d os
            have d3 := fun d os => cell_regrown c3 d os
            clear hI hP hA n1 n2 n3 n4 n5 hw c0 c1 c2 c3
            go_enter Tryz.func123, Tryz.ntmps123
            go_wp2_with fail
            refine (HA.out _).mono ?_; rintro e w1 ⟨rfl, rfl⟩
            go_wp2_with fail
            refine wp_region_quiet_below (by kernel_rfl) (by kernel_rfl) ?_
            repeat (go_big_quiet_step (first | with_reducible exact HQ1.out _ _ | with_reducible exact HQ2.out _ _))
            refine wpQuiet_nil ?_
            intro w4 hw'
            obtain ⟨⟨dq, osq⟩, hw2⟩ := hw'
            have hb4 := below_regrown (w.alloc (.cells #[.int .i64 1, .int .i64 n, .string s, .slice a k c] 42)) dq osq
            rw [← hw2] at hb4
            have HB4 := Lib.hid (below_2 HWB.out hb4)
            clear hw2 hb4
            go_wp2_with fail
            go_ret
            exact ⟨ret_int HV.out.symm, HB4.out⟩
        · have bk : ((k : Int) != 0) = true := bne_iff_ne.2 hk
          have HV := Lib.hid (n3 H1 H2 (Or.inr (Or.inr hk)))
          have HA := Lib.hid hA
          have HWB := Lib.hid hw
          have HQ1 := Lib.hid (grownS (W := (w.alloc (.cells #[.int .i64 1, .int .i64 n, .string s, .slice a k c] 42))) hA)
          have HQ2 := Lib.hid (grownS (W := (w.alloc (.cells #[.int .i64 1, .int .i64 n, .string s, .slice a k c] 42))) hP)
          have d0 := fun d os => cell_regrown c0 d os
          have d1 := fun d os => cell_regrown c1 d os
          have d2 := fun d os => cell_regrown c2 d os
          have d3 := fun d os => cell_regrown c3 d os
          clear hI hP hA n1 n2 n3 n4 n5 hw c0 c1 c2 c3
          go_enter Tryz.func123, Tryz.ntmps123
          go_wp2_with fail
          refine (HA.out _).mono ?_; rintro e w1 ⟨rfl, rfl⟩
          go_wp2_with fail
          refine wp_region_quiet_below (by kernel_rfl) (by kernel_rfl) ?_
          repeat (go_big_quiet_step (first | with_reducible exact HQ1.out _ _ | with_reducible exact HQ2.out _ _))
          refine wpQuiet_nil ?_
          intro w4 hw'
          obtain ⟨⟨dq, osq⟩, hw2⟩ := hw'
          have hb4 := below_regrown (w.alloc (.cells #[.int .i64 1, .int .i64 n, .string s, .slice a k c] 42)) dq osq
          rw [← hw2] at hb4
          have HB4 := Lib.hid (below_2 HWB.out hb4)
          clear hw2 hb4
          go_wp2_with fail
          go_ret
          exact ⟨ret_int HV.out.symm, HB4.out⟩
    · rw [decide_eq_false z0] at he he2
      have HV := Lib.hid (n1 (Or.inr (Or.inr ⟨by decide, by decide, z0⟩)))
      have HA := Lib.hid hA
      have HW := Lib.hid hw
      clear hI hP hA n1 n2 n3 n4 n5 hw c0 c1 c2 c3
      go_enter Tryz.func123, Tryz.ntmps123
      go_wp2_with fail
      refine (HA.out _).mono ?_; rintro e w1 ⟨rfl, rfl⟩
      go_wp2_with fail
      go_ret
      exact ⟨ret_int HV.out.symm, HW.out⟩
  by_cases o2 : op = 2
  · subst o2
    rw [show arity 2 = 0 from rfl] at *
    by_cases hn : n = 0
    · subst hn
      have H1 : ¬ ((0 : Int) < 0 ∨ ((2 : Int) ≠ 1 ∧ (0 : Int) ≠ 0) ∨ ((2 : Int) ≠ 2 ∧ (2 : Int) ≠ 3 ∧ z ≠ 0)) := by omega
      have H2 : ¬ ((2 : Int) = 3 ∧ I = false) := fun h => absurd h.1 (by decide)
      cases P
      · have HV := Lib.hid (n3 H1 H2 (Or.inr (Or.inl ⟨rfl, rfl⟩)))
        have HA := Lib.hid hA
        have HWB := Lib.hid hw
        have HQ1 := Lib.hid (grownS (W := (w.alloc (.cells #[.int .i64 2, .int .i64 0, .string s, .slice a k c] 42))) hA)
        have HQ2 := Lib.hid (grownS (W := (w.alloc (.cells #[.int .i64 2, .int .i64 0, .string s, .slice a k c] 42))) hP)
        have d0 := fun d os => cell_regrown c0 d os
        have d1 := fun d os => cell_regrown c1 d os
        have d2 := fun d os => cell_regrown c2 d os
        have d3 := fun d os => cell_regrown c3 d os
        clear hI hP hA n1 n2 n3 n4 n5 hw c0 c1 c2 c3
        go_enter Tryz.func123, Tryz.ntmps123
        go_wp2_with fail
        refine (HA.out _).mono ?_; rintro e w1 ⟨rfl, rfl⟩
        go_wp2_with fail
        refine wp_region_quiet_below (by kernel_rfl) (by kernel_rfl) ?_
        repeat (go_big_quiet_step (first | with_reducible exact HQ1.out _ _ | with_reducible exact HQ2.out _ _))
        refine wpQuiet_nil ?_
        intro w4 hw'
        obtain ⟨⟨dq, osq⟩, hw2⟩ := hw'
        have hb4 := below_regrown (w.alloc (.cells #[.int .i64 2, .int .i64 0, .string s, .slice a k c] 42)) dq osq
        rw [← hw2] at hb4
        have HB4 := Lib.hid (below_2 HWB.out hb4)
        clear hw2 hb4
        go_wp2_with fail
        go_ret
        exact ⟨ret_int HV.out.symm, HB4.out⟩
      · by_cases hk : (k : Int) = 0
        · have bk : ((k : Int) != 0) = false := by rw [bne_eq_false_iff_eq]; exact hk
          have H3 : ¬ ((0 : Int) < 0 ∨ ((2 : Int) = 2 ∧ true = false) ∨ (k : Int) ≠ 0) := by rintro (h | h | h) <;> first | omega | exact absurd h.2 (by decide) | exact h hk
          by_cases h12 : 12 < d
          · rw [decide_eq_true h12] at bd
            clear hk
            have HV := Lib.hid (n4 H1 H2 H3 h12)
            have HA := Lib.hid hA
            have HWB := Lib.hid hw
            have HQ1 := Lib.hid (grownS (W := (w.alloc (.cells #[.int .i64 2, .int .i64 0, .string s, .slice a k c] 42))) hA)
            have HQ2 := Lib.hid (grownS (W := (w.alloc (.cells #[.int .i64 2, .int .i64 0, .string s, .slice a k c] 42))) hP)
            have d0 := fun d os => cell_regrown c0 d os
            have d1 := fun d os => cell_regrown c1 d os
            have d2 := fun d os => cell_regrown c2 d os
            have d3 := fun d os => cell_regrown c3 d os
            clear hI hP hA n1 n2 n3 n4 n5 hw c0 c1 c2 c3
            go_enter Tryz.func123, Tryz.ntmps123
            go_wp2_with fail
            refine (HA.out _).mono ?_; rintro e w1 ⟨rfl, rfl⟩
            go_wp2_with fail
            refine wp_region_quiet_below (by kernel_rfl) (by kernel_rfl) ?_
            repeat (go_big_quiet_step (first | with_reducible exact HQ1.out _ _ | with_reducible exact HQ2.out _ _))
            refine wpQuiet_nil ?_
            intro w4 hw'
            obtain ⟨⟨dq, osq⟩, hw2⟩ := hw'
            have hb4 := below_regrown (w.alloc (.cells #[.int .i64 2, .int .i64 0, .string s, .slice a k c] 42)) dq osq
            rw [← hw2] at hb4
            have HB4 := Lib.hid (below_2 HWB.out hb4)
            clear hw2 hb4
            go_wp2_with fail
            go_ret
            exact ⟨ret_int HV.out.symm, HB4.out⟩
          · rw [decide_eq_false h12] at bd
            clear hk
            have HV := Lib.hid (n5 H1 H2 H3 h12)
            have HA := Lib.hid hA
            have HWB := Lib.hid hw
            have HQ1 := Lib.hid (grownS (W := (w.alloc (.cells #[.int .i64 2, .int .i64 0, .string s, .slice a k c] 42))) hA)
            have HQ2 := Lib.hid (grownS (W := (w.alloc (.cells #[.int .i64 2, .int .i64 0, .string s, .slice a k c] 42))) hP)
            have d0 := fun d os => cell_regrown c0 d os
            have d1 := fun d os => cell_regrown c1 d os
            have d2 := fun d os => cell_regrown c2 d os
            have d3 := fun d os => cell_regrown c3 d os
            clear hI hP hA n1 n2 n3 n4 n5 hw c0 c1 c2 c3
            go_enter Tryz.func123, Tryz.ntmps123
            go_wp2_with fail
            refine (HA.out _).mono ?_; rintro e w1 ⟨rfl, rfl⟩
            go_wp2_with fail
            refine wp_region_quiet_below (by kernel_rfl) (by kernel_rfl) ?_
            repeat (go_big_quiet_step (first | with_reducible exact HQ1.out _ _ | with_reducible exact HQ2.out _ _))
            refine wpQuiet_nil ?_
            intro w4 hw'
            obtain ⟨⟨dq, osq⟩, hw2⟩ := hw'
            have hb4 := below_regrown (w.alloc (.cells #[.int .i64 2, .int .i64 0, .string s, .slice a k c] 42)) dq osq
            rw [← hw2] at hb4
            have HB4 := Lib.hid (below_2 HWB.out hb4)
            clear hw2 hb4
            go_wp2_with fail
            go_ret
            exact ⟨ret_int HV.out.symm, HB4.out⟩
        · have bk : ((k : Int) != 0) = true := bne_iff_ne.2 hk
          have HV := Lib.hid (n3 H1 H2 (Or.inr (Or.inr hk)))
          have HA := Lib.hid hA
          have HWB := Lib.hid hw
          have HQ1 := Lib.hid (grownS (W := (w.alloc (.cells #[.int .i64 2, .int .i64 0, .string s, .slice a k c] 42))) hA)
          have HQ2 := Lib.hid (grownS (W := (w.alloc (.cells #[.int .i64 2, .int .i64 0, .string s, .slice a k c] 42))) hP)
          have d0 := fun d os => cell_regrown c0 d os
          have d1 := fun d os => cell_regrown c1 d os
          have d2 := fun d os => cell_regrown c2 d os
          have d3 := fun d os => cell_regrown c3 d os
          clear hI hP hA n1 n2 n3 n4 n5 hw c0 c1 c2 c3
          go_enter Tryz.func123, Tryz.ntmps123
          go_wp2_with fail
          refine (HA.out _).mono ?_; rintro e w1 ⟨rfl, rfl⟩
          go_wp2_with fail
          refine wp_region_quiet_below (by kernel_rfl) (by kernel_rfl) ?_
          repeat (go_big_quiet_step (first | with_reducible exact HQ1.out _ _ | with_reducible exact HQ2.out _ _))
          refine wpQuiet_nil ?_
          intro w4 hw'
          obtain ⟨⟨dq, osq⟩, hw2⟩ := hw'
          have hb4 := below_regrown (w.alloc (.cells #[.int .i64 2, .int .i64 0, .string s, .slice a k c] 42)) dq osq
          rw [← hw2] at hb4
          have HB4 := Lib.hid (below_2 HWB.out hb4)
          clear hw2 hb4
          go_wp2_with fail
          go_ret
          exact ⟨ret_int HV.out.symm, HB4.out⟩
    · have bn : (n != 0) = true := bne_iff_ne.2 hn
      have HV := Lib.hid (n1 (Or.inr (Or.inl ⟨by decide, hn⟩)))
      have HA := Lib.hid hA
      have HW := Lib.hid hw
      clear hI hP hA n1 n2 n3 n4 n5 hw c0 c1 c2 c3
      go_enter Tryz.func123, Tryz.ntmps123
      go_wp2_with fail
      refine (HA.out _).mono ?_; rintro e w1 ⟨rfl, rfl⟩
      go_wp2_with fail
      go_ret
      exact ⟨ret_int HV.out.symm, HW.out⟩
  by_cases o3 : op = 3
  · subst o3
    rw [show arity 3 = 0 from rfl] at *
    by_cases hn : n = 0
    · subst hn
      have H1 : ¬ ((0 : Int) < 0 ∨ ((3 : Int) ≠ 1 ∧ (0 : Int) ≠ 0) ∨ ((3 : Int) ≠ 2 ∧ (3 : Int) ≠ 3 ∧ z ≠ 0)) := by omega
      cases I
      · have HV := Lib.hid (n2 H1 ⟨rfl, rfl⟩)
        have HA := Lib.hid hA
        have HI := Lib.hid hI
        have HW := Lib.hid hw
        clear hI hP hA n1 n2 n3 n4 n5 hw c0 c1 c2 c3
        go_enter Tryz.func123, Tryz.ntmps123
        go_wp2_with fail
        refine (HA.out _).mono ?_; rintro e w1 ⟨rfl, rfl⟩
        go_wp2_with fail
        refine (HI.out _).mono ?_; rintro e w2 ⟨rfl, hb2⟩
        go_wp2_with fail
        go_ret
        exact ⟨ret_int HV.out.symm, below_2 HW.out hb2⟩
      · have H2 : ¬ ((3 : Int) = 3 ∧ true = false) := fun h => absurd h.2 (by decide)
        by_cases hk : (k : Int) = 0
        · have bk : ((k : Int) != 0) = false := by rw [bne_eq_false_iff_eq]; exact hk
          have H3 : ¬ ((0 : Int) < 0 ∨ ((3 : Int) = 2 ∧ P = false) ∨ (k : Int) ≠ 0) := by rintro (h | h | h) <;> omega
          by_cases h12 : 12 < d
          · rw [decide_eq_true h12] at bd
            clear hk
            have HV := Lib.hid (n4 H1 H2 H3 h12)
            have HA := Lib.hid hA
            have HI := Lib.hid hI
            have HPP := Lib.hid hP
            have HW := Lib.hid hw
            have C0 := Lib.hid c0
            have C1 := Lib.hid c1
            have C2 := Lib.hid c2
            have C3 := Lib.hid c3
            clear hI hP hA n1 n2 n3 n4 n5 hw c0 c1 c2 c3
            go_enter Tryz.func123, Tryz.ntmps123
            go_wp2_with fail
            refine (HA.out _).mono ?_; rintro e w1 ⟨rfl, rfl⟩
            go_wp2_with fail
            refine (HI.out _).mono ?_; rintro e w2 ⟨rfl, hb2⟩
            have d0 := fun d os => cell_regrown ((hb2.cell (by simp)).trans C0.out) d os
            have d1 := fun d os => cell_regrown ((hb2.cell (by simp)).trans C1.out) d os
            have d2 := fun d os => cell_regrown ((hb2.cell (by simp)).trans C2.out) d os
            have d3 := fun d os => cell_regrown ((hb2.cell (by simp)).trans C3.out) d os
            have HWB := Lib.hid (below_2 HW.out hb2)
            have HQ1 := Lib.hid (grownS (W := w2) HA.out)
            have HQ2 := Lib.hid (grownS (W := w2) HPP.out)
            clear hb2
            go_wp2_with fail
            refine wp_region_quiet_below (by kernel_rfl) (by kernel_rfl) ?_
            repeat (go_big_quiet_step (first | with_reducible exact HQ1.out _ _ | with_reducible exact HQ2.out _ _))
            refine wpQuiet_nil ?_
            intro w4 hw'
            obtain ⟨⟨dq, osq⟩, hw2⟩ := hw'
            have hb4 := below_regrown w2 dq osq
            rw [← hw2] at hb4
            have HB4 := Lib.hid (below_2 HWB.out hb4)
            clear hw2 hb4
            go_wp2_with fail
            go_ret
            exact ⟨ret_int HV.out.symm, HB4.out⟩
          · rw [decide_eq_false h12] at bd
            clear hk
            have HV := Lib.hid (n5 H1 H2 H3 h12)
            have HA := Lib.hid hA
            have HI := Lib.hid hI
            have HPP := Lib.hid hP
            have HW := Lib.hid hw
            have C0 := Lib.hid c0
            have C1 := Lib.hid c1
            have C2 := Lib.hid c2
            have C3 := Lib.hid c3
            clear hI hP hA n1 n2 n3 n4 n5 hw c0 c1 c2 c3
            go_enter Tryz.func123, Tryz.ntmps123
            go_wp2_with fail
            refine (HA.out _).mono ?_; rintro e w1 ⟨rfl, rfl⟩
            go_wp2_with fail
            refine (HI.out _).mono ?_; rintro e w2 ⟨rfl, hb2⟩
            have d0 := fun d os => cell_regrown ((hb2.cell (by simp)).trans C0.out) d os
            have d1 := fun d os => cell_regrown ((hb2.cell (by simp)).trans C1.out) d os
            have d2 := fun d os => cell_regrown ((hb2.cell (by simp)).trans C2.out) d os
            have d3 := fun d os => cell_regrown ((hb2.cell (by simp)).trans C3.out) d os
            have HWB := Lib.hid (below_2 HW.out hb2)
            have HQ1 := Lib.hid (grownS (W := w2) HA.out)
            have HQ2 := Lib.hid (grownS (W := w2) HPP.out)
            clear hb2
            go_wp2_with fail
            refine wp_region_quiet_below (by kernel_rfl) (by kernel_rfl) ?_
            repeat (go_big_quiet_step (first | with_reducible exact HQ1.out _ _ | with_reducible exact HQ2.out _ _))
            refine wpQuiet_nil ?_
            intro w4 hw'
            obtain ⟨⟨dq, osq⟩, hw2⟩ := hw'
            have hb4 := below_regrown w2 dq osq
            rw [← hw2] at hb4
            have HB4 := Lib.hid (below_2 HWB.out hb4)
            clear hw2 hb4
            go_wp2_with fail
            go_ret
            exact ⟨ret_int HV.out.symm, HB4.out⟩
        · have bk : ((k : Int) != 0) = true := bne_iff_ne.2 hk
          have HV := Lib.hid (n3 H1 H2 (Or.inr (Or.inr hk)))
          have HA := Lib.hid hA
          have HI := Lib.hid hI
          have HPP := Lib.hid hP
          have HW := Lib.hid hw
          have C0 := Lib.hid c0
          have C1 := Lib.hid c1
          have C2 := Lib.hid c2
          have C3 := Lib.hid c3
          clear hI hP hA n1 n2 n3 n4 n5 hw c0 c1 c2 c3
          go_enter Tryz.func123, Tryz.ntmps123
          go_wp2_with fail
          refine (HA.out _).mono ?_; rintro e w1 ⟨rfl, rfl⟩
          go_wp2_with fail
          refine (HI.out _).mono ?_; rintro e w2 ⟨rfl, hb2⟩
          have d0 := fun d os => cell_regrown ((hb2.cell (by simp)).trans C0.out) d os
          have d1 := fun d os => cell_regrown ((hb2.cell (by simp)).trans C1.out) d os
          have d2 := fun d os => cell_regrown ((hb2.cell (by simp)).trans C2.out) d os
          have d3 := fun d os => cell_regrown ((hb2.cell (by simp)).trans C3.out) d os
          have HWB := Lib.hid (below_2 HW.out hb2)
          have HQ1 := Lib.hid (grownS (W := w2) HA.out)
          have HQ2 := Lib.hid (grownS (W := w2) HPP.out)
          clear hb2
          go_wp2_with fail
          refine wp_region_quiet_below (by kernel_rfl) (by kernel_rfl) ?_
          repeat (go_big_quiet_step (first | with_reducible exact HQ1.out _ _ | with_reducible exact HQ2.out _ _))
          refine wpQuiet_nil ?_
          intro w4 hw'
          obtain ⟨⟨dq, osq⟩, hw2⟩ := hw'
          have hb4 := below_regrown w2 dq osq
          rw [← hw2] at hb4
          have HB4 := Lib.hid (below_2 HWB.out hb4)
          clear hw2 hb4
          go_wp2_with fail
          go_ret
          exact ⟨ret_int HV.out.symm, HB4.out⟩
    · have bn : (n != 0) = true := bne_iff_ne.2 hn
      have HV := Lib.hid (n1 (Or.inr (Or.inl ⟨by decide, hn⟩)))
      have HA := Lib.hid hA
      have HW := Lib.hid hw
      clear hI hP hA n1 n2 n3 n4 n5 hw c0 c1 c2 c3
      go_enter Tryz.func123, Tryz.ntmps123
      go_wp2_with fail
      refine (HA.out _).mono ?_; rintro e w1 ⟨rfl, rfl⟩
      go_wp2_with fail
      go_ret
      exact ⟨ret_int HV.out.symm, HW.out⟩
  have e1 : (op != 1) = true := bne_iff_ne.2 o1
  have e2 : (op != 2) = true := bne_iff_ne.2 o2
  have e3 : (op != 3) = true := bne_iff_ne.2 o3
  have e4 : (op == 3) = false := beq_eq_false_iff_ne.2 o3
  have e5 : (op == 2) = false := beq_eq_false_iff_ne.2 o2
  generalize arity op = A at *
  by_cases hA0 : A < 0
  · have bA : decide (A < 0) = true := decide_eq_true hA0
    have HV := Lib.hid (n1 (Or.inl hA0))
    have HA := Lib.hid hA
    have HW := Lib.hid hw
    clear hI hP hA n1 n2 n3 n4 n5 hw c0 c1 c2 c3
    go_enter Tryz.func123, Tryz.ntmps123
    go_wp2_with fail
    refine (HA.out _).mono ?_; rintro e w1 ⟨rfl, rfl⟩
    go_wp2_with fail
    go_ret
    exact ⟨ret_int HV.out.symm, HW.out⟩
  have bA : decide (A < 0) = false := decide_eq_false hA0
  by_cases hn : n = 0
  · subst hn
    by_cases z0 : z = 0
    · rw [decide_eq_true z0] at he he2
      have H1 : ¬ (A < 0 ∨ (op ≠ 1 ∧ (0 : Int) ≠ 0) ∨ (op ≠ 2 ∧ op ≠ 3 ∧ z ≠ 0)) := by omega
      have H2 : ¬ (op = 3 ∧ I = false) := fun h => o3 h.1
      by_cases hk : (k : Int) = A
      · have bk : ((k : Int) != A) = false := by rw [bne_eq_false_iff_eq]; exact hk
        have H3 : ¬ ((0 : Int) < 0 ∨ ((op : Int) = 2 ∧ P = false) ∨ (k : Int) ≠ A) := by rintro (h | h | h) <;> first | omega | exact o2 h.1 | exact h hk
        by_cases h12 : 12 < d
        · rw [decide_eq_true h12] at bd
          clear hk
          have HV := Lib.hid (n4 H1 H2 H3 h12)
          have HA := Lib.hid hA
          have HWB := Lib.hid hw
          have HQ1 := Lib.hid (grownS (W := (w.alloc (.cells #[.int .i64 op, .int .i64 0, .string s, .slice a k c] 42))) hA)
          have HQ2 := Lib.hid (grownS (W := (w.alloc (.cells #[.int .i64 op, .int .i64 0, .string s, .slice a k c] 42))) hP)
          have d0 := fun d os => cell_regrown c0 d os
          have d1 := fun d os => cell_regrown c1 d os
          have d2 := fun d os => cell_regrown c2 d os
          have d3 := fun d os => cell_regrown c3 d os
          clear hI hP hA n1 n2 n3 n4 n5 hw c0 c1 c2 c3
          go_enter Tryz.func123, Tryz.ntmps123
          go_wp2_with fail
          refine (HA.out _).mono ?_; rintro e w1 ⟨rfl, rfl⟩
          go_wp2_with fail
          refine wp_region_quiet_below (by kernel_rfl) (by kernel_rfl) ?_
          repeat (go_big_quiet_step (first | with_reducible exact HQ1.out _ _ | with_reducible exact HQ2.out _ _))
          refine wpQuiet_nil ?_
          intro w4 hw'
          obtain ⟨⟨dq, osq⟩, hw2⟩ := hw'
          have hb4 := below_regrown (w.alloc (.cells #[.int .i64 op, .int .i64 0, .string s, .slice a k c] 42)) dq osq
          rw [← hw2] at hb4
          have HB4 := Lib.hid (below_2 HWB.out hb4)
          clear hw2 hb4
          go_wp2_with fail
          go_ret
          exact ⟨ret_int HV.out.symm, HB4.out⟩
        · rw [decide_eq_false h12] at bd
          clear hk
          have HV := Lib.hid (n5 H1 H2 H3 h12)
          have HA := Lib.hid hA
          have HWB := Lib.hid hw
          have HQ1 := Lib.hid (grownS (W := (w.alloc (.cells #[.int .i64 op, .int .i64 0, .string s, .slice a k c] 42))) hA)
          have HQ2 := Lib.hid (grownS (W := (w.alloc (.cells #[.int .i64 op, .int .i64 0, .string s, .slice a k c] 42))) hP)
          have d0 := fun d os => cell_regrown c0 d os
          have d1 := fun d os => cell_regrown c1 d os
          have d2 := fun d os => cell_regrown c2 d os
          have d3 := fun d os => cell_regrown c3 d os
          clear hI hP hA n1 n2 n3 n4 n5 hw c0 c1 c2 c3
          go_enter Tryz.func123, Tryz.ntmps123
          go_wp2_with fail
          refine (HA.out _).mono ?_; rintro e w1 ⟨rfl, rfl⟩
          go_wp2_with fail
          refine wp_region_quiet_below (by kernel_rfl) (by kernel_rfl) ?_
          repeat (go_big_quiet_step (first | with_reducible exact HQ1.out _ _ | with_reducible exact HQ2.out _ _))
          refine wpQuiet_nil ?_
          intro w4 hw'
          obtain ⟨⟨dq, osq⟩, hw2⟩ := hw'
          have hb4 := below_regrown (w.alloc (.cells #[.int .i64 op, .int .i64 0, .string s, .slice a k c] 42)) dq osq
          rw [← hw2] at hb4
          have HB4 := Lib.hid (below_2 HWB.out hb4)
          clear hw2 hb4
          go_wp2_with fail
          go_ret
          exact ⟨ret_int HV.out.symm, HB4.out⟩
      · have bk : ((k : Int) != A) = true := bne_iff_ne.2 hk
        have HV := Lib.hid (n3 H1 H2 (Or.inr (Or.inr hk)))
        have HA := Lib.hid hA
        have HWB := Lib.hid hw
        have HQ1 := Lib.hid (grownS (W := (w.alloc (.cells #[.int .i64 op, .int .i64 0, .string s, .slice a k c] 42))) hA)
        have HQ2 := Lib.hid (grownS (W := (w.alloc (.cells #[.int .i64 op, .int .i64 0, .string s, .slice a k c] 42))) hP)
        have d0 := fun d os => cell_regrown c0 d os
        have d1 := fun d os => cell_regrown c1 d os
        have d2 := fun d os => cell_regrown c2 d os
        have d3 := fun d os => cell_regrown c3 d os
        clear hI hP hA n1 n2 n3 n4 n5 hw c0 c1 c2 c3
        go_enter Tryz.func123, Tryz.ntmps123
        go_wp2_with fail
        refine (HA.out _).mono ?_; rintro e w1 ⟨rfl, rfl⟩
        go_wp2_with fail
        refine wp_region_quiet_below (by kernel_rfl) (by kernel_rfl) ?_
        repeat (go_big_quiet_step (first | with_reducible exact HQ1.out _ _ | with_reducible exact HQ2.out _ _))
        refine wpQuiet_nil ?_
        intro w4 hw'
        obtain ⟨⟨dq, osq⟩, hw2⟩ := hw'
        have hb4 := below_regrown (w.alloc (.cells #[.int .i64 op, .int .i64 0, .string s, .slice a k c] 42)) dq osq
        rw [← hw2] at hb4
        have HB4 := Lib.hid (below_2 HWB.out hb4)
        clear hw2 hb4
        go_wp2_with fail
        go_ret
        exact ⟨ret_int HV.out.symm, HB4.out⟩
    · rw [decide_eq_false z0] at he he2
      have HV := Lib.hid (n1 (Or.inr (Or.inr ⟨o2, o3, z0⟩)))
      have HA := Lib.hid hA
      have HW := Lib.hid hw
      clear hI hP hA n1 n2 n3 n4 n5 hw c0 c1 c2 c3
      go_enter Tryz.func123, Tryz.ntmps123
      go_wp2_with fail
      refine (HA.out _).mono ?_; rintro e w1 ⟨rfl, rfl⟩
      go_wp2_with fail
      go_ret
      exact ⟨ret_int HV.out.symm, HW.out⟩
  · have bn : (n != 0) = true := bne_iff_ne.2 hn
    have HV := Lib.hid (n1 (Or.inr (Or.inl ⟨o1, hn⟩)))
    have HA := Lib.hid hA
    have HW := Lib.hid hw
    clear hI hP hA n1 n2 n3 n4 n5 hw c0 c1 c2 c3
    go_enter Tryz.func123, Tryz.ntmps123
    go_wp2_with fail
    refine (HA.out _).mono ?_; rintro e w1 ⟨rfl, rfl⟩
    go_wp2_with fail
    go_ret
    exact ⟨ret_int HV.out.symm, HW.out⟩
end Go.Proofs.YtnelpgeiioflmaaGreatDoor.A
namespace Go.Proofs.YtnelpgeiioflmaaGreatDoor.A
open Go.RowKit
open L (Str isName prt size_len below_2 below_box ret_bool ret_int)

theorem drop_ex {l : List Ex} {k : Nat} (h : k < l.length) : l.drop k = l[k] :: l.drop (k + 1) := List.drop_eq_getElem_cons h
theorem okE_open {o n : Int} {s : ByteArray} {l : List Ex} (h : okE (.mk o n s l)) : s.size ≤ 1000000000000000 ∧ l.length ≤ 1000000000000000 ∧ okEs l := by
  rw [okE] at h
  exact ⟨h.2.2.1, h.2.2.2.1, h.2.2.2.2⟩
theorem exV_mk (o n : Int) (s : ByteArray) (l : List Ex) (a : Option Addr) (c : Nat) : exV (.mk o n s l) a c = .agg #[.int .i64 o, .int .i64 n, .string s, .slice a l.length c] := rfl
theorem exO_mk (o n : Int) (s : ByteArray) (l : List Ex) (a : Option Addr) (c : Nat) : exO (.mk o n s l) a c = .cells #[.int .i64 o, .int .i64 n, .string s, .slice a l.length c] 42 := rfl
theorem op_mk (o n : Int) (s : ByteArray) (l : List Ex) : (Ex.mk o n s l).op = o := rfl
theorem n_mk (o n : Int) (s : ByteArray) (l : List Ex) : (Ex.mk o n s l).n = n := rfl
theorem s_mk (o n : Int) (s : ByteArray) (l : List Ex) : (Ex.mk o n s l).s = s := rfl
theorem args_mk (o n : Int) (s : ByteArray) (l : List Ex) : (Ex.mk o n s l).args = l := rfl
theorem box_later {w w' : World} {e : Ex} {a : Option Addr} {c : Nat} (hb : Below (w.alloc (exO e a c)).heap.size (w.alloc (exO e a c)) w') :
    w'.cell? ⟨w.heap.size, 0, none⟩ = some (.int .i64 e.op) ∧ w'.cell? ⟨w.heap.size, 1, none⟩ = some (.int .i64 e.n) ∧ w'.cell? ⟨w.heap.size, 2, none⟩ = some (.string e.s) ∧ w'.cell? ⟨w.heap.size, 3, none⟩ = some (.slice a e.args.length c) := by
  obtain ⟨c0, c1, c2, c3⟩ := exO_cells w e a c
  have hlt : w.heap.size < (w.alloc (exO e a c)).heap.size := by simp
  exact ⟨(hb.cell hlt).trans c0, (hb.cell hlt).trans c1, (hb.cell hlt).trans c2, (hb.cell hlt).trans c3⟩
set_option maxHeartbeats 4000000 in
set_option maxRecDepth 100000 in
theorem rvalid_any : ∀ (e : Ex) (a : Option Addr) (c : Nat) (d : Nat), d ≤ 1000 → okE e → ∀ w : World, Kids w a e.args →
    Calls Tryz.prog 103 #[exV e a c, .int .i64 (d : Int)] w fun e' w' => e' = .returned (.int .i64 (vE e d)) ∧ Below w.heap.size w w' := by
  refine Ex.ind (P := fun e => ∀ (a : Option Addr) (c : Nat) (d : Nat), d ≤ 1000 → okE e → ∀ w : World, Kids w a e.args → Calls Tryz.prog 103 #[exV e a c, .int .i64 (d : Int)] w fun e' w' => e' = .returned (.int .i64 (vE e d)) ∧ Below w.heap.size w w') ?_
  intro o n s l ih a c d hd hok w hK
  obtain ⟨hs, hl, hoks⟩ := okE_open hok
  have HNd := Lib.hid (rnode_any (.mk o n s l) a c d (by omega) hs)
  have HW := Lib.hid (below_box w (exO (.mk o n s l) a c))
  have HBL := Lib.hid (fun w' hb => box_later (w := w) (w' := w') (e := .mk o n s l) (a := a) (c := c) hb)
  have HKK : Hid (Kids w a l) := hK
  have HIH := Lib.hid ih
  have HOK := Lib.hid hoks
  by_cases hx : nodeE (.mk o n s l) d = 0
  · have hv : vE (.mk o n s l) d = vEs l (d + 1) := by rw [vE, if_neg (fun h => h hx)]
    have h12 : d ≤ 12 := by
      apply Decidable.byContradiction
      intro h
      unfold nodeE at hx
      repeat' split at hx
      all_goals first | omega | cases hx
    rw [hv]
    rw [hx] at HNd
    obtain ⟨R, hR⟩ : ∃ R, vEs l (d + 1) = R := ⟨_, rfl⟩
    rw [hR]
    have HR : Hid (vEs (l.drop 0) (d + 1) = R) := hR
    simp only [exV_mk, exO_mk, op_mk, n_mk, s_mk, args_mk] at HNd HW HBL ⊢
    obtain ⟨m, hm⟩ : ∃ m, l.length = m := ⟨_, rfl⟩
    have HL := Lib.hid hm
    rw [hm] at HNd HW HBL hl ⊢
    clear hx hv hR hm hK ih hoks hok
    go_enter Tryz.func103, Tryz.ntmps103
    go_wp2_with fail
    refine (HNd.out _).mono ?_; rintro e w1 ⟨rfl, hb1⟩
    have HB1 := Lib.hid hb1
    clear hb1
    go_wp2_with fail
    go_loopw [6] (fun s6 wr => ∃ k : Nat, k ≤ m ∧ s6 = .int .i64 k ∧ Hid (vEs (l.drop k) (d + 1) = R) ∧ Hid (Below (w.alloc (.cells #[.int .i64 o, .int .i64 n, .string s, .slice a m c] 42)).heap.size (w.alloc (.cells #[.int .i64 o, .int .i64 n, .string s, .slice a m c] 42)) wr)) (fun s6 _ => m - (intOf s6).toNat)
    case atStart => exact ⟨0, Nat.zero_le _, rfl, HR, HB1⟩
    case round =>
      obtain ⟨k, hk, rfl, HK, HB⟩ := hrel
      obtain ⟨c0, c1, c2, c3⟩ := HBL.out _ HB.out
      have HBB := Lib.hid (below_2 HW.out HB.out)
      by_cases hlt : k < m
      · have hlx : k < l.length := by rw [HL.out]; exact hlt
        have hkk := HK.out
        rw [drop_ex hlx, vEs] at hkk
        obtain ⟨b2, i2, rfl, hat⟩ := (HKK.out.below HBB.out).open hlx
        obtain ⟨d0, d1, d2, a2, cc, d3, hk2⟩ := hat.open
        have HC := Lib.hid (HIH.out k hlx a2 cc (d + 1) (by omega) (HOK.out.get k hlx) _ hk2)
        clear hat hk2
        generalize vE l[k] (d + 1) = x at HC hkk
        unfold exV at HC
        simp only [Int.natCast_add, Int.natCast_one] at HC
        generalize l[k].args.length = m2 at d3 HC
        generalize l[k].op = o2 at d0 HC
        generalize l[k].n = n2 at d1 HC
        generalize l[k].s = s2 at d2 HC
        by_cases hx : x = 0
        · have bx : (x != 0) = false := by rw [bne_eq_false_iff_eq]; exact hx
          rw [if_neg (fun h => h hx)] at hkk
          have HN := Lib.hid hkk
          clear hkk hx
          go_wp2_with fail
          refine HC.out.mono ?_; rintro e w2 ⟨rfl, hb2⟩
          go_wp2_with fail
          go_roundw
          case rel => exact ⟨k + 1, by omega, by go_num, HN, below_2 HB.out hb2⟩
          case measure => simp [intOf]; omega
        · have bx : (x != 0) = true := bne_iff_ne.2 hx
          rw [if_pos hx] at hkk
          have HV := Lib.hid hkk
          clear hkk hx
          go_wp2_with fail
          refine HC.out.mono ?_; rintro e w2 ⟨rfl, hb2⟩
          go_wp2_with fail
          go_ret
          exact ⟨ret_int HV.out, below_2 HBB.out hb2⟩
      · have HV : Hid (R = 0) := by
          show _ = _
          rw [← HK.out, List.drop_of_length_le (by rw [HL.out]; omega), vEs]
        go_wp2_with fail
        go_ret
        exact ⟨ret_int HV.out.symm, HBB.out⟩
  · have HV : Hid (vE (.mk o n s l) d = nodeE (.mk o n s l) d) := by show _ = _; rw [vE, if_pos hx]
    have bx : (nodeE (.mk o n s l) d != 0) = true := bne_iff_ne.2 hx
    generalize nodeE (.mk o n s l) d = x at HNd HV bx
    rw [HV.out]
    simp only [exV_mk, exO_mk] at HNd HW ⊢
    clear hx HV HIH HBL hK ih hoks hok
    go_enter Tryz.func103, Tryz.ntmps103
    go_wp2_with fail
    refine (HNd.out _).mono ?_; rintro e w1 ⟨rfl, hb1⟩
    go_wp2_with fail
    go_ret
    exact ⟨rfl, below_2 HW.out hb1⟩
theorem rvalidExpr_any (e : Ex) (a : Option Addr) (c : Nat) (hok : okE e) (w : World) (hK : Kids w a e.args) :
    Calls Tryz.prog 88 #[exV e a c] w fun e' w' => e' = .returned (.int .i64 (vE e 1)) ∧ Below w.heap.size w w' := by
  have HC := Lib.hid (fun w h => rvalid_any e a c 1 (by decide) hok w h)
  have hw := below_box w (exO e a c)
  have HK2 := Lib.hid (hK.below hw)
  have HW := Lib.hid hw
  generalize vE e 1 = x at HC ⊢
  unfold exV exO at *
  simp only [show ((1 : Nat) : Int) = 1 from rfl] at HC
  clear hw hK
  go_enter Tryz.func88, Tryz.ntmps88
  go_wp2_with fail
  refine (HC.out _ HK2.out).mono ?_; rintro e w1 ⟨rfl, hb1⟩
  go_wp2_with fail
  go_ret
  exact ⟨rfl, below_2 HW.out hb1⟩
end Go.Proofs.YtnelpgeiioflmaaGreatDoor.A
namespace Go.Proofs.YtnelpgeiioflmaaGreatDoor.A
open Go.RowKit
open L (Str isName prt size_len below_2 below_box ret_bool ret_int)

theorem take_full {α : Type} {X Y : List α} {n : Nat} (h : n ≤ (X.take n).length) : (X ++ Y).take n = X.take n := by
  rw [List.length_take] at h
  rw [List.take_append_of_le_length (by omega)]
theorem take_take_app {α : Type} (X Y : List α) (n : Nat) : (X.take n ++ Y).take n = (X ++ Y).take n := by
  rcases Nat.lt_or_ge X.length n with h | h
  · rw [List.take_of_length_le (Nat.le_of_lt h)]
  · rw [List.take_append_of_le_length (by rw [List.length_take]; omega), List.take_append_of_le_length h, List.take_take, Nat.min_self]
theorem preEs_take {l : List Ex} {k : Nat} (h : k < l.length) : preEs (l.take (k + 1)) = preEs (l.take k) ++ preE l[k] false := by
  induction l generalizing k with
  | nil => cases h
  | cons e l ih =>
    cases k with
    | zero => simp [preEs]
    | succ k =>
      have := ih (k := k) (by simpa using h)
      simp only [List.take_succ_cons, preEs, List.getElem_cons_succ] at this ⊢
      rw [this, List.append_assoc]
theorem preEs_split (l : List Ex) (k : Nat) : preEs l = preEs (l.take k) ++ preEs (l.drop k) := by
  induction l generalizing k with
  | nil => simp [preEs]
  | cons e l ih =>
    cases k with
    | zero => simp [preEs]
    | succ k =>
      simp only [List.take_succ_cons, List.drop_succ_cons, preEs]
      rw [ih k, List.append_assoc]
theorem preB_take {l : List St} {k : Nat} (h : k < l.length) (d : Nat) : preB (l.take (k + 1)) d = preB (l.take k) d ++ preS l[k] d := by
  induction l generalizing k with
  | nil => cases h
  | cons e l ih =>
    cases k with
    | zero => simp [preB]
    | succ k =>
      have := ih (k := k) (by simpa using h)
      simp only [List.take_succ_cons, preB, List.getElem_cons_succ] at this ⊢
      rw [this, List.append_assoc]
theorem preB_split (l : List St) (k : Nat) (d : Nat) : preB l d = preB (l.take k) d ++ preB (l.drop k) d := by
  induction l generalizing k with
  | nil => simp [preB]
  | cons e l ih =>
    cases k with
    | zero => simp [preB]
    | succ k =>
      simp only [List.take_succ_cons, List.drop_succ_cons, preB]
      rw [ih k, List.append_assoc]

/-! ### visits -/

inductive VT where
  | st (s : St) (d : Nat) (a1 : Option Addr) (c1 : Nat) (a2 : Option Addr) (c2 : Nat) (a3 : Option Addr) (c3 : Nat) (a4 : Option Addr) (c4 : Nat)
  | ex (e : Ex) (root : Bool) (a : Option Addr) (c : Nat)
namespace VT
def v : VT → V
  | .st s d _ _ _ _ _ _ _ _ => .st s d
  | .ex e r _ _ => .ex e r
def cells : VT → List Value
  | .st s d a1 c1 a2 c2 a3 c3 a4 c4 => [.bool true, .int .i64 s.op, .string s.name, .int .i64 s.mx, .int .i64 s.a.op, .int .i64 s.a.n, .string s.a.s, .slice a1 s.a.args.length c1, .int .i64 s.b.op, .int .i64 s.b.n, .string s.b.s, .slice a2 s.b.args.length c2, .slice a3 s.body.length c3, .slice a4 s.els.length c4, .int .i64 (d : Int), .int .i64 0, .int .i64 0, .string ⟨#[]⟩, .slice none 0 0, .bool false]
  | .ex e r a c => [.bool false, .int .i64 0, .string ⟨#[]⟩, .int .i64 0, .int .i64 0, .int .i64 0, .string ⟨#[]⟩, .slice none 0 0, .int .i64 0, .int .i64 0, .string ⟨#[]⟩, .slice none 0 0, .slice none 0 0, .slice none 0 0, .int .i64 0, .int .i64 e.op, .int .i64 e.n, .string e.s, .slice a e.args.length c, .bool r]
def In (w : World) : VT → Prop
  | .st s _ a1 _ a2 _ a3 _ a4 _ => StKids w s a1 a2 a3 a4
  | .ex e _ a _ => Kids w a e.args
theorem In.below {w w' : World} {x : VT} (h : x.In w) (hb : Below w.heap.size w w') : x.In w' := by
  cases x with
  | st s d a1 c1 a2 c2 a3 c3 a4 c4 => exact StKids.below h hb
  | ex e r a c => exact Kids.below h hb
theorem cells_len (x : VT) : x.cells.length = 20 := by cases x <;> rfl
end VT
def vs (l : List VT) : List V := l.map VT.v
def vcs (l : List VT) : List Value := l.flatMap VT.cells
theorem vcs_app (a b : List VT) : vcs (a ++ b) = vcs a ++ vcs b := List.flatMap_append
theorem vcs_one (x : VT) : vcs [x] = x.cells := by unfold vcs; simp
theorem one_cellsV (x : VT) : ∀ u ∈ x.cells, u.oneCell' = true := by
  cases x with
  | st s d a1 c1 a2 c2 a3 c3 a4 c4 =>
    intro u hu
    simp [VT.cells] at hu
    rcases hu with rfl | rfl | rfl | rfl | rfl | rfl | rfl | rfl | rfl | rfl | rfl | rfl | rfl | rfl | rfl | rfl | rfl | rfl | rfl | rfl <;> rfl
  | ex e r a c =>
    intro u hu
    simp [VT.cells] at hu
    rcases hu with rfl | rfl | rfl | rfl | rfl | rfl | rfl | rfl | rfl | rfl | rfl | rfl | rfl | rfl | rfl | rfl | rfl | rfl | rfl | rfl <;> rfl
end Go.Proofs.YtnelpgeiioflmaaGreatDoor.A
