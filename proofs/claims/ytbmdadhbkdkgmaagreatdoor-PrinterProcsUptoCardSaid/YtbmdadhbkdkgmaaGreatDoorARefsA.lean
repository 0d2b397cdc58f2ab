/-
  What the reference of layer 8 returns: Arity, Absent, Plain, node: contracts, one a function.
-/
import Derived.Test.YtbmdadhbkdkgmaaGreatDoorGA
namespace Go.Proofs.YtbmdadhbkdkgmaaGreatDoor.A
open Go.RowKit
open L (Str isName prt prt_iff prt_not upto upto_all upto_not size_len below_2 below_box below_drew ret_bool ret_int eql_eq bytes_eq isName_any)

theorem grownW {f : FuncId} {args : Array Value} {v : Value} {W : World} (h : ∀ w, Calls Tryz.prog f args w fun e w' => e = .returned v ∧ Below w.heap.size w w') (d : Nat) (os : Array Obj) :
    Calls Tryz.prog f args (Sort.grow (redrawn W d) os) fun e w'' => e = .returned v ∧ ∃ p : Regrown, w'' = Sort.grow (redrawn W p.d) p.os := Calls.regrown_of (h _)
theorem grownS {f : FuncId} {args : Array Value} {v : Value} {W : World} (h : ∀ w, Calls Tryz.prog f args w fun e w' => e = .returned v ∧ w' = w) (d : Nat) (os : Array Obj) :
    Calls Tryz.prog f args (Sort.grow (redrawn W d) os) fun e w'' => e = .returned v ∧ ∃ p : Regrown, w'' = Sort.grow (redrawn W p.d) p.os :=
  Calls.regrown_of ((h _).mono fun _ _ ⟨a, b⟩ => ⟨a, by rw [b]; exact Below.refl _ _⟩)
theorem empty_of {s : ByteArray} : s.toList.isEmpty = decide (s.size = 0) := by
  rw [Lib.toList_data, Bool.eq_iff_iff, List.isEmpty_iff, decide_eq_true_iff, size_len, List.length_eq_zero_iff]
theorem nil_of {s : ByteArray} : (s.toList == []) = decide (s.size = 0) := by
  rw [← empty_of]; cases s.toList <;> rfl
set_option maxHeartbeats 2000000 in
set_option maxRecDepth 100000 in
theorem rarity_any (op : Int) (w : World) : Calls Tryz.prog 104 #[.int .i64 op] w fun e w' => e = .returned (.int .i64 (arity op)) ∧ w' = w := by
  obtain ⟨b1, h1⟩ : ∃ b, (op == 1) = b := ⟨_, rfl⟩
  obtain ⟨b2, h2⟩ : ∃ b, (op == 2) = b := ⟨_, rfl⟩
  obtain ⟨b3, h3⟩ : ∃ b, (op == 3) = b := ⟨_, rfl⟩
  obtain ⟨b25, h25⟩ : ∃ b, (op == 25) = b := ⟨_, rfl⟩
  obtain ⟨b26, h26⟩ : ∃ b, (op == 26) = b := ⟨_, rfl⟩
  obtain ⟨b27, h27⟩ : ∃ b, (op == 27) = b := ⟨_, rfl⟩
  obtain ⟨b9, h9⟩ : ∃ b, (op == 9) = b := ⟨_, rfl⟩
  obtain ⟨b18, h18⟩ : ∃ b, (op == 18) = b := ⟨_, rfl⟩
  obtain ⟨b20, h20⟩ : ∃ b, (op == 20) = b := ⟨_, rfl⟩
  obtain ⟨b21, h21⟩ : ∃ b, (op == 21) = b := ⟨_, rfl⟩
  obtain ⟨b22, h22⟩ : ∃ b, (op == 22) = b := ⟨_, rfl⟩
  obtain ⟨b23, h23⟩ : ∃ b, (op == 23) = b := ⟨_, rfl⟩
  obtain ⟨b24, h24⟩ : ∃ b, (op == 24) = b := ⟨_, rfl⟩
  obtain ⟨p, hp⟩ : ∃ b, decide (4 ≤ op) = b := ⟨_, rfl⟩
  obtain ⟨q, hq⟩ : ∃ b, decide (op ≤ 19) = b := ⟨_, rfl⟩
  have HV : Hid (arity op = if (b1 || b2 || b3 || b25 || b26 || b27) = true then 0 else if (b9 || b18 || b20 || b21 || b22 || b23 || b24) = true then 1 else if (p && q) = true then 2 else -1) := by
    show _ = _
    subst h1 h2 h3 h25 h26 h27 h9 h18 h20 h21 h22 h23 h24 hp hq
    unfold arity
    simp only [Bool.or_eq_true, Bool.and_eq_true, beq_iff_eq, decide_eq_true_eq, or_assoc]
  go_enter Tryz.func104, Tryz.ntmps104
  go_wp2_with fail
  all_goals (clear h1 h2 h3 h25 h26 h27 h9 h18 h20 h21 h22 h23 h24 hp hq; go_ret; exact ⟨ret_int (by rw [HV.out]; clear HV; simp_all), rfl⟩)
set_option maxHeartbeats 2000000 in
set_option maxRecDepth 100000 in
theorem rabsent_any (e : Ex) (a : Option Addr) (c : Nat) (w : World) : Calls Tryz.prog 56 #[exV e a c] w fun e' w' => e' = .returned (.bool (absent e)) ∧ Below w.heap.size w w' := by
  have HW := Lib.hid (below_box w (exO e a c))
  unfold exV
  unfold exO at HW
  have hv : absent e = ((e.op == 0) && (e.n == 0) && (e.s.toList == []) && ((e.args.length : Int) == 0)) := by
    unfold absent
    rw [nil_of, Bool.beq_eq_decide_eq, Bool.beq_eq_decide_eq, Bool.beq_eq_decide_eq]
    congr 1
    cases e.args with
    | nil => rfl
    | cons x l => rw [decide_eq_false (by simp; omega)]; rfl
  have he : e.s.toList.isEmpty = (e.s.toList == []) := by cases e.s.toList <;> rfl
  rw [hv]
  clear hv
  generalize (e.s.toList == []) = b3 at he ⊢
  obtain ⟨b1, h1⟩ : ∃ b, (e.op == 0) = b := ⟨_, rfl⟩
  obtain ⟨b2, h2⟩ : ∃ b, (e.n == 0) = b := ⟨_, rfl⟩
  obtain ⟨b4, h4⟩ : ∃ b, ((e.args.length : Int) == 0) = b := ⟨_, rfl⟩
  rw [h1, h2, h4]
  cases b1 <;> cases b2 <;> cases b3 <;> cases b4
  all_goals
    go_enter Tryz.func56, Tryz.ntmps56
    go_wp2_with fail
    go_ret
    exact ⟨rfl, HW.out⟩
set_option maxRecDepth 100000 in
theorem rplain_any (s : ByteArray) (w : World) : Calls Tryz.prog 105 #[.string s] w fun e w' => e = .returned (.bool (plain s)) ∧ w' = w := by
  by_cases h64 : s.size ≤ 64
  · have HP : Hid (plain s = s.data.toList.all prt) := by show _ = _; unfold plain; rw [decide_eq_true h64, Bool.true_and]
    go_enter Tryz.func105, Tryz.ntmps105
    go_wp2
    go_loopw [3] (fun s3 wr => ∃ k : Nat, k ≤ s.size ∧ s3 = .int .i64 k ∧ wr = w ∧ Hid (upto prt s k)) (fun s3 _ => s.size - (intOf s3).toNat)
    case atStart => exact ⟨0, Nat.zero_le _, rfl, rfl, fun j _ h => absurd h (Nat.not_lt_zero _)⟩
    case round =>
      obtain ⟨k, hk, rfl, rfl, HK⟩ := hrel
      by_cases hlt : k < s.size
      · cases hok : prt s[k]
        · have HV := Lib.hid (upto_not hlt hok)
          rcases prt_not hok with h | h
          · have b1 : decide ((s[k].toNat : Int) < 32) = true := decide_eq_true h
            clear hok h
            go_wp2_with fail
            go_ret
            exact ⟨ret_bool (by rw [HP.out, HV.out]), rfl⟩
          · have b1 : decide ((s[k].toNat : Int) < 32) = false := decide_eq_false (by omega)
            have b2 : decide (126 < (s[k].toNat : Int)) = true := decide_eq_true h
            clear hok h
            go_wp2_with fail
            go_ret
            exact ⟨ret_bool (by rw [HP.out, HV.out]), rfl⟩
        · have HN : Hid (upto prt s (k + 1)) := by
            intro j h hj
            by_cases e : j = k
            · subst e; exact hok
            · exact HK.out j h (by omega)
          have hp := prt_iff.1 hok
          have b1 : decide ((s[k].toNat : Int) < 32) = false := decide_eq_false (by omega)
          have b2 : decide (126 < (s[k].toNat : Int)) = false := decide_eq_false (by omega)
          clear hok hp
          go_wp2_with fail
          go_roundw
          case rel => exact ⟨k + 1, by omega, by go_num, by first | rfl | trivial, HN⟩
          case measure => simp [intOf]; omega
      · obtain rfl : k = s.size := by omega
        have HV := Lib.hid (upto_all HK.out)
        go_wp2_with fail
        go_ret
        exact ⟨ret_bool (by rw [HP.out, HV.out]), rfl⟩
  · have HP : Hid (plain s = false) := by show _ = _; unfold plain; rw [decide_eq_false h64, Bool.false_and]
    go_enter Tryz.func105, Tryz.ntmps105
    go_wp2
    go_ret
    exact ⟨ret_bool HP.out.symm, rfl⟩
end Go.Proofs.YtbmdadhbkdkgmaaGreatDoor.A
