/-
  What the reference of layer 8 returns: Arity, Absent, Plain, node: contracts, one a function.
  What the program's functions of layer 8 return: Arity, has, usedFields, isAbsent, isMaxValid: contracts.
  What the reference of layer 8 returns: valid, ValidExpr, countExpr: contracts by induction on the tree.
  Plain mathematics of layer 8: the walk that stops at its limit. Visits as the reference keeps them, in rows that a call owns.
  Visits appended; what walkExpr of the reference of layer 8 returns.
-/
import Derived.Test.YtkjefigebdbkaaaDoorM03
import Derived.Laws.AppendOwn
import Derived.OwnWalk
import Derived.Deep.AppendLies
namespace Go.Proofs.YtkjefigebdbkaaaDoor.A
open Go.RowKit
open L (Str isName prt prt_iff prt_not upto upto_all upto_not size_len below_2 below_box below_drew ret_bool ret_int eql_eq bytes_eq)

theorem empty_of {s : ByteArray} : s.toList.isEmpty = decide (s.size = 0) := by
  rw [Lib.toList_data, Bool.eq_iff_iff, List.isEmpty_iff, decide_eq_true_iff, size_len, List.length_eq_zero_iff]
theorem nil_of {s : ByteArray} : (s.toList == []) = decide (s.size = 0) := by
  rw [← empty_of]; cases s.toList <;> rfl
end Go.Proofs.YtkjefigebdbkaaaDoor.A
namespace Go.Proofs.YtkjefigebdbkaaaDoor.A
open Go.RowKit
open L (Str isName prt size_len below_2 below_box ret_bool ret_int eql_eq bytes_eq)

set_option maxHeartbeats 4000000 in
set_option maxRecDepth 100000 in
theorem oarity_any (op : Int) (w : World) : Calls Tryd.prog 115 #[.int .i64 op] w fun e w' => e = .returned (.int .i64 (arity op)) ∧ w' = w := by
  obtain ⟨b1, h1⟩ : ∃ b, (op == 1) = b := ⟨_, rfl⟩
  obtain ⟨b2, h2⟩ : ∃ b, (op == 2) = b := ⟨_, rfl⟩
  obtain ⟨b3, h3⟩ : ∃ b, (op == 3) = b := ⟨_, rfl⟩
  obtain ⟨b4, h4⟩ : ∃ b, (op == 4) = b := ⟨_, rfl⟩
  obtain ⟨b5, h5⟩ : ∃ b, (op == 5) = b := ⟨_, rfl⟩
  obtain ⟨b6, h6⟩ : ∃ b, (op == 6) = b := ⟨_, rfl⟩
  obtain ⟨b7, h7⟩ : ∃ b, (op == 7) = b := ⟨_, rfl⟩
  obtain ⟨b8, h8⟩ : ∃ b, (op == 8) = b := ⟨_, rfl⟩
  obtain ⟨b9, h9⟩ : ∃ b, (op == 9) = b := ⟨_, rfl⟩
  obtain ⟨b10, h10⟩ : ∃ b, (op == 10) = b := ⟨_, rfl⟩
  obtain ⟨b11, h11⟩ : ∃ b, (op == 11) = b := ⟨_, rfl⟩
  obtain ⟨b12, h12⟩ : ∃ b, (op == 12) = b := ⟨_, rfl⟩
  obtain ⟨b13, h13⟩ : ∃ b, (op == 13) = b := ⟨_, rfl⟩
  obtain ⟨b14, h14⟩ : ∃ b, (op == 14) = b := ⟨_, rfl⟩
  obtain ⟨b15, h15⟩ : ∃ b, (op == 15) = b := ⟨_, rfl⟩
  obtain ⟨b16, h16⟩ : ∃ b, (op == 16) = b := ⟨_, rfl⟩
  obtain ⟨b17, h17⟩ : ∃ b, (op == 17) = b := ⟨_, rfl⟩
  obtain ⟨b18, h18⟩ : ∃ b, (op == 18) = b := ⟨_, rfl⟩
  obtain ⟨b19, h19⟩ : ∃ b, (op == 19) = b := ⟨_, rfl⟩
  obtain ⟨b20, h20⟩ : ∃ b, (op == 20) = b := ⟨_, rfl⟩
  obtain ⟨b21, h21⟩ : ∃ b, (op == 21) = b := ⟨_, rfl⟩
  obtain ⟨b22, h22⟩ : ∃ b, (op == 22) = b := ⟨_, rfl⟩
  obtain ⟨b23, h23⟩ : ∃ b, (op == 23) = b := ⟨_, rfl⟩
  obtain ⟨b24, h24⟩ : ∃ b, (op == 24) = b := ⟨_, rfl⟩
  obtain ⟨b25, h25⟩ : ∃ b, (op == 25) = b := ⟨_, rfl⟩
  obtain ⟨b26, h26⟩ : ∃ b, (op == 26) = b := ⟨_, rfl⟩
  obtain ⟨b27, h27⟩ : ∃ b, (op == 27) = b := ⟨_, rfl⟩
  have HV : Hid (arity op = if (b1 || b2 || b3 || b25 || b26 || b27) = true then 0 else if (b9 || b18 || b20 || b21 || b22 || b23 || b24) = true then 1 else if (b4 || b5 || b6 || b7 || b8 || b10 || b11 || b12 || b13 || b14 || b15 || b16 || b17 || b19) = true then 2 else -1) := by
    show _ = _
    subst h1 h2 h3 h4 h5 h6 h7 h8 h9 h10 h11 h12 h13 h14 h15 h16 h17 h18 h19 h20 h21 h22 h23 h24 h25 h26 h27
    unfold arity
    simp only [Bool.or_eq_true, beq_iff_eq, or_assoc]
    split
    · rfl
    · split
      · rfl
      · by_cases h : 4 ≤ op ∧ op ≤ 19
        · rw [if_pos h, if_pos (by omega)]
        · rw [if_neg h, if_neg (by omega)]
  go_enter Tryd.func115, Tryd.ntmps115
  go_wp2_with fail
  all_goals (clear h1 h2 h3 h4 h5 h6 h7 h8 h9 h10 h11 h12 h13 h14 h15 h16 h17 h18 h19 h20 h21 h22 h23 h24 h25 h26 h27; go_ret; exact ⟨ret_int (by rw [HV.out]; clear HV; simp_all), rfl⟩)
/-- the fields that a statement uses, as the program's set -/
def usedI (o : Int) : Int := if o = 1 ∨ o = 2 then 5 else if o = 3 then 12 else if o = 4 ∨ o = 7 then 4 else if o = 5 then 52 else if o = 6 then 31 else if o = 8 then 2 else 0
set_option maxHeartbeats 2000000 in
set_option maxRecDepth 100000 in
theorem oused_any (op : Int) (w : World) : Calls Tryd.prog 105 #[.int .i64 op] w fun e w' => e = .returned (.int .i64 (usedI op)) ∧ w' = w := by
  obtain ⟨b1, h1⟩ : ∃ b, (op == 1) = b := ⟨_, rfl⟩
  obtain ⟨b2, h2⟩ : ∃ b, (op == 2) = b := ⟨_, rfl⟩
  obtain ⟨b3, h3⟩ : ∃ b, (op == 3) = b := ⟨_, rfl⟩
  obtain ⟨b4, h4⟩ : ∃ b, (op == 4) = b := ⟨_, rfl⟩
  obtain ⟨b5, h5⟩ : ∃ b, (op == 5) = b := ⟨_, rfl⟩
  obtain ⟨b6, h6⟩ : ∃ b, (op == 6) = b := ⟨_, rfl⟩
  obtain ⟨b7, h7⟩ : ∃ b, (op == 7) = b := ⟨_, rfl⟩
  obtain ⟨b8, h8⟩ : ∃ b, (op == 8) = b := ⟨_, rfl⟩
  have HV : Hid (usedI op = if (b1 || b2) = true then 5 else if b3 = true then 12 else if (b4 || b7) = true then 4 else if b5 = true then 52 else if b6 = true then 31 else if b8 = true then 2 else 0) := by
    show _ = _
    subst h1 h2 h3 h4 h5 h6 h7 h8
    unfold usedI
    simp only [Bool.or_eq_true, beq_iff_eq]
  go_enter Tryd.func105, Tryd.ntmps105
  go_wp2_with fail
  all_goals (clear h1 h2 h3 h4 h5 h6 h7 h8; go_ret; exact ⟨ret_int (by rw [HV.out]; clear HV; simp_all), rfl⟩)
theorem used_cases (op : Int) : usedI op = 5 ∨ usedI op = 12 ∨ usedI op = 4 ∨ usedI op = 52 ∨ usedI op = 31 ∨ usedI op = 2 ∨ usedI op = 0 := by
  unfold usedI
  repeat' split
  all_goals simp
/-- whether a set holds a field -/
def hasB (f g : Int) : Bool := !decide (f.toNat &&& g.toNat = 0)
set_option maxHeartbeats 4000000 in
set_option maxRecDepth 100000 in
theorem ohas_any (op g : Int) (hg : g = 1 ∨ g = 2 ∨ g = 4 ∨ g = 8 ∨ g = 16 ∨ g = 32) (w : World) : Calls Tryd.prog 108 #[.int .i64 (usedI op), .int .i64 g] w fun e w' => e = .returned (.bool (hasB (usedI op) g)) ∧ w' = w := by
  rcases used_cases op with h | h | h | h | h | h | h <;> rw [h] <;> clear h <;> rcases hg with h | h | h | h | h | h <;> subst h
  all_goals
    go_enter Tryd.func108, Tryd.ntmps108
    go_wp2_with fail
    go_ret
    exact ⟨ret_bool (by decide), rfl⟩
end Go.Proofs.YtkjefigebdbkaaaDoor.A
namespace Go.Proofs.YtkjefigebdbkaaaDoor.A
open Go.RowKit
open L (Str isName prt size_len below_2 below_box ret_bool ret_int)

theorem okE_open {o n : Int} {s : ByteArray} {l : List Ex} (h : okE (.mk o n s l)) : s.size ≤ 1000000000000000 ∧ l.length ≤ 1000000000000000 ∧ okEs l := by
  rw [okE] at h
  exact ⟨h.2.2.1, h.2.2.2.1, h.2.2.2.2⟩
theorem exV_mk (o n : Int) (s : ByteArray) (l : List Ex) (a : Option Addr) (c : Nat) : exV (.mk o n s l) a c = .agg #[.int .i64 o, .int .i64 n, .string s, .slice a l.length c] := rfl
theorem exO_mk (o n : Int) (s : ByteArray) (l : List Ex) (a : Option Addr) (c : Nat) : exO (.mk o n s l) a c = .cells #[.int .i64 o, .int .i64 n, .string s, .slice a l.length c] 46 := rfl
theorem op_mk (o n : Int) (s : ByteArray) (l : List Ex) : (Ex.mk o n s l).op = o := rfl
theorem n_mk (o n : Int) (s : ByteArray) (l : List Ex) : (Ex.mk o n s l).n = n := rfl
theorem s_mk (o n : Int) (s : ByteArray) (l : List Ex) : (Ex.mk o n s l).s = s := rfl
theorem args_mk (o n : Int) (s : ByteArray) (l : List Ex) : (Ex.mk o n s l).args = l := rfl
/-- the box of an expression, later -/
theorem box_later {w w' : World} {e : Ex} {a : Option Addr} {c : Nat} (hb : Below (w.alloc (exO e a c)).heap.size (w.alloc (exO e a c)) w') :
    w'.cell? ⟨w.heap.size, 0, none⟩ = some (.int .i64 e.op) ∧ w'.cell? ⟨w.heap.size, 1, none⟩ = some (.int .i64 e.n) ∧ w'.cell? ⟨w.heap.size, 2, none⟩ = some (.string e.s) ∧ w'.cell? ⟨w.heap.size, 3, none⟩ = some (.slice a e.args.length c) := by
  obtain ⟨c0, c1, c2, c3⟩ := exO_cells w e a c
  have hlt : w.heap.size < (w.alloc (exO e a c)).heap.size := by simp
  exact ⟨(hb.cell hlt).trans c0, (hb.cell hlt).trans c1, (hb.cell hlt).trans c2, (hb.cell hlt).trans c3⟩
end Go.Proofs.YtkjefigebdbkaaaDoor.A
namespace Go.Proofs.YtkjefigebdbkaaaDoor.A
open Go.RowKit
open L (Str isName prt size_len below_2 below_box ret_bool ret_int)

theorem take_take_app {α : Type} (X Y : List α) (n : Nat) : (X.take n ++ Y).take n = (X ++ Y).take n := by
  rcases Nat.lt_or_ge X.length n with h | h
  · rw [List.take_of_length_le (Nat.le_of_lt h)]
  · rw [List.take_append_of_le_length (by rw [List.length_take]; omega), List.take_append_of_le_length h, List.take_take, Nat.min_self]
/-! ### visits -/

/-- a visit, with where its parts lie -/
inductive VT where
  | st (s : St) (d : Nat) (a1 : Option Addr) (c1 : Nat) (a2 : Option Addr) (c2 : Nat) (a3 : Option Addr) (c3 : Nat) (a4 : Option Addr) (c4 : Nat)
  | ex (e : Ex) (root : Bool) (a : Option Addr) (c : Nat)
namespace VT
def v : VT → V
  | .st s d _ _ _ _ _ _ _ _ => .st s d
  | .ex e r _ _ => .ex e r
def cells : VT → List Value
  | .st s d a1 c1 a2 c2 a3 c3 a4 c4 => [.bool true, .int .i64 s.op, .string s.name, .int .i64 s.mx, .int .i64 s.a.op, .int .i64 s.a.n, .string s.a.s, .slice a1 s.a.args.length c1, .int .i64 s.b.op, .int .i64 s.b.n, .string s.b.s, .slice a2 s.b.args.length c2, .slice a3 s.body.length c3, .slice a4 s.els.length c4, .int .i64 (d : Int), .int .i64 0, .int .i64 0, .string ⟨#[]⟩, .slice none 0 0, .bool false]
  | .ex e r a c => [.bool false, .int .i64 0, .string ⟨#[]⟩, .int .i64 0, .int .i64 0, .int .i64 0, .string ⟨#[]⟩, .slice none 0 0, .int .i64 0, .int .i64 0, .string ⟨#[]⟩, .slice none 0 0, .slice none 0 0, .slice none 0 0, .int .i64 0, .int .i64 e.op, .int .i64 e.n, .string e.s, .slice a e.args.length c, .bool r]
def In (w : World) : VT → Prop
  | .st s _ a1 _ a2 _ a3 _ a4 _ => StKids w s a1 a2 a3 a4
  | .ex e _ a _ => Kids w a e.args
theorem In.below {w w' : World} {x : VT} (h : x.In w) (hb : Below w.heap.size w w') : x.In w' := by
  cases x with
  | st s d a1 c1 a2 c2 a3 c3 a4 c4 => exact StKids.below h hb
  | ex e r a c => exact Kids.below h hb
end VT
def vs (l : List VT) : List V := l.map VT.v
def vcs (l : List VT) : List Value := l.flatMap VT.cells
/-- the call owns these visits -/
structure OwnV (w : World) (B : Nat) (v : Value) (l : List VT) : Prop where
  row : w.ownsRow B 66 20 v l.length (vcs l)
  each : ∀ x ∈ l, x.In w
end Go.Proofs.YtkjefigebdbkaaaDoor.A
namespace Go.Proofs.YtkjefigebdbkaaaDoor.A
open Go.RowKit
open L (Str isName prt size_len below_2 below_box ret_bool ret_int)

theorem info_parts3 {o : Option TypeInfo} {a : Option Value} {b c : Nat} (h : o.map (fun i => (i.zero, i.size, i.bytes)) = some (a, b, c)) : ∃ i, o = some i ∧ i.zero = a ∧ i.size = b ∧ i.bytes = c := by
  cases o with
  | none => cases h
  | some i =>
    simp only [Option.map_some, Option.some.injEq, Prod.mk.injEq] at h
    exact ⟨i, rfl, h.1, h.2.1, h.2.2⟩
theorem cells_row (w : World) (t : TypeId) (cs : List Value) : ∀ j u, cs[j]? = some u → (w.alloc (.cells cs.toArray t)).cell? ((⟨w.heap.size, 0, none⟩ : Addr).add j) = some u := by
  intro j u hu
  rw [Addr.add_lit, Nat.zero_add]
  have h1 : (w.alloc (.cells cs.toArray t)).heap[w.heap.size]? = some (.cells cs.toArray t) := by
    show (w.heap.push _)[w.heap.size]? = _
    simp
  rw [cell_of_row _ _ _ _ _ _ h1, ← Array.getElem?_toList]
  exact hu
theorem grown_2 {w w1 w2 : World} {r1 r2 : Option Nat} (h : w.grownBy w1 r1) (h2 : w1.grownBy w2 r2) (hr : ∀ g, r2 = some g → r1 = some g ∨ w.heap.size ≤ g) : w.grownBy w2 r1 :=
  ⟨h2.os.trans h.os, h2.tape.trans h.tape, h2.output.trans h.output, Nat.le_trans h.size h2.size, fun k hk hne => (h2.block k (Nat.lt_of_lt_of_le hk h.size) (fun e => by
    rcases hr k e.symm with h3 | h3
    · exact hne h3.symm
    · omega)).trans (h.block k hk hne)⟩
/-- what walkExpr leaves: a row of visits that the call owns, what it was and the nodes, cut at the limit -/
def GivesW (w0 w : World) (v : Value) (X : List V) (e' : Ending) (w' : World) : Prop :=
  ∃ v' l', e' = .returned v' ∧ w'.ownsRow w0.heap.size 66 20 v' l'.length (vcs l') ∧ (∀ x ∈ l', x.In w0) ∧ vs l' = X.take 401 ∧ w.grownBy w' v.ownBlock ∧ (∀ g, v'.ownBlock = some g → v.ownBlock = some g ∨ w.heap.size ≤ g)
theorem vs_len (l : List VT) : (vs l).length = l.length := List.length_map _
theorem vs_app (a b : List VT) : vs (a ++ b) = vs a ++ vs b := List.map_append
end Go.Proofs.YtkjefigebdbkaaaDoor.A
