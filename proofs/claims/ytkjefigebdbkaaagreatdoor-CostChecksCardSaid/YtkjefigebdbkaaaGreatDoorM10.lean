/-
  What the program's functions of layer 8 return: equalStmts, slices.EqualFunc of statements: contracts.
  What the reference of layer 8 returns: Validate: a contract (over stmt's).
  What the reference of layer 8 returns: stmt: what its walks share.
  What the program's function occurs of layer 8 returns: its contract.
  Plain mathematics of layer 8: a valid procedure's bounds.
-/
import Derived.Test.YtkjefigebdbkaaaGreatDoorM06
import Derived.Test.YtkjefigebdbkaaaGreatDoorM08
import Derived.Deep.Cut
import Derived.Deep.RegionLaw
import Derived.Test.YtkjefigebdbkaaaGreatDoorM09
import Derived.Lib.SlicesS
import Derived.Deep.CutRange
import Derived.Deep.RegionHeld3
import Derived.Test.YtkjefigebdbkaaaGreatDoorM03
namespace Go.Proofs.YtkjefigebdbkaaaGreatDoor.A
open Go.RowKit
open L (Str isName prt size_len below_2 below_box ret_bool ret_int eql_eq bytes_eq)

def stC (s : St) (a1 : Option Addr) (c1 : Nat) (a2 : Option Addr) (c2 : Nat) (a3 : Option Addr) (c3 : Nat) (a4 : Option Addr) (c4 : Nat) : Value :=
  .agg #[.int .i64 s.op, .string s.name, .int .i64 s.mx, .int .i64 s.a.op, .int .i64 s.a.n, .string s.a.s, .slice a1 s.a.args.length c1, .int .i64 s.b.op, .int .i64 s.b.n, .string s.b.s, .slice a2 s.b.args.length c2, .slice a3 s.body.length c3, .slice a4 s.els.length c4]
end Go.Proofs.YtkjefigebdbkaaaGreatDoor.A
namespace Go.Proofs.YtkjefigebdbkaaaGreatDoor.A
open Go.RowKit
open L (Str isName prt size_len below_2 below_box ret_bool ret_int eql_eq bytes_eq isName_any)

def RStmt : Prop := ∀ (s : St) (a1 : Option Addr) (c1 : Nat) (a2 : Option Addr) (c2 : Nat) (a3 : Option Addr) (c3 : Nat) (a4 : Option Addr) (c4 : Nat) (d : Nat), d ≤ 1000000 → okS s → ∀ w0 : World, StKids w0 s a1 a2 a3 a4 →
    Calls Tryz.prog 50 #[stC s a1 c1 a2 c2 a3 c3 a4 c4, .int .i64 (d : Int)] w0 fun e' w' => e' = .returned (.int .i64 (stE s d)) ∧ Below w0.heap.size w0 w'
end Go.Proofs.YtkjefigebdbkaaaGreatDoor.A
namespace Go.Proofs.YtkjefigebdbkaaaGreatDoor.A
open Go.RowKit
open L (Str isName prt size_len below_2 below_box ret_bool ret_int eql_eq bytes_eq isName_any)

theorem bad_bools (s : St) : badS s = (decide (s.op < 1) || decide (8 < s.op) || (!uN s.op && !decide (s.name.size = 0)) || (!uM s.op && (s.mx != 0)) || (!uA s.op && !absent s.a) || (!uB s.op && !absent s.b) || (!uD s.op && decide (0 < (s.body.length : Int))) || (!uE s.op && decide (0 < (s.els.length : Int)))) := by
  unfold badS
  rw [show (s.mx != 0) = !decide (s.mx = 0) by simp [bne, Bool.beq_eq_decide_eq], empty_len, empty_len]
structure StW (s : St) (a1 : Option Addr) (c1 : Nat) (a2 : Option Addr) (c2 : Nat) (a3 a4 : Option Addr) (va vb : Int) (NM v1 v3 v4 : Bool) : Prop where
  aa : ∀ w, Calls Tryz.prog 81 #[.agg #[.int .i64 s.a.op, .int .i64 s.a.n, .string s.a.s, .slice a1 s.a.args.length c1]] w fun e' w' => e' = .returned (.bool v3) ∧ Below w.heap.size w w'
  ab : ∀ w, Calls Tryz.prog 81 #[.agg #[.int .i64 s.b.op, .int .i64 s.b.n, .string s.b.s, .slice a2 s.b.args.length c2]] w fun e' w' => e' = .returned (.bool v4) ∧ Below w.heap.size w w'
  nam : ∀ w, Calls Tryz.prog 47 #[.string s.name] w fun e' w' => e' = .returned (.bool NM) ∧ Below w.heap.size w w'
  va : ∀ w, StKids w s a1 a2 a3 a4 → Calls Tryz.prog 82 #[.agg #[.int .i64 s.a.op, .int .i64 s.a.n, .string s.a.s, .slice a1 s.a.args.length c1]] w fun e' w' => e' = .returned (.int .i64 va) ∧ Below w.heap.size w w'
  vb : ∀ w, StKids w s a1 a2 a3 a4 → Calls Tryz.prog 82 #[.agg #[.int .i64 s.b.op, .int .i64 s.b.n, .string s.b.s, .slice a2 s.b.args.length c2]] w fun e' w' => e' = .returned (.int .i64 vb) ∧ Below w.heap.size w w'
  name : (s.name.toList == []) = v1
  name2 : s.name.toList.isEmpty = v1
theorem stW_of (s : St) (a1 : Option Addr) (c1 : Nat) (a2 : Option Addr) (c2 : Nat) (a3 a4 : Option Addr) (hok : okS s) : StW s a1 c1 a2 c2 a3 a4 (vE s.a 1) (vE s.b 1) (nam s.name) (decide (s.name.size = 0)) (absent s.a) (absent s.b) where
  aa := fun w => rabsent_any s.a a1 c1 w
  ab := fun w => rabsent_any s.b a2 c2 w
  nam := fun w => isName_any s.name (by have := (okS_open hok).name; omega) w
  va := fun w h => rvalidExpr_any s.a a1 c1 (okS_open hok).a w h.a
  vb := fun w h => rvalidExpr_any s.b a2 c2 (okS_open hok).b w h.b
  name := nil_of
  name2 := empty_of
end Go.Proofs.YtkjefigebdbkaaaGreatDoor.A
namespace Go.Proofs.YtkjefigebdbkaaaGreatDoor.A
open Go.RowKit
open L (Str isName prt size_len below_2 below_box ret_bool ret_int eql_eq bytes_eq)

theorem names_len (p : Pr) (hpl : p.params.length ≤ 1000) : (names p).length ≤ 2000 := by
  unfold names
  rw [List.length_append, List.length_map]
  have h1 := List.length_filterMap_le V.decl (walk p)
  have h2 : (walk p).length ≤ 401 := by unfold walk; rw [List.length_take]; omega
  omega
end Go.Proofs.YtkjefigebdbkaaaGreatDoor.A
namespace Go.Proofs.YtkjefigebdbkaaaGreatDoor.A
open L (Str isName prt size_len)

theorem nam_small {s : ByteArray} (h : nam s = true) : s.size ≤ 16 := by
  unfold nam at h
  unfold isName at h
  simp only [Bool.and_eq_true, decide_eq_true_eq] at h
  have h1 := h.1.1.1
  rwa [size_len]
theorem node_small {e : Ex} {d : Nat} (h : nodeE e d = 0) : e.s.size ≤ 64 := by
  unfold nodeE at h
  split at h
  · cases h
  · rename_i h1
    split at h
    · cases h
    · rename_i h2
      split at h
      · cases h
      · rename_i h3
        by_cases hs : e.s.size = 0
        · omega
        · by_cases h4 : e.op = 3
          · have : nam e.s = true := by
              cases hn : nam e.s
              · exact absurd ⟨h4, hn⟩ h2
              · rfl
            have := nam_small this
            omega
          · by_cases h5 : e.op = 2
            · have : plain e.s = true := by
                cases hn : plain e.s
                · exact absurd (Or.inr (Or.inl ⟨h5, hn⟩)) h3
                · rfl
              unfold plain at this
              simp only [Bool.and_eq_true, decide_eq_true_eq] at this
              exact this.1
            · exact absurd (Or.inr (Or.inr ⟨h5, h4, hs⟩)) h1
mutual
theorem vE_count : ∀ (e : Ex) (d : Nat) (r : Bool), vE e d = 0 → cE e ≤ 2 * (preE e r).length
  | .mk o n s l, d, r, h => by
    rw [vE] at h
    by_cases h0 : nodeE (.mk o n s l) d = 0
    · rw [if_neg (fun x => x h0)] at h
      have h1 : s.size ≤ 64 := node_small h0
      have h2 := vEs_count l (d + 1) h
      rw [cE, preE, List.length_cons]
      omega
    · rw [if_pos h0] at h; exact absurd h h0
theorem vEs_count : ∀ (l : List Ex) (d : Nat), vEs l d = 0 → cEs l ≤ 2 * (preEs l).length
  | [], _, _ => by rw [cEs]; omega
  | e :: r, d, h => by
    rw [vEs] at h
    by_cases h0 : vE e d = 0
    · rw [if_neg (fun x => x h0)] at h
      have h1 := vE_count e d false h0
      have h2 := vEs_count r d h
      rw [cEs, preEs, List.length_append]
      omega
    · rw [if_pos h0] at h; exact absurd h h0
end
theorem names_valid {p : Pr} (h : valE p = 0) : (names p).length ≤ 406 := by
  obtain ⟨_, h2, _, h4⟩ := val_parts h
  unfold names
  rw [List.length_append, List.length_map]
  have h1 := List.length_filterMap_le V.decl (walk p)
  have := (par_each h2).1
  omega
theorem exprs_count (p : Pr) : (exprs p).length ≤ nodes p := List.length_filterMap_le V.rooted (walk p)
end Go.Proofs.YtkjefigebdbkaaaGreatDoor.A
