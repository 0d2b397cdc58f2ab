/-
  A region in whatever order: what its numbers' values are, by codes: a value, strings, an expression, a statement, statements, parameters, a procedure, a box.
  What the laws of layer 14 rest on: the calls' contracts at a small procedure.
-/
import Derived.Test.YtnelpgeiioflmaaGreatDoorM24
import Derived.Test.YtnelpgeiioflmaaGreatDoorM17
import Derived.Test.YtnelpgeiioflmaaGreatDoorM09
import Derived.Test.YtnelpgeiioflmaaGreatDoorM07
import Derived.Test.YtnelpgeiioflmaaGreatDoorM19
import Derived.Test.YtnelpgeiioflmaaGreatDoorSYRK
namespace Go.Proofs.YtnelpgeiioflmaaGreatDoor.F
open Go.RowKit
open A (Ex St Pm Pr exV Bx StrsAt PmsAt StKids PrIn prV)

inductive PC where
  | eq (x : Value)
  | strs (l : List ByteArray)
  | ex (e : Ex)
  | st (s : St)
  | sts (l : List St)
  | pms (l : List Pm)
  | pr (p : Pr)
  | box (B : Nat) (cs : Array Value) (t : TypeId)
def PC.holds : PC → Value → World → Prop
  | .eq x, v, _ => v = x
  | .strs l, v, w => ∃ p q, v = .slice p l.length q ∧ StrsAt w p l
  | .ex e, v, w => ∃ a c, v = exV e a c ∧ A.Kids w a e.args
  | .st s, v, w => ∃ a1 c1 a2 c2 a3 c3 a4 c4, v = .agg (stF s a1 c1 a2 c2 a3 c3 a4 c4) ∧ StKids w s a1 a2 a3 a4
  | .sts l, v, w => ∃ a c, v = .slice a l.length c ∧ A.Bodies w a l
  | .pms l, v, w => ∃ a c, v = .slice a l.length c ∧ l.length ≤ c ∧ PmsAt w a l
  | .pr p, v, w => ∃ a1 c1 a2 c2, v = prV p a1 c1 a2 c2 ∧ p.params.length ≤ c1 ∧ PrIn w p a1 a2
  | .box B cs t, v, w => ∃ b, v = .pointer (some ⟨b, 0, none⟩) ∧ B ≤ b ∧ Bx w b cs t
theorem PC.mono : ∀ {c : PC} {v : Value} {w w' : World}, c.holds v w → Below w.heap.size w w' → c.holds v w'
  | .eq _, _, _, _, h, _ => h
  | .strs _, _, _, _, ⟨p, q, h1, h2⟩, hb => ⟨p, q, h1, h2.below hb⟩
  | .ex _, _, _, _, ⟨a, c, h1, h2⟩, hb => ⟨a, c, h1, h2.below hb⟩
  | .st _, _, _, _, ⟨a1, c1, a2, c2, a3, c3, a4, c4, h1, h2⟩, hb => ⟨a1, c1, a2, c2, a3, c3, a4, c4, h1, h2.below hb⟩
  | .sts _, _, _, _, ⟨a, c, h1, h2⟩, hb => ⟨a, c, h1, h2.below hb⟩
  | .pms _, _, _, _, ⟨a, c, h1, h2, h3⟩, hb => ⟨a, c, h1, h2, h3.below hb⟩
  | .pr _, _, _, _, ⟨a1, c1, a2, c2, h1, h2, h3⟩, hb => ⟨a1, c1, a2, c2, h1, h2, h3.below hb⟩
  | .box _ _ _, _, _, _, ⟨b, h1, h2, h3⟩, hb => ⟨b, h1, h2, h3.below hb⟩
def nthC : List PC → Nat → Option PC
  | [], _ => none
  | x :: _, 0 => some x
  | _ :: r, n + 1 => nthC r n
def FP (l : List PC) (j : Nat) (v : Value) (w : World) : Prop := match nthC l j with
  | some c => c.holds v w
  | none => True
theorem FP.mono {l : List PC} : ∀ j v w w', FP l j v w → Below w.heap.size w w' → FP l j v w' := by
  intro j v w w' h hb
  unfold FP at h ⊢
  split at h
  · exact PC.mono h hb
  · trivial
end Go.Proofs.YtnelpgeiioflmaaGreatDoor.F
namespace Go.Proofs.YtnelpgeiioflmaaGreatDoor.F
open Go.RowKit
open L (Str isName prt size_len below_2 below_box ret_bool ret_int eql_eq bytes_eq)
open A (Ex St Pm Pr Bx PmsAt StrsAt PrIn OkP prV prO names cB SmP small GivesN GivesV walk)
open Y (chk Tb)

def Wk : Prop := ∀ w, Tb w → Calls Tryz.prog 10 #[] w fun e' w' => e' = .returned (.bool true) ∧ Below w.heap.size w w'
structure Sm (p : Pr) (a1 a2 : Option Addr) (c1 c2 : Nat) : Prop where
  oT : ∀ w', Y.Tb w' → PrIn w' p a1 a2 → Calls Tryz.prog 12 #[prV p a1 c1 a2 c2] w' (GivesN w' (taint p))
  oK : ∀ w', Y.Tb w' → PrIn w' p a1 a2 → Calls Tryz.prog 14 #[prV p a1 c1 a2 c2] w' fun e' w'' => e' = .returned (.bool (keysT p)) ∧ Below w'.heap.size w' w''
  oC : ∀ w', Y.Tb w' → PrIn w' p a1 a2 → Calls Tryz.prog 16 #[prV p a1 c1 a2 c2] w' fun e' w'' => e' = .returned (.bool (ctrlT p)) ∧ Below w'.heap.size w' w''
  oI : ∀ w', Y.Tb w' → PrIn w' p a1 a2 → Calls Tryz.prog 18 #[prV p a1 c1 a2 c2] w' fun e' w'' => e' = .returned (.bool (indep p)) ∧ Below w'.heap.size w' w''
  ck : ∀ w', Y.Tb w' → PrIn w' p a1 a2 → Calls Tryz.prog 20 #[prV p a1 c1 a2 c2] w' fun e' w'' => e' = .returned (.int .i64 (chk p).2) ∧ Below w'.heap.size w' w''
  nm : ∀ w', Y.Tb w' → PrIn w' p a1 a2 → Calls Tryz.prog 23 #[prV p a1 c1 a2 c2] w' (GivesN w' (names p))
  rT : ∀ w', Y.Tb w' → PrIn w' p a1 a2 → Calls Tryz.prog 13 #[prV p a1 c1 a2 c2] w' (GivesN w' (taint p))
  wk : ∀ w', Y.Tb w' → PrIn w' p a1 a2 → Calls Tryz.prog 26 #[prV p a1 c1 a2 c2] w' fun e' w'' => GivesV w' w' (walk p) e' w''
  len : (names p).length ≤ 2000 ∧ (taint p).length ≤ 2000
theorem taint_len (p : Pr) : (taint p).length ≤ (names p).length := by
  unfold taint
  split
  · exact Nat.zero_le _
  · exact List.length_filter_le _ _
theorem sm_of {p : Pr} {a1 a2 : Option Addr} {c1 c2 : Nat} {m : Nat} (hm : m ≤ 10000) (hok : OkP p) (hc1 : p.params.length ≤ c1) (s : SmP p m) : Sm p a1 a2 c1 c2 := by
  have hb := s.body
  have hp := s.params
  have he : ∀ j (h : j < p.params.length), p.params[j].name.size ≤ 281474976710656 := fun j hj => by have := s.each j hj; omega
  have hck : ∀ w', PrIn w' p a1 a2 → Calls Tryz.prog 20 #[prV p a1 c1 a2 c2] w' fun e' w'' => e' = .returned (.int .i64 (chk p).2) ∧ Below w'.heap.size w' w'' := fun w' k => by
    rw [(Y.chk_main p).1]; exact Y.rCheck_any p a1 a2 c1 c2 hok (by omega) (by omega) w' k
  have hnl : (names p).length ≤ 2000 := by
    unfold names
    have h1 := List.length_filterMap_le A.V.decl (walk p)
    have h2 : (walk p).length ≤ 401 := by unfold walk; rw [List.length_take]; omega
    rw [List.length_append, List.length_map]
    omega
  exact ⟨fun w' t k => oTainted_any p a1 a2 c1 c2 hok (by omega) (by omega) he hc1 w' t k,
    fun w' t k => oKeys_any p a1 a2 c1 c2 hok (by omega) (by omega) he hc1 w' t k,
    fun w' t k => oCtrl_any p a1 a2 c1 c2 hok (by omega) (by omega) he hc1 w' t k,
    fun w' t k => oIndep_any p a1 a2 c1 c2 hok (by omega) (by omega) he hc1 w' t k,
    fun w' _ k => hck w' k,
    fun w' _ k => A.rnames_any p a1 a2 c1 c2 hok (by omega) w' k,
    fun w' _ k => rTaintedP_any p a1 a2 c1 c2 hok w' k hck (fun _ w2 k2 => A.rnames_any p a1 a2 c1 c2 hok (by omega) w2 k2) (fun _ => by omega) (fun _ => hnl),
    fun w' _ k => A.rwalk_any p a1 a2 c1 c2 hok.body hok.bodyLen w' k.body, hnl, Nat.le_trans (taint_len p) hnl⟩
end Go.Proofs.YtnelpgeiioflmaaGreatDoor.F
