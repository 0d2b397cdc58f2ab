/-
  Plain mathematics of layer 14 over memory: what the nodes of the walk fit; a visit's statement.
-/
import Derived.Test.YtnelpgeiioflmaaGreatDoorM24
import Derived.Test.YtnelpgeiioflmaaGreatDoorM07
namespace Go.Proofs.YtnelpgeiioflmaaGreatDoor.F
open Go.RowKit
open A (Ex St Pm Pr V preE preEs preR preS preB exV okE okEs okS okB VT walk)
open Y (chk)

mutual
theorem ok_inE : ∀ (e : Ex) (r : Bool) (x : Ex) (q : Bool), okE e → V.ex x q ∈ preE e r → okE x
  | .mk o n s l, r, x, q, h, hx => by
    rw [preE] at hx
    rcases List.mem_cons.1 hx with hx | hx
    · injection hx with h1 h2; rw [h1]; exact h
    · rw [okE] at h
      exact ok_inEs l x q h.2.2.2.2 hx
theorem ok_inEs : ∀ (l : List Ex) (x : Ex) (q : Bool), okEs l → V.ex x q ∈ preEs l → okE x
  | [], _, _, _, hx => by rw [preEs] at hx; cases hx
  | e :: r, x, q, h, hx => by
    rw [okEs] at h
    rw [preEs] at hx
    rcases List.mem_append.1 hx with hx | hx
    · exact ok_inE e false x q h.1 hx
    · exact ok_inEs r x q h.2 hx
end
theorem ok_inR {e x : Ex} {q : Bool} (h : okE e) (hx : V.ex x q ∈ preR e) : okE x := ok_inE e true x q h (root_of hx).2.1
def OkV : V → Prop
  | .st s _ => okS s
  | .ex e _ => okE e
mutual
theorem ok_inS : ∀ (s : St) (d : Nat), okS s → ∀ v ∈ preS s d, OkV v
  | .mk o nm mx a b bd el, d, h, v, hv => by
    have ho := A.okS_open h
    rw [preS] at hv
    rcases List.mem_cons.1 hv with hv | hv
    · rw [hv]; exact h
    · simp only [List.mem_append] at hv
      rcases hv with ((hv | hv) | hv) | hv
      · obtain ⟨x, q, rfl⟩ := Y.preR_ex a v hv
        exact ok_inR (show okE a from ho.a) hv
      · obtain ⟨x, q, rfl⟩ := Y.preR_ex b v hv
        exact ok_inR (show okE b from ho.b) hv
      · exact ok_inB bd (d + 1) ho.body v hv
      · exact ok_inB el (d + 1) ho.els v hv
theorem ok_inB : ∀ (l : List St) (d : Nat), okB l → ∀ v ∈ preB l d, OkV v
  | [], _, _, v, hv => by rw [preB] at hv; cases hv
  | s :: r, d, h, v, hv => by
    rw [okB] at h
    rw [preB] at hv
    rcases List.mem_append.1 hv with hv | hv
    · exact ok_inS s d h.1 v hv
    · exact ok_inB r d h.2 v hv
end
theorem ok_walkV {p : Pr} (h : okB p.body) : ∀ v ∈ walk p, OkV v := fun v hv => ok_inB p.body 1 h v (List.mem_of_mem_take hv)
def stOf : V → St
  | .st s _ => s
  | .ex _ _ => .mk 0 ⟨#[]⟩ 0 (.mk 0 0 ⟨#[]⟩ []) (.mk 0 0 ⟨#[]⟩ []) [] []
theorem okE_zero : okE (.mk 0 0 ⟨#[]⟩ []) := by
  rw [okE, okEs]
  exact ⟨by decide, by decide, (show 0 ≤ 1000000000000000 from Nat.zero_le _), Nat.zero_le _, trivial⟩
theorem vt_st (y : VT) {w : World} (h : y.In w) (ho : OkV y.v) : ∃ a1 c1 a2 c2 a3 c3 a4 c4 x0 rest, y.cells = x0 :: ((stF (stOf y.v) a1 c1 a2 c2 a3 c3 a4 c4).toList ++ rest) ∧ A.Kids w a1 (stOf y.v).a.args ∧ A.Kids w a2 (stOf y.v).b.args ∧ okE (stOf y.v).a ∧ okE (stOf y.v).b := by
  cases y with
  | st s d a1 c1 a2 c2 a3 c3 a4 c4 =>
    have h' : A.StKids w s a1 a2 a3 a4 := h
    have ho' := A.okS_open (show okS s from ho)
    exact ⟨a1, c1, a2, c2, a3, c3, a4, c4, _, _, rfl, h'.a, h'.b, ho'.a, ho'.b⟩
  | ex e r a c =>
    refine ⟨none, 0, none, 0, none, 0, none, 0, _, _, rfl, ?_, ?_, okE_zero, okE_zero⟩
    · exact Or.inl rfl
    · exact Or.inl rfl
end Go.Proofs.YtnelpgeiioflmaaGreatDoor.F
