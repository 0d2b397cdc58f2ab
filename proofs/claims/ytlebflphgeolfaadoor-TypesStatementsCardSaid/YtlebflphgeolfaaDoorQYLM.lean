/-
  The laws of layer 11: the types of the statements: the variables are within what a call asks.
-/
import Derived.Test.YtlebflphgeolfaaDoorQYLK
namespace Go.Proofs.YtlebflphgeolfaaDoor.Y
open Go.RowKit
open L (Str isName prt size_len below_2 below_box ret_bool ret_int eql_eq bytes_eq)
open A (Ex St Pm Pr V arity vE vEs absent exV exO exV_mk Bx okE okEs cE cEs PmsAt StrsAt PrIn OkP prV prO names valE ExsAt ExAt StsAt StAt Bodies RowK Own1 Stays okS okB cS cB preS preB preR preE walk VT vcs vs small)
open P (G Kd On off_of wp_region_G)

theorem vaS_in {out : List Pm} {s : St} {q : Pm} (h : q ∈ vaS out s) : q ∈ out ∨ (s.op = 1 ∧ q.name = s.name) ∨ (s.op = 6 ∧ q.ty = 1) := by
  unfold vaS at h
  by_cases h1 : s.op = 1
  · rw [if_pos h1] at h
    rcases List.mem_append.1 h with h | h
    · exact Or.inl h
    · rw [List.mem_singleton.1 h]; exact Or.inr (Or.inl ⟨h1, rfl⟩)
  · rw [if_neg h1] at h
    by_cases h6 : s.op = 6
    · rw [if_pos h6] at h
      rcases List.mem_append.1 h with h | h
      · exact Or.inl h
      · rw [List.mem_singleton.1 h]; exact Or.inr (Or.inr ⟨h6, rfl⟩)
    · rw [if_neg h6] at h; exact Or.inl h
theorem vaF_in : ∀ (l : List V) (out : List Pm) (q : Pm), q ∈ vaF out l → q ∈ out ∨ ∃ s d, V.st s d ∈ l ∧ ((s.op = 1 ∧ q.name = s.name) ∨ (s.op = 6 ∧ q.ty = 1))
  | [], out, q, h => by rw [vaF] at h; exact Or.inl h
  | .st s d :: r, out, q, h => by
    rw [vaF] at h
    rcases vaF_in r _ q h with h | ⟨s', d', hm, h⟩
    · rcases vaS_in h with h | h
      · exact Or.inl h
      · exact Or.inr ⟨s, d, List.mem_cons_self, h⟩
    · exact Or.inr ⟨s', d', List.mem_cons_of_mem _ hm, h⟩
  | .ex e b :: r, out, q, h => by
    rw [vaF] at h
    rcases vaF_in r _ q h with h | ⟨s', d', hm, h⟩
    · exact Or.inl h
    · exact Or.inr ⟨s', d', List.mem_cons_of_mem _ hm, h⟩
theorem chk_okV {p : Pr} (C : Chk p) : OkV (chk p).1 ∧ (chk p).1.length ≤ 406 := by
  obtain ⟨h1, h2, h3, h4, h5, h6⟩ := val_body C.val
  have hlen : (chk p).1.length = (names p).length := by rw [← C.names, List.length_map]
  have hl : (names p).length ≤ 406 := by rw [names_is C.val, List.length_append, List.length_map]; omega
  have hnd : ((chk p).1.map Pm.name).Nodup := by rw [C.names]; exact C.nd
  refine ⟨⟨by omega, fun q hq => ?_, fun q hq => ?_⟩, by omega⟩
  · have : q.name ∈ names p := by rw [← C.names]; exact List.mem_map.2 ⟨q, hq, rfl⟩
    have := h6 _ this; omega
  · have hq2 := hq
    rw [← C.vars] at hq2
    rcases vaF_in _ _ _ hq2 with h | ⟨s, d, hm, ⟨ho, hn⟩ | ⟨ho, ht⟩⟩
    · have := h3 q h; omega
    · obtain ⟨t, k1, k2, k3, -⟩ := (C.ok _ hm : OkSt _ s).set (Or.inl ho)
      have hl := look_mem hnd hq
      rw [hn, k3] at hl
      have : t = q.ty := Option.some.inj hl
      omega
    · omega
theorem small_fx {p : Pr} {m : Nat} (h : small p m = true) : p.params.length ≤ 40 ∧ (∀ j (h : j < p.params.length), p.params[j].name.size ≤ 281474976710656) ∧ cB p.body ≤ m := by
  unfold small at h
  simp only [Bool.and_eq_true, decide_eq_true_iff, List.all_eq_true] at h
  obtain ⟨⟨⟨h1, h2⟩, h3⟩, h4⟩ := h
  exact ⟨h1, fun j hj => by have := h3 _ (List.getElem_mem hj); omega, h4⟩
end Go.Proofs.YtlebflphgeolfaaDoor.Y
