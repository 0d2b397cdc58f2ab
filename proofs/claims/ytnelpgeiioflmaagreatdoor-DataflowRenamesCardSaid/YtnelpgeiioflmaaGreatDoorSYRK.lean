/-
  Plain mathematics of layer 8: what a renamed procedure fits; what the laws on Rename ask of it.
-/
import Derived.Test.YtnelpgeiioflmaaGreatDoorM08
import Derived.Test.YtnelpgeiioflmaaGreatDoorSAFacts
namespace Go.Proofs.YtnelpgeiioflmaaGreatDoor.A
open L (Str isName prt size_len)

theorem swap_size (f t x : ByteArray) (n : Nat) (h : x.size ≤ n) (ht : t.size ≤ n) : (swap f t x).size ≤ n := by
  unfold swap
  split
  · exact ht
  · exact h
theorem swap_64 (f t x : ByteArray) (ht : t.size ≤ 200) : (swap f t x).size / 64 ≤ x.size / 64 + 3 := by
  unfold swap
  split
  · omega
  · omega
mutual
theorem okE_ren {f t : ByteArray} (ht : t.size ≤ 1000000000000000) : ∀ e : Ex, okE e → okE (renE f t e)
  | .mk o n s l, h => by
    rw [okE] at h
    rw [renE, okE]
    refine ⟨h.1, h.2.1, ?_, by rw [renEs_len]; exact h.2.2.2.1, okEs_ren ht l h.2.2.2.2⟩
    split
    · exact swap_size f t s _ h.2.2.1 ht
    · exact h.2.2.1
theorem okEs_ren {f t : ByteArray} (ht : t.size ≤ 1000000000000000) : ∀ l : List Ex, okEs l → okEs (renEs f t l)
  | [], _ => by rw [renEs, okEs]; trivial
  | e :: r, h => by
    rw [okEs] at h
    rw [renEs, okEs]
    exact ⟨okE_ren ht e h.1, okEs_ren ht r h.2⟩
end
mutual
theorem okS_ren {f t : ByteArray} (ht : t.size ≤ 1000000000000000) : ∀ s : St, okS s → okS (renS f t s)
  | .mk o nm mx a b bd el, h => by
    rw [okS] at h
    obtain ⟨h1, h2, h3, h4, h5, h6, h7, h8, h9⟩ := h
    rw [renS, okS]
    exact ⟨h1, swap_size f t nm _ h2 ht, h3, okE_ren ht a h4, okE_ren ht b h5, by rw [renB_len]; exact h6, okB_ren ht bd h7, by rw [renB_len]; exact h8, okB_ren ht el h9⟩
theorem okB_ren {f t : ByteArray} (ht : t.size ≤ 1000000000000000) : ∀ l : List St, okB l → okB (renB f t l)
  | [], _ => by rw [renB, okB]; trivial
  | s :: r, h => by
    rw [okB] at h
    rw [renB, okB]
    exact ⟨okS_ren ht s h.1, okB_ren ht r h.2⟩
end
mutual
theorem cE_ren {f t : ByteArray} (ht : t.size ≤ 200) : ∀ e : Ex, cE (renE f t e) ≤ 4 * cE e
  | .mk o n s l => by
    rw [renE, cE, cE]
    have h1 := cEs_ren (f := f) ht l
    have h2 := swap_64 f t s ht
    split <;> omega
theorem cEs_ren {f t : ByteArray} (ht : t.size ≤ 200) : ∀ l : List Ex, cEs (renEs f t l) ≤ 4 * cEs l
  | [] => by rw [renEs, cEs]; omega
  | e :: r => by
    have h1 := cE_ren (f := f) ht e
    have h2 := cEs_ren (f := f) ht r
    rw [renEs, cEs, cEs]
    omega
end
mutual
theorem cS_ren {f t : ByteArray} (ht : t.size ≤ 200) : ∀ s : St, cS (renS f t s) ≤ 4 * cS s
  | .mk o nm mx a b bd el => by
    have h0 := swap_64 f t nm ht
    have h1 := cE_ren (f := f) ht a
    have h2 := cE_ren (f := f) ht b
    have h3 := cB_ren (f := f) ht bd
    have h4 := cB_ren (f := f) ht el
    rw [renS, cS, cS]
    omega
theorem cB_ren {f t : ByteArray} (ht : t.size ≤ 200) : ∀ l : List St, cB (renB f t l) ≤ 4 * cB l
  | [] => by rw [renB, cB]; omega
  | s :: r => by
    have h1 := cS_ren (f := f) ht s
    have h2 := cB_ren (f := f) ht r
    rw [renB, cB, cB]
    omega
end
structure SmP (p : Pr) (m : Nat) : Prop where
  params : p.params.length ≤ 40
  name : p.name.size ≤ 200
  each : ∀ j (h : j < p.params.length), p.params[j].name.size ≤ 200
  body : cB p.body ≤ m
theorem small_smp {p : Pr} {m : Nat} (h : small p m = true) : SmP p m := by
  unfold small at h
  simp only [Bool.and_eq_true, decide_eq_true_iff, List.all_eq_true] at h
  obtain ⟨⟨⟨h1, h2⟩, h3⟩, h4⟩ := h
  exact ⟨h1, h2, fun j hj => h3 _ (List.getElem_mem hj), h4⟩
structure Pp (p : Pr) : Prop where
  ok : OkP p
  sz : cB p.body ≤ 900000
  pl : p.params.length ≤ 1000
  nm : p.name.size ≤ 281474976710656
  ps : ∀ j (h : j < p.params.length), p.params[j].name.size ≤ 281474976710656
theorem pp_no : Pp noPr := by
  have h0 : (⟨#[]⟩ : ByteArray).size = 0 := rfl
  refine ⟨⟨by show (⟨#[]⟩ : ByteArray).size ≤ _; omega, Nat.zero_le _, (fun j hj => by cases hj), Nat.zero_le _, ?_⟩, ?_, Nat.zero_le _, by show (⟨#[]⟩ : ByteArray).size ≤ _; omega, (fun j hj => by cases hj)⟩
  · show okB []
    rw [okB]; trivial
  · show cB [] ≤ _
    rw [cB]; omega
theorem pp_ren {p : Pr} {f t : ByteArray} (hok : OkP p) (h : SmP p 600) (ht : t.size ≤ 200) : Pp (ren f t p) := by
  have hl : (ren f t p).params.length = p.params.length := by unfold ren; simp
  have hn : ∀ j (hj : j < (ren f t p).params.length), (ren f t p).params[j].name.size ≤ 200 := fun j hj => by
    have hj2 : j < p.params.length := by omega
    have e : (ren f t p).params[j].name = swap f t p.params[j].name := by simp only [ren, List.getElem_map]
    rw [e]
    exact swap_size f t _ 200 (h.each j hj2) ht
  have hc : cB (ren f t p).body ≤ 4 * cB p.body := cB_ren ht p.body
  have hb := h.body
  have hnm := h.name
  refine ⟨⟨hok.name, by rw [hl]; exact hok.params, fun j hj => by have := hn j hj; omega, by show (renB f t p.body).length ≤ _; rw [renB_len]; exact hok.bodyLen, okB_ren (by omega) p.body hok.body⟩, by omega, by rw [hl]; have := h.params; omega, by show p.name.size ≤ _; omega, fun j hj => by have := hn j hj; omega⟩
theorem pp_rename {p : Pr} {f t : ByteArray} (hok : OkP p) (h : SmP p 600) (ht : t.size ≤ 200) : Pp (rename p f t).1 := by
  unfold rename
  split
  · exact pp_no
  · split
    · exact pp_no
    · split
      · exact pp_no
      · split
        · exact pp_no
        · exact pp_ren hok h ht
end Go.Proofs.YtnelpgeiioflmaaGreatDoor.A
