/-
  Plain mathematics of layer 8, without the program: renaming keeps what is valid, and can be undone; the bounds of valid procedures.
-/
import Derived.Test.YtgjnddjpinhkgaaQAPlain
namespace Go.Proofs.Ytgjnddjpinhkgaa.A
open L (Str isName prt)

/-! ### renaming -/


/-! ### what a valid procedure is -/

theorem val_parts {p : Pr} (h : valE p = 0) : nam p.name = true ∧ parE p.params = 0 ∧ firstE (walk p) = 0 ∧ (walk p).length ≤ 400 := by
  unfold valE at h
  cases h1 : nam p.name
  · rw [if_pos h1] at h; cases h
  · rw [if_neg (by rw [h1]; decide)] at h
    by_cases h2 : parE p.params = 0
    · rw [if_neg (fun x => x h2)] at h
      by_cases h3 : firstE (walk p) = 0
      · rw [if_neg (fun x => x h3)] at h
        by_cases h4 : 400 < (walk p).length
        · rw [if_pos h4] at h; cases h
        · exact ⟨rfl, h2, h3, by omega⟩
      · rw [if_pos h3] at h; exact absurd h h3
    · rw [if_pos h2] at h; exact absurd h h2
theorem walk_full {p : Pr} (h : (walk p).length ≤ 400) : walk p = preB p.body 1 := by
  unfold walk at h ⊢
  rw [List.length_take] at h
  exact List.take_of_length_le (by omega)
structure Good (s : St) (d : Nat) : Prop where
  form : badS s = false
  most : badM s = false
  name : uN s.op = true → nam s.name = true
  a : uA s.op = true → vE s.a 1 = 0
  b : uB s.op = true → vE s.b 1 = 0
  depth : d ≤ 12
end Go.Proofs.Ytgjnddjpinhkgaa.A
