/-
  Plain mathematics of layer 7, without the program: words, literals, marks and tokens of a text; texts joined of tokens.
-/
import Derived.Test.YteglaeopaocilaaGreatDoorPlain
namespace Go.Proofs.YteglaeopaocilaaGreatDoor.L
open Go.Lib (itoa decDigits)

abbrev Str := List UInt8
def letter (c : UInt8) : Bool := decide (97 ≤ c.toNat) && decide (c.toNat ≤ 122)
def digit (c : UInt8) : Bool := decide (48 ≤ c.toNat) && decide (c.toNat ≤ 57)
def part (c : UInt8) : Bool := letter c || digit c || decide (c.toNat = 95)
def prt (c : UInt8) : Bool := decide (32 ≤ c.toNat) && decide (c.toNat ≤ 126)
def keywords : List Str := [[112, 114, 111, 99], [108, 101, 116], [112, 117, 116], [100, 101, 108, 101, 116, 101], [105, 102], [101, 108, 115, 101], [102, 111, 114], [116, 111], [109, 97, 120], [101, 109, 105, 116], [97, 98, 111, 114, 116], [110, 111, 116], [97, 110, 100], [111, 114], [105, 110, 116], [115, 116, 114], [98, 111, 111, 108], [116, 101, 120, 116], [108, 101, 110], [103, 101, 116, 105, 110, 116], [103, 101, 116, 115, 116, 114], [104, 97, 115], [110, 111, 119], [114, 97, 110, 100, 111, 109], [110, 111, 100, 101]]
def marks : List Str := [[61, 61], [33, 61], [60, 61], [62, 61], [43, 43], [40], [41], [123], [125], [44], [59], [58], [61], [60], [62], [43], [45], [42], [47], [37]]
def isKw (s : Str) : Bool := decide (s ∈ keywords)
def isMark (s : Str) : Bool := decide (s ∈ marks)
def headL (s : Str) : Bool := match s with | [] => false | c :: _ => letter c
def isName (s : Str) : Bool := decide (s.length ≤ 16) && headL s && s.all part && !isKw s
/-- the contents of a literal, written out -/
def esc : Str → Str
  | [] => []
  | c :: r => if c.toNat = 34 ∨ c.toNat = 92 then 92 :: c :: esc r else c :: esc r
def quo (s : Str) : Str := 34 :: (esc s ++ [34])
/-- what Quote returns -/
def qt (s : Str) : Str × Int := if 64 < s.length then ([], 2) else if s.all prt then (quo s, 0) else ([], 1)
structure Tok where
  k : Int
  t : Str
  n : Int
  line : Int
  deriving DecidableEq
def noTok : Tok := ⟨0, [], 0, 0⟩
/-- the rest of a literal read: its contents, what follows it, the error -/
def litr (out : Str) : Str → Str × Str × Int
  | [] => ([], [], 6)
  | c :: r =>
    if c.toNat = 34 then (out, r, 0)
    else if c.toNat = 92 then
      match r with
      | [] => ([], [], 6)
      | d :: r2 => if d.toNat = 34 ∨ d.toNat = 92 then (if out.length = 64 then ([], [], 2) else litr (out ++ [d]) r2) else ([], [], 5)
    else if prt c then (if out.length = 64 then ([], [], 2) else litr (out ++ [c]) r)
    else ([], [], 5)
/-- the token of a word -/
def word (w : Str) : Tok × Int :=
  if headL w then (if isKw w then (⟨2, w, 0, 0⟩, 0) else if isName w then (⟨1, w, 0, 0⟩, 0) else (noTok, 2))
  else if pE w = 0 then (⟨3, [], pV w, 0⟩, 0) else (noTok, pE w)
def mark (l : Str) : Option Str := marks.find? fun m => m.isPrefixOf l
/-- the first token of a text that begins with one -/
def tok (l : Str) : Tok × Str × Int :=
  match l with
  | [] => (noTok, [], 5)
  | c :: r =>
    if c.toNat = 34 then (⟨4, (litr [] r).1, 0, 0⟩, (litr [] r).2.1, (litr [] r).2.2)
    else if part c then ((word ((c :: r).takeWhile part)).1, (c :: r).dropWhile part, (word ((c :: r).takeWhile part)).2)
    else match mark (c :: r) with
      | some m => (⟨5, m, 0, 0⟩, (c :: r).drop m.length, 0)
      | none => (noTok, [], 5)
/-- what is left behind blanks and comments; true: inside of a comment -/
def skp : Bool → Str → Str
  | _, [] => []
  | false, c :: r => if c.toNat = 35 then skp true r else if c.toNat = 32 ∨ c.toNat = 9 ∨ c.toNat = 10 then skp false r else c :: r
  | true, c :: r => if c.toNat = 10 then skp false r else skp true r
/-- the number of line feeds -/
def nf (l : Str) : Nat := l.countP fun c => decide (c.toNat = 10)
abbrev Res := List Tok × Int × Int
def joinT (acc : List Tok) (r : Res) : Res := if r.2.2 ≠ 0 then ([], r.2.1, r.2.2) else (acc ++ r.1, 0, 0)
/-- the tokens of what is left of a text with N line feeds -/
def tkzF : Nat → Nat → Str → Res
  | 0, _, _ => ([], 0, 0)
  | n + 1, N, l =>
    match skp false l with
    | [] => ([], 0, 0)
    | c :: r =>
      if (tok (c :: r)).2.2 ≠ 0 then ([], 1 + (N : Int) - nf (c :: r), (tok (c :: r)).2.2)
      else joinT [{ (tok (c :: r)).1 with line := 1 + (N : Int) - nf (c :: r) }] (tkzF n N (tok (c :: r)).2.1)
def tkz (N : Nat) (l : Str) : Res := tkzF (l.length + 1) N l
/-- what Tokenize returns -/
def tz (s : Str) : Res := if 16384 < s.length then ([], 0, 2) else tkz (nf s) s

/-! ### lengths -/

theorem litr_0 (out : Str) : litr out [] = ([], [], 6) := by rw [litr.eq_def]
theorem litr_q {out r : Str} {c : UInt8} (h : c.toNat = 34) : litr out (c :: r) = (out, r, 0) := by
  rw [litr.eq_def]; simp only; rw [if_pos h]
theorem litr_e0 {out : Str} {c : UInt8} (h : c.toNat = 92) : litr out [c] = ([], [], 6) := by
  rw [litr.eq_def]; simp only; rw [if_neg (by omega), if_pos h]
theorem litr_es {out r : Str} {c d : UInt8} (h : c.toNat = 92) (h2 : ¬ (d.toNat = 34 ∨ d.toNat = 92)) : litr out (c :: d :: r) = ([], [], 5) := by
  rw [litr.eq_def]; simp only; rw [if_neg (by omega), if_pos h, if_neg h2]
theorem litr_el {out r : Str} {c d : UInt8} (h : c.toNat = 92) (h2 : d.toNat = 34 ∨ d.toNat = 92) (h3 : out.length = 64) : litr out (c :: d :: r) = ([], [], 2) := by
  rw [litr.eq_def]; simp only; rw [if_neg (by omega), if_pos h, if_pos h2, if_pos h3]
theorem litr_e {out r : Str} {c d : UInt8} (h : c.toNat = 92) (h2 : d.toNat = 34 ∨ d.toNat = 92) (h3 : ¬ out.length = 64) : litr out (c :: d :: r) = litr (out ++ [d]) r := by
  rw [litr.eq_def]; simp only; rw [if_neg (by omega), if_pos h, if_pos h2, if_neg h3]
theorem litr_ps {out r : Str} {c : UInt8} (h : c.toNat ≠ 34) (h2 : c.toNat ≠ 92) (h3 : prt c = false) : litr out (c :: r) = ([], [], 5) := by
  rw [litr.eq_def]; simp only; rw [if_neg h, if_neg h2, if_neg (by rw [h3]; decide)]
theorem litr_pl {out r : Str} {c : UInt8} (h : c.toNat ≠ 34) (h2 : c.toNat ≠ 92) (h3 : prt c = true) (h4 : out.length = 64) : litr out (c :: r) = ([], [], 2) := by
  rw [litr.eq_def]; simp only; rw [if_neg h, if_neg h2, if_pos h3, if_pos h4]
theorem litr_p {out r : Str} {c : UInt8} (h : c.toNat ≠ 34) (h2 : c.toNat ≠ 92) (h3 : prt c = true) (h4 : ¬ out.length = 64) : litr out (c :: r) = litr (out ++ [c]) r := by
  rw [litr.eq_def]; simp only; rw [if_neg h, if_neg h2, if_pos h3, if_neg h4]
/-- a literal that is read: what was taken, canonically, and what follows -/
theorem litr_ok : ∀ (n : Nat) (l out s rest : Str), l.length ≤ n → out.length ≤ 64 → litr out l = (s, rest, 0) → ∃ x, s = out ++ x ∧ l = esc x ++ 34 :: rest ∧ x.all prt = true ∧ s.length ≤ 64 := by
  intro n
  induction n with
  | zero =>
    intro l out s rest hl _ h
    obtain rfl : l = [] := List.length_eq_zero_iff.1 (by omega)
    rw [litr_0] at h
    exact absurd (show (6 : Int) = 0 from congrArg (fun x : Str × Str × Int => x.2.2) h) (by decide)
  | succ n ih =>
    intro l out s rest hl ho h
    have bad : ∀ (a b : Str) (e : Int), e ≠ 0 → litr out l = (a, b, e) → False := fun a b e he h2 => he (by
      rw [h] at h2
      exact (congrArg (fun x : Str × Str × Int => x.2.2) h2).symm)
    match l with
    | [] => exact (bad _ _ _ (by decide) (litr_0 out)).elim
    | c :: r =>
      by_cases h1 : c.toNat = 34
      · rw [litr_q h1] at h
        obtain ⟨e1, h⟩ := Prod.mk.inj h
        obtain ⟨e2, -⟩ := Prod.mk.inj h
        obtain rfl : c = 34 := UInt8.toNat_inj.1 h1
        exact ⟨[], by rw [← e1]; simp, by rw [← e2]; rfl, rfl, by rw [← e1]; exact ho⟩
      · by_cases h2 : c.toNat = 92
        · match r with
          | [] => exact (bad _ _ _ (by decide) (litr_e0 h2)).elim
          | d :: r2 =>
            by_cases h3 : d.toNat = 34 ∨ d.toNat = 92
            · by_cases h4 : out.length = 64
              · exact (bad _ _ _ (by decide) (litr_el h2 h3 h4)).elim
              · rw [litr_e h2 h3 h4] at h
                obtain ⟨x, g1, g2, g3, g4⟩ := ih r2 _ _ _ (by simp at hl; omega) (by simp; omega) h
                obtain rfl : c = 92 := UInt8.toNat_inj.1 h2
                refine ⟨d :: x, by rw [g1]; simp, ?_, ?_, g4⟩
                · rw [esc, if_pos h3, g2]; rfl
                · rw [List.all_cons, g3, Bool.and_true]; unfold prt; simp; omega
            · exact (bad _ _ _ (by decide) (litr_es h2 h3)).elim
        · cases h3 : prt c
          · exact (bad _ _ _ (by decide) (litr_ps h1 h2 h3)).elim
          · by_cases h4 : out.length = 64
            · exact (bad _ _ _ (by decide) (litr_pl h1 h2 h3 h4)).elim
            · rw [litr_p h1 h2 h3 h4] at h
              obtain ⟨x, g1, g2, g3, g4⟩ := ih r _ _ _ (by simp at hl; omega) (by simp; omega) h
              refine ⟨c :: x, by rw [g1]; simp, ?_, ?_, g4⟩
              · rw [esc, if_neg (fun h => h.elim h1 h2), g2]; rfl
              · rw [List.all_cons, g3, h3]; rfl
/-- a literal written is read again, whatever follows -/
theorem litr_esc : ∀ (x out rest : Str), x.all prt = true → out.length + x.length ≤ 64 → litr out (esc x ++ 34 :: rest) = (out ++ x, rest, 0)
  | [], out, rest, _, _ => by rw [esc, List.nil_append, litr_q (by rfl), List.append_nil]
  | c :: x, out, rest, hp, hl => by
    rw [List.all_cons, Bool.and_eq_true] at hp
    simp only [List.length_cons] at hl
    by_cases h : c.toNat = 34 ∨ c.toNat = 92
    · rw [esc, if_pos h, List.cons_append, List.cons_append, litr_e (by rfl) h (by omega), litr_esc x _ rest hp.2 (by simp; omega)]
      simp
    · rw [esc, if_neg h, List.cons_append, litr_p (fun e => h (Or.inl e)) (fun e => h (Or.inr e)) hp.1 (by omega), litr_esc x _ rest hp.2 (by simp; omega)]
      simp
theorem litr_len {r : Str} (h : (litr [] r).2.2 = 0) : (litr [] r).2.1.length < r.length := by
  obtain ⟨x, _, h2, _⟩ := litr_ok _ r [] (litr [] r).1 (litr [] r).2.1 (Nat.le_refl _) (Nat.zero_le _) (by rw [← h])
  have h3 := congrArg List.length h2
  rw [List.length_append, List.length_cons] at h3
  omega
theorem drop_lt (p : UInt8 → Bool) {c : UInt8} {r : Str} (h : p c = true) : ((c :: r).dropWhile p).length < (c :: r).length := by
  rw [List.dropWhile_cons, if_pos h]
  have := (List.dropWhile_sublist p (l := r)).length_le
  simp only [List.length_cons]; omega
theorem mark_some {l m : Str} (h : mark l = some m) : m ∈ marks ∧ m <+: l :=
  ⟨List.mem_of_find?_eq_some h, List.isPrefixOf_iff_prefix.1 (by have := List.find?_some h; exact this)⟩
theorem marks_all : ∀ m ∈ marks, 1 ≤ m.length ∧ m.length ≤ 2 ∧ (10 : UInt8) ∉ m ∧ m.all prt = true := by decide
theorem tok_len {c : UInt8} {r : Str} (h : (tok (c :: r)).2.2 = 0) : (tok (c :: r)).2.1.length < (c :: r).length := by
  unfold tok at h ⊢
  by_cases h1 : c.toNat = 34
  · simp only [if_pos h1] at h ⊢
    have := litr_len h
    simp only [List.length_cons]; omega
  · simp only [if_neg h1] at h ⊢
    by_cases h2 : part c = true
    · simp only [if_pos h2] at h ⊢
      exact drop_lt part h2
    · simp only [if_neg h2] at h ⊢
      cases hm : mark (c :: r) with
      | none => rw [hm] at h; simp at h
      | some m =>
        have h3 := marks_all m (mark_some hm).1
        simp only [List.length_drop, List.length_cons]
        omega
theorem skp_len (b : Bool) (l : Str) : (skp b l).length ≤ l.length := by
  induction l generalizing b with
  | nil => cases b <;> simp [skp]
  | cons c r ih =>
    cases b
    · rw [skp]
      split
      · exact Nat.le_succ_of_le (ih true)
      · split
        · exact Nat.le_succ_of_le (ih false)
        · exact Nat.le_refl _
    · rw [skp]
      split
      · exact Nat.le_succ_of_le (ih false)
      · exact Nat.le_succ_of_le (ih true)

/-! ### tkz, step by step -/

theorem tkzF_more : ∀ (n m N : Nat) (l : Str), l.length < n → l.length < m → tkzF n N l = tkzF m N l := by
  intro n
  induction n with
  | zero => intro m N l h; exact absurd h (Nat.not_lt_zero _)
  | succ n ih =>
    intro m N l hn hm
    obtain ⟨m, rfl⟩ : ∃ k, m = k + 1 := ⟨m - 1, by omega⟩
    rw [tkzF, tkzF]
    have hl := skp_len false l
    cases hs : skp false l with
    | nil => rfl
    | cons c r =>
      rw [hs] at hl
      simp only
      by_cases he : (tok (c :: r)).2.2 = 0
      · have := tok_len he
        rw [if_neg (fun h => h he), if_neg (fun h => h he), ih m N _ (by omega) (by omega)]
      · rw [if_pos he, if_pos he]
theorem tkz_end {N : Nat} {l : Str} (h : skp false l = []) : tkz N l = ([], 0, 0) := by
  unfold tkz; rw [tkzF, h]
theorem tkz_err {N : Nat} {l : Str} {c : UInt8} {r : Str} (h : skp false l = c :: r) (he : (tok (c :: r)).2.2 ≠ 0) : tkz N l = ([], 1 + (N : Int) - nf (c :: r), (tok (c :: r)).2.2) := by
  unfold tkz; rw [tkzF, h]; simp only; rw [if_pos he]
theorem tkz_ok {N : Nat} {l : Str} {c : UInt8} {r : Str} (h : skp false l = c :: r) (he : (tok (c :: r)).2.2 = 0) :
    tkz N l = joinT [{ (tok (c :: r)).1 with line := 1 + (N : Int) - nf (c :: r) }] (tkz N (tok (c :: r)).2.1) := by
  have h1 := skp_len false l
  rw [h] at h1
  have h2 := tok_len he
  unfold tkz
  rw [tkzF, h]
  simp only
  rw [if_neg (fun x => x he), tkzF_more l.length ((tok (c :: r)).2.1.length + 1) N _ (by omega) (by omega)]
theorem joinT_joinT (a b : List Tok) (r : Res) : joinT a (joinT b r) = joinT (a ++ b) r := by
  unfold joinT
  by_cases h : r.2.2 ≠ 0
  · rw [if_pos h, if_pos h]; simp only; rw [if_pos h]
  · rw [if_neg h, if_neg h]; simp
theorem joinT_ok {a l : List Tok} {r : Res} (h : joinT a r = (l, 0, 0)) : r.2.2 = 0 ∧ a ++ r.1 = l := by
  unfold joinT at h
  by_cases h1 : r.2.2 ≠ 0
  · rw [if_pos h1] at h
    exact absurd (congrArg (fun x : Res => x.2.2) h) h1
  · rw [if_neg h1] at h
    exact ⟨Decidable.byContradiction h1, congrArg Prod.fst h⟩
/-- a result without an error names no line, one with an error no token -/
theorem tkz_form : ∀ (n N : Nat) (l : Str), l.length ≤ n → ((tkz N l).2.2 = 0 → (tkz N l).2.1 = 0) ∧ ((tkz N l).2.2 ≠ 0 → (tkz N l).1 = []) := by
  intro n N l _
  have hj : ∀ (a : List Tok) (r : Res), ((joinT a r).2.2 = 0 → (joinT a r).2.1 = 0) ∧ ((joinT a r).2.2 ≠ 0 → (joinT a r).1 = []) := by
    intro a r
    unfold joinT
    by_cases h : r.2.2 ≠ 0
    · rw [if_pos h]; exact ⟨fun x => absurd x h, fun _ => rfl⟩
    · rw [if_neg h]; exact ⟨fun _ => rfl, fun x => absurd rfl x⟩
  cases hs : skp false l with
  | nil => rw [tkz_end hs]; exact ⟨fun _ => rfl, fun h => absurd rfl h⟩
  | cons c r =>
    by_cases he : (tok (c :: r)).2.2 = 0
    · rw [tkz_ok hs he]; exact hj _ _
    · rw [tkz_err hs he]; exact ⟨fun h => absurd h he, fun _ => rfl⟩
end Go.Proofs.YteglaeopaocilaaGreatDoor.L
