/-
  Plain mathematics of layer 7, without the program: joined tokens are read back; the tokens of a text; two texts with a line feed between them.
-/
import Derived.Test.YteglaeopaocilaaGreatDoorLFacts
import Derived.Lib.ItoaLen
namespace Go.Proofs.YteglaeopaocilaaGreatDoor.L
open Go.Lib (itoa decDigits)

/-! ### skp -/

/-- what is skipped is all blanks and comments: no token begins there -/
theorem skp_suffix (b : Bool) (l : Str) : skp b l <:+ l := by
  induction l generalizing b with
  | nil => cases b <;> simp [skp]
  | cons c r ih =>
    cases b
    · rw [skp]
      split
      · exact (ih true).trans (List.suffix_cons c r)
      · split
        · exact (ih false).trans (List.suffix_cons c r)
        · exact List.suffix_refl _
    · rw [skp]
      split
      · exact (ih false).trans (List.suffix_cons c r)
      · exact (ih true).trans (List.suffix_cons c r)
theorem nf_suffix {a b : Str} (h : a <:+ b) : nf a ≤ nf b := h.sublist.countP_le
/-! ### joined tokens -/

theorem jn_cons (t : Tok) (l : List Tok) : ∃ z, jn (t :: l) = txt t ++ z ∧ ((l = [] ∧ z = []) ∨ (l ≠ [] ∧ z = 32 :: jn l)) := by
  cases l with
  | nil => exact ⟨[], by rw [jn, List.append_nil], Or.inl ⟨rfl, rfl⟩⟩
  | cons u r => exact ⟨32 :: jn (u :: r), by rw [jn], Or.inr ⟨by simp, rfl⟩⟩
theorem txt_len {t : Tok} (h : valid t = true) (hn : t.n ≤ 9223372036854775807) : (txt t).length ≤ 130 := by
  unfold valid at h
  unfold txt
  by_cases k1 : t.k = 1
  · rw [if_pos k1, Bool.and_eq_true] at h
    rw [if_neg (by omega), if_neg (by omega)]
    have := (isName_iff.1 h.1).1
    omega
  · rw [if_neg k1] at h
    by_cases k2 : t.k = 2
    · rw [if_pos k2, Bool.and_eq_true] at h
      rw [if_neg (by omega), if_neg (by omega)]
      have := (kw_all _ (of_decide_eq_true h.1)).2.2.2
      omega
    · rw [if_neg k2] at h
      by_cases k3 : t.k = 3
      · rw [if_pos k3, Bool.and_eq_true] at h
        rw [if_pos k3]
        have h0 : 0 ≤ t.n := of_decide_eq_true h.2
        have hs := Lib.itoa_length_le t.n (by omega) hn
        omega
      · rw [if_neg k3] at h
        rw [if_neg k3]
        by_cases k4 : t.k = 4
        · rw [if_pos k4, Bool.and_eq_true, Bool.and_eq_true] at h
          rw [if_pos k4]
          have h1 : t.t.length ≤ 64 := of_decide_eq_true h.1.1
          have := esc_len t.t
          unfold quo
          rw [List.length_cons, List.length_append]
          simp only [List.length_singleton]
          omega
        · rw [if_neg k4] at h
          rw [if_neg k4]
          by_cases k5 : t.k = 5
          · rw [if_pos k5, Bool.and_eq_true] at h
            have := (marks_all _ (of_decide_eq_true h.1)).2.1
            omega
          · rw [if_neg k5] at h; cases h
/-! ### the tokens of a text -/

/-- what is known of the tokens of a text -/
structure Good (N : Nat) (l : Str) (ts : List Tok) : Prop where
  val : ts.all valid = true
  held : ∀ t ∈ ts, -9223372036854775808 ≤ t.n ∧ t.n ≤ 9223372036854775807
  low : ∀ t ∈ ts, 1 + (N : Int) - nf l ≤ t.line ∧ t.line ≤ 1 + (N : Int)
  up : ts.Pairwise fun t u => t.line ≤ u.line
  len : (jn ts).length ≤ 2 * l.length
  cnt : ts.length ≤ l.length
theorem tkz_good : ∀ (n N : Nat) (l : Str), l.length ≤ n → ∀ ts, tkz N l = (ts, 0, 0) → Good N l ts := by
  intro n
  induction n with
  | zero =>
    intro N l hl ts h
    obtain rfl : l = [] := List.length_eq_zero_iff.1 (by omega)
    rw [tkz_end rfl] at h
    obtain rfl := (Prod.mk.inj h).1
    exact ⟨rfl, fun t ht => (by cases ht), fun t ht => (by cases ht), List.Pairwise.nil, Nat.zero_le _, Nat.zero_le _⟩
  | succ n ih =>
    intro N l hl ts h
    cases hs : skp false l with
    | nil =>
      rw [tkz_end hs] at h
      obtain rfl := (Prod.mk.inj h).1
      exact ⟨rfl, fun t ht => (by cases ht), fun t ht => (by cases ht), List.Pairwise.nil, Nat.zero_le _, Nat.zero_le _⟩
    | cons c r =>
      have hsuf := skp_suffix false l
      rw [hs] at hsuf
      have hle := hsuf.length_le
      have hnf := nf_suffix hsuf
      by_cases he : (tok (c :: r)).2.2 = 0
      · rw [tkz_ok hs he] at h
        obtain ⟨h1, h2⟩ := joinT_ok h
        obtain ⟨b1, b2, b3, b4, b5⟩ := tok_back he
        have hlt := tok_len he
        have hl2 := congrArg List.length b2
        rw [List.length_append] at hl2
        have hn2 : nf (c :: r) = nf (txt (tok (c :: r)).1) + nf (tok (c :: r)).2.1 := by
          have := congrArg nf b2
          rw [nf_app] at this
          exact this
        obtain ⟨_, _, ex, _, _, _, _, hp⟩ := txt_head b1
        rw [nf_prt hp, Nat.zero_add] at hn2
        have hf := tkz_form _ N (tok (c :: r)).2.1 (Nat.le_refl _)
        have hq : tkz N (tok (c :: r)).2.1 = ((tkz N (tok (c :: r)).2.1).1, 0, 0) := by
          have e1 := hf.1 h1
          generalize tkz N (tok (c :: r)).2.1 = q at h1 e1
          obtain ⟨q1, q2, q3⟩ := q
          simp only at h1 e1
          rw [h1, e1]
        have g := ih N _ (by omega) _ hq
        rw [← h2]
        generalize (tkz N (tok (c :: r)).2.1).1 = us at g
        generalize (tok (c :: r)).2.1 = rest at g hn2 hl2
        have hv2 : valid { (tok (c :: r)).1 with line := 1 + (N : Int) - nf (c :: r) } = true := b1
        have ht2 : txt { (tok (c :: r)).1 with line := 1 + (N : Int) - nf (c :: r) } = txt (tok (c :: r)).1 := rfl
        have hpos : 1 ≤ (txt (tok (c :: r)).1).length := by rw [ex]; simp
        refine ⟨?_, ?_, ?_, ?_, ?_, ?_⟩
        · rw [List.singleton_append, List.all_cons, hv2, g.val]; rfl
        · intro t ht
          rw [List.singleton_append] at ht
          rcases List.mem_cons.1 ht with rfl | ht
          · exact ⟨b4, b5⟩
          · exact g.held t ht
        · intro t ht
          rw [List.singleton_append] at ht
          rcases List.mem_cons.1 ht with rfl | ht
          · constructor
            · show _ ≤ 1 + (N : Int) - nf (c :: r); omega
            · show 1 + (N : Int) - nf (c :: r) ≤ _; omega
          · have := g.low t ht
            omega
        · rw [List.singleton_append, List.pairwise_cons]
          refine ⟨fun u hu => ?_, g.up⟩
          have := (g.low u hu).1
          show 1 + (N : Int) - nf (c :: r) ≤ u.line
          omega
        · rw [List.singleton_append]
          obtain ⟨z, e, hz⟩ := jn_cons { (tok (c :: r)).1 with line := 1 + (N : Int) - nf (c :: r) } us
          rw [e, ht2, List.length_append]
          have := g.len
          rcases hz with ⟨_, rfl⟩ | ⟨_, rfl⟩
          · simp; omega
          · rw [List.length_cons]; omega
        · have := g.cnt
          rw [List.singleton_append, List.length_cons]
          omega
      · rw [tkz_err hs he] at h
        exact absurd (congrArg (fun x : Res => x.2.2) h) he

/-! ### two texts with a line feed between them -/

end Go.Proofs.YteglaeopaocilaaGreatDoor.L
