/-
  Plain mathematics of layer 9, without the program: the texts of expressions; their tokens; a text is read as its tokens.
  Plain mathematics of layers 9 and 10, without the program: expressions read from tokens; the tokens of a valid expression are read as it.
  Plain mathematics of layer 9, without the program: the texts of statements and procedures; their tokens; a text is read as its tokens.
  Plain mathematics of layers 9 and 10, without the program: statements and procedures read from tokens; the tokens of a valid procedure are read as it; the text of a valid procedure decides it.
-/
import Derived.Test.YteglaeopaocilaaGreatDoorAFacts
namespace Go.Proofs.YteglaeopaocilaaGreatDoor.P
open L (Str Tok isName prt tok skp quo isKw)
open A
open Go.Lib (itoa)

def lv (o : Int) : Nat := if o = 17 then 1 else if o = 16 then 2 else if o = 18 then 3 else if 10 ≤ o ∧ o ≤ 15 then 4 else if o = 19 then 5 else if o = 4 ∨ o = 5 then 6 else if o = 6 ∨ o = 7 ∨ o = 8 then 7 else if o = 9 then 8 else 9
def sg (o : Int) : Str := if o = 17 then [111, 114] else if o = 16 then [97, 110, 100] else if o = 10 then [61, 61] else if o = 11 then [33, 61] else if o = 12 then [60] else if o = 13 then [60, 61] else if o = 14 then [62] else if o = 15 then [62, 61] else if o = 19 then [43, 43] else if o = 4 then [43] else if o = 5 then [45] else if o = 6 then [42] else if o = 7 then [47] else [37]
def wd (o : Int) : Str := if o = 20 then [116, 101, 120, 116] else if o = 21 then [108, 101, 110] else if o = 22 then [103, 101, 116, 105, 110, 116] else if o = 23 then [103, 101, 116, 115, 116, 114] else if o = 24 then [104, 97, 115] else if o = 25 then [110, 111, 119] else if o = 26 then [114, 97, 110, 100, 111, 109] else [110, 111, 100, 101]
def sNot : Str := [110, 111, 116]
def str (s : ByteArray) : Str := s.data.toList
/-- a text at a level -/
def att (least : Nat) (p : Nat × Str) : Str := if p.1 < least then 40 :: (p.2 ++ [41]) else p.2
def txN (o n : Int) (s : Str) (l : List (Nat × Str)) : Str :=
  if o = 1 then itoa n else if o = 2 then quo s else if o = 3 then s
  else match l with
  | [] => wd o ++ [40, 41]
  | [a] => if o = 18 then sNot ++ 32 :: att 3 a else if o = 9 then 45 :: att 8 a else wd o ++ 40 :: (a.2 ++ [41])
  | a :: b :: _ => if lv o = 4 then att 5 a ++ 32 :: (sg o ++ 32 :: att 5 b) else att (lv o) a ++ 32 :: (sg o ++ 32 :: att (lv o + 1) b)
mutual
/-- the text of an expression -/
def tx : Ex → Str
  | .mk o n s l => txN o n (str s) (txs l)
def txs : List Ex → List (Nat × Str)
  | [] => []
  | e :: r => (lv e.op, tx e) :: txs r
end
/-! the same in tokens -/
def tw (w : Str) : Tok := ⟨if isKw w then 2 else 5, w, 0, 0⟩
def atk (least : Nat) (p : Nat × List Tok) : List Tok := if p.1 < least then tw [40] :: (p.2 ++ [tw [41]]) else p.2
def tkN (o n : Int) (s : Str) (l : List (Nat × List Tok)) : List Tok :=
  if o = 1 then [⟨3, [], n, 0⟩] else if o = 2 then [⟨4, s, 0, 0⟩] else if o = 3 then [⟨1, s, 0, 0⟩]
  else match l with
  | [] => [tw (wd o), tw [40], tw [41]]
  | [a] => if o = 18 then tw sNot :: atk 3 a else if o = 9 then tw [45] :: atk 8 a else tw (wd o) :: tw [40] :: (a.2 ++ [tw [41]])
  | a :: b :: _ => if lv o = 4 then atk 5 a ++ tw (sg o) :: atk 5 b else atk (lv o) a ++ tw (sg o) :: atk (lv o + 1) b
mutual
def tk : Ex → List Tok
  | .mk o n s l => tkN o n (str s) (tks l)
def tks : List Ex → List (Nat × List Tok)
  | [] => []
  | e :: r => (lv e.op, tk e) :: tks r
end
abbrev none8 : ByteArray := ⟨#[]⟩
/-- a valid expression of a height -/
inductive W : Nat → Ex → Prop
  | int (h : Nat) (n : Int) : 0 ≤ n → n ≤ 9223372036854775807 → W (h + 1) (.mk 1 n none8 [])
  | str (h : Nat) (s : ByteArray) : plain s = true → W (h + 1) (.mk 2 0 s [])
  | var (h : Nat) (s : ByteArray) : nam s = true → W (h + 1) (.mk 3 0 s [])
  | nul (h : Nat) (o : Int) : 25 ≤ o → o ≤ 27 → W (h + 1) (.mk o 0 none8 [])
  | neg (h : Nat) (o : Int) (a : Ex) : o = 18 ∨ o = 9 → W h a → W (h + 1) (.mk o 0 none8 [a])
  | call (h : Nat) (o : Int) (a : Ex) : 20 ≤ o → o ≤ 24 → W h a → W (h + 1) (.mk o 0 none8 [a])
  | bin (h : Nat) (o : Int) (a b : Ex) : 4 ≤ o → o ≤ 19 → o ≠ 9 → o ≠ 18 → W h a → W h b → W (h + 1) (.mk o 0 none8 [a, b])

/-! every integer of a tree is an int64 -/
mutual
def nB : Ex → Prop
  | .mk _ n _ l => n ≤ 9223372036854775807 ∧ nBs l
def nBs : List Ex → Prop
  | [] => True
  | e :: r => nB e ∧ nBs r
end
theorem size0 {s : ByteArray} (h : s.size = 0) : s = none8 := by
  obtain ⟨⟨l⟩⟩ := s
  have : l.length = 0 := h
  rw [List.length_eq_zero_iff.1 this]
theorem node_parts' {e : Ex} {d : Nat} (h : nodeE e d = 0) :
    0 ≤ arity e.op ∧ (e.op = 1 ∨ e.n = 0) ∧ (e.op = 2 ∨ e.op = 3 ∨ e.s.size = 0) ∧ (e.op = 3 → nam e.s = true) ∧ 0 ≤ e.n ∧ (e.op = 2 → plain e.s = true) ∧ (e.args.length : Int) = arity e.op ∧ d ≤ 12 := by
  unfold nodeE at h
  by_cases h1 : arity e.op < 0 ∨ (e.op ≠ 1 ∧ e.n ≠ 0) ∨ (e.op ≠ 2 ∧ e.op ≠ 3 ∧ e.s.size ≠ 0)
  · rw [if_pos h1] at h; cases h
  · rw [if_neg h1] at h
    by_cases h2 : e.op = 3 ∧ nam e.s = false
    · rw [if_pos h2] at h; cases h
    · rw [if_neg h2] at h
      by_cases h3 : e.n < 0 ∨ (e.op = 2 ∧ plain e.s = false) ∨ (e.args.length : Int) ≠ arity e.op
      · rw [if_pos h3] at h; cases h
      · rw [if_neg h3] at h
        by_cases h4 : 12 < d
        · rw [if_pos h4] at h; cases h
        · refine ⟨by omega, by omega, by omega, ?_, by omega, ?_, by omega, by omega⟩
          · intro ho
            cases hn : nam e.s
            · exact absurd ⟨ho, hn⟩ h2
            · rfl
          · intro ho
            cases hn : plain e.s
            · exact absurd (Or.inr (Or.inl ⟨ho, hn⟩)) h3
            · rfl
theorem node_parts {o n : Int} {s : ByteArray} {l : List Ex} {d : Nat} (h : nodeE (.mk o n s l) d = 0) :
    0 ≤ arity o ∧ (o = 1 ∨ n = 0) ∧ (o = 2 ∨ o = 3 ∨ s.size = 0) ∧ (o = 3 → nam s = true) ∧ 0 ≤ n ∧ (o = 2 → plain s = true) ∧ (l.length : Int) = arity o ∧ d ≤ 12 := node_parts' h
theorem vE_parts {o n : Int} {s : ByteArray} {l : List Ex} {d : Nat} (h : vE (.mk o n s l) d = 0) : nodeE (.mk o n s l) d = 0 ∧ vEs l (d + 1) = 0 := by
  rw [vE] at h
  by_cases h1 : nodeE (.mk o n s l) d = 0
  · rw [if_neg (fun x => x h1)] at h; exact ⟨h1, h⟩
  · rw [if_pos h1] at h; exact absurd h h1
theorem vEs_parts {e : Ex} {r : List Ex} {d : Nat} (h : vEs (e :: r) d = 0) : vE e d = 0 ∧ vEs r d = 0 := by
  rw [vEs] at h
  by_cases h1 : vE e d = 0
  · rw [if_neg (fun x => x h1)] at h; exact ⟨h1, h⟩
  · rw [if_pos h1] at h; exact absurd h h1
theorem w_of : ∀ (m : Nat) (e : Ex) (d : Nat), m + d = 13 → vE e d = 0 → nB e → W m e
  | 0, .mk o n s l, d, hm, h, _ => by
    have := (node_parts (vE_parts h).1).2.2.2.2.2.2.2
    omega
  | m + 1, .mk o n s l, d, hm, h, hb => by
    obtain ⟨h1, h2⟩ := vE_parts h
    obtain ⟨a1, a2, a3, a4, a5, a6, a7, a8⟩ := node_parts h1
    rw [nB] at hb
    obtain ⟨b1, b2⟩ := hb
    have ar : arity o = 0 ∨ arity o = 1 ∨ arity o = 2 := by
      unfold arity at a1 ⊢
      split
      · exact Or.inl rfl
      · rename_i x1
        rw [if_neg x1] at a1
        split
        · exact Or.inr (Or.inl rfl)
        · rename_i x2
          rw [if_neg x2] at a1
          split
          · exact Or.inr (Or.inr rfl)
          · rename_i x3
            rw [if_neg x3] at a1
            exact absurd a1 (by decide)
    rcases ar with ar | ar | ar
    · rw [ar] at a7
      obtain rfl : l = [] := List.length_eq_zero_iff.1 (by omega)
      have ho : o = 1 ∨ o = 2 ∨ o = 3 ∨ o = 25 ∨ o = 26 ∨ o = 27 := by
        unfold arity at ar
        split at ar
        · assumption
        · split at ar
          · cases ar
          · split at ar <;> cases ar
      by_cases o1 : o = 1
      · subst o1
        obtain rfl := size0 (by omega : s.size = 0)
        exact .int m n a5 b1
      · obtain rfl : n = 0 := by omega
        by_cases o2 : o = 2
        · subst o2; exact .str m s (a6 rfl)
        · by_cases o3 : o = 3
          · subst o3; exact .var m s (a4 rfl)
          · obtain rfl := size0 (by omega : s.size = 0)
            exact .nul m o (by omega) (by omega)
    · rw [ar] at a7
      obtain ⟨x, rfl⟩ := List.length_eq_one_iff.1 (by omega : l.length = 1)
      have ho : o = 9 ∨ o = 18 ∨ o = 20 ∨ o = 21 ∨ o = 22 ∨ o = 23 ∨ o = 24 := by
        unfold arity at ar
        split at ar
        · cases ar
        · split at ar
          · assumption
          · split at ar <;> cases ar
      obtain rfl : n = 0 := by omega
      obtain rfl := size0 (by omega : s.size = 0)
      rw [nBs] at b2
      have ih := w_of m x (d + 1) (by omega) (vEs_parts h2).1 b2.1
      by_cases o9 : o = 18 ∨ o = 9
      · exact .neg m o x o9 ih
      · exact .call m o x (by omega) (by omega) ih
    · rw [ar] at a7
      obtain ⟨x, y, rfl⟩ : ∃ x y, l = [x, y] := by
        match l, a7 with
        | [x, y], _ => exact ⟨x, y, rfl⟩
        | [], h => simp at h
        | [_], h => simp at h
        | _ :: _ :: _ :: _, h => simp at h; omega
      have ho : 4 ≤ o ∧ o ≤ 19 ∧ o ≠ 9 ∧ o ≠ 18 := by
        unfold arity at ar
        split at ar
        · cases ar
        · split at ar
          · cases ar
          · split at ar
            · omega
            · cases ar
      obtain rfl : n = 0 := by omega
      obtain rfl := size0 (by omega : s.size = 0)
      rw [nBs, nBs] at b2
      obtain ⟨c1, c2⟩ := vEs_parts h2
      exact .bin m o x y ho.1 ho.2.1 ho.2.2.1 ho.2.2.2 (w_of m x (d + 1) (by omega) c1 b2.1) (w_of m y (d + 1) (by omega) (vEs_parts c2).1 b2.2.1)

/-! ### reading -/

/-- s is read as the tokens l, and r is left -/
inductive Lx : Str → List Tok → Str → Prop
  | nil (s : Str) : Lx s [] s
  | cons {s t r q : Str} {c : UInt8} {k : Tok} {l : List Tok} : skp false s = c :: t → tok (c :: t) = (k, r, 0) → Lx r l q → Lx s (k :: l) q
theorem Lx.app {s r q : Str} {l m : List Tok} (h : Lx s l r) (h2 : Lx r m q) : Lx s (l ++ m) q := by
  induction h with
  | nil s => exact h2
  | cons a b _ ih => exact .cons a b (ih h2)
theorem Lx.sp {s r : Str} {k : Tok} {l : List Tok} (h : Lx s (k :: l) r) : Lx (32 :: s) (k :: l) r := by
  cases h with
  | cons a b c => exact .cons (by rw [skp, if_neg (by decide), if_pos (by decide), a]) b c
theorem Lx.lf {s r : Str} {k : Tok} {l : List Tok} (h : Lx s (k :: l) r) : Lx (10 :: s) (k :: l) r := by
  cases h with
  | cons a b c => exact .cons (by rw [skp, if_neg (by decide), if_pos (by decide), a]) b c
def Np (r : Str) : Prop := ∀ c z, r = c :: z → L.part c = false
theorem skp_id {c : UInt8} {t : Str} (h : c.toNat ≠ 35 ∧ c.toNat ≠ 32 ∧ c.toNat ≠ 9 ∧ c.toNat ≠ 10) : skp false (c :: t) = c :: t := by
  rw [skp, if_neg (by omega), if_neg (by omega)]
theorem Lx.word {w r : Str} {k : Tok} (hw : w.all L.part = true) (hn : w ≠ []) (hr : Np r) (hk : L.word w = (k, 0)) : Lx (w ++ r) [k] r := by
  cases w with
  | nil => exact absurd rfl hn
  | cons c w =>
    have hc : L.part c = true := by rw [List.all_cons, Bool.and_eq_true] at hw; exact hw.1
    have := L.part_iff.1 hc
    refine .cons (c := c) (t := w ++ r) (skp_id (by omega)) ?_ (.nil r)
    rw [← List.cons_append, L.tok_words hw hn hr, hk]
theorem Lx.kw {w r : Str} (h : w ∈ L.keywords) (hr : Np r) : Lx (w ++ r) [tw w] r := by
  obtain ⟨g2, g3, g4, _⟩ := L.kw_all w h
  have hk : isKw w = true := decide_eq_true h
  refine .word g3 (fun e => by rw [e] at g4; exact absurd g4 (by decide)) hr ?_
  rw [L.word_kw hk]; unfold tw; rw [if_pos hk]
theorem Lx.name {w r : Str} (h : isName w = true) (hr : Np r) : Lx (w ++ r) [⟨1, w, 0, 0⟩] r := by
  obtain ⟨_, g2, g3, _⟩ := L.isName_iff.1 h
  exact .word g3 (fun e => by rw [e] at g2; cases g2) hr (L.word_name h)
theorem Lx.int {n : Int} {r : Str} (h : 0 ≤ n) (h2 : n ≤ 9223372036854775807) (hr : Np r) : Lx (itoa n ++ r) [⟨3, [], n, 0⟩] r := by
  obtain ⟨c, z, e, hd, hp⟩ := L.dec_cons n.natAbs
  have e2 : itoa n = c :: z := by rw [L.itoa_nat h, e]
  exact .word (by rw [e2]; exact hp) (by rw [e2]; simp) hr (L.word_int h h2)
theorem Lx.lit {s r : Str} (h : s.all prt = true) (h2 : s.length ≤ 64) : Lx (quo s ++ r) [⟨4, s, 0, 0⟩] r := by
  have g := L.litr_esc s [] r h (by simp; omega)
  rw [List.nil_append] at g
  refine .cons (c := 34) (t := L.esc s ++ 34 :: r) ?_ ?_ (.nil r)
  · unfold quo; rw [List.cons_append, List.append_assoc]; exact skp_id (by decide)
  · unfold tok; simp only; rw [if_pos (by decide), g]
theorem marks_heads : ∀ m ∈ L.marks, ∃ c t, m = c :: t ∧ (c.toNat ≠ 35 ∧ c.toNat ≠ 32 ∧ c.toNat ≠ 9 ∧ c.toNat ≠ 10) := by
  intro m hm
  simp only [L.marks, List.mem_cons, List.not_mem_nil, or_false] at hm
  rcases hm with rfl | rfl | rfl | rfl | rfl | rfl | rfl | rfl | rfl | rfl | rfl | rfl | rfl | rfl | rfl | rfl | rfl | rfl | rfl | rfl <;> exact ⟨_, _, rfl, by decide⟩
theorem mark_tw : ∀ m ∈ L.marks, tw m = ⟨5, m, 0, 0⟩ := by decide
theorem Lx.mark {m r : Str} (hm : m ∈ L.marks) (hr : L.Sep r) : Lx (m ++ r) [tw m] r := by
  obtain ⟨c, t, rfl, hc⟩ := marks_heads m hm
  rw [mark_tw _ hm]
  exact .cons (c := c) (t := t ++ r) (skp_id hc) (by rw [← List.cons_append, L.tok_mark hm hr]) (.nil r)
theorem Lx.one {c : UInt8} (hc : c = 40 ∨ c = 41 ∨ c = 45) (r : Str) : Lx (c :: r) [tw [c]] r := by
  rcases hc with rfl | rfl | rfl <;> exact .cons (skp_id (by decide)) rfl (.nil r)
theorem np_sp (r : Str) : Np (32 :: r) := fun c z e => by cases e; decide
theorem np_cl (r : Str) : Np (41 :: r) := fun c z e => by cases e; decide
theorem np_op (r : Str) : Np (40 :: r) := fun c z e => by cases e; decide
theorem sep_sp (r : Str) : L.Sep (32 :: r) := Or.inr ⟨32, r, rfl, Or.inl rfl⟩
/-- a sign between two spaces -/
theorem Lx.sign {o : Int} (h : 4 ≤ o) (h2 : o ≤ 19) (h3 : o ≠ 9) (h4 : o ≠ 18) (r : Str) : Lx (sg o ++ 32 :: r) [tw (sg o)] (32 :: r) := by
  have : o = 4 ∨ o = 5 ∨ o = 6 ∨ o = 7 ∨ o = 8 ∨ o = 10 ∨ o = 11 ∨ o = 12 ∨ o = 13 ∨ o = 14 ∨ o = 15 ∨ o = 16 ∨ o = 17 ∨ o = 19 := by omega
  rcases this with rfl | rfl | rfl | rfl | rfl | rfl | rfl | rfl | rfl | rfl | rfl | rfl | rfl | rfl
  case inr.inr.inr.inr.inr.inr.inr.inr.inr.inr.inr.inl => exact Lx.kw (by decide) (np_sp r)
  case inr.inr.inr.inr.inr.inr.inr.inr.inr.inr.inr.inr.inl => exact Lx.kw (by decide) (np_sp r)
  all_goals exact Lx.mark (by decide) (sep_sp r)
theorem wd_kw {o : Int} (h : 20 ≤ o) (h2 : o ≤ 27) : wd o ∈ L.keywords := by
  have : o = 20 ∨ o = 21 ∨ o = 22 ∨ o = 23 ∨ o = 24 ∨ o = 25 ∨ o = 26 ∨ o = 27 := by omega
  rcases this with rfl | rfl | rfl | rfl | rfl | rfl | rfl | rfl <;> decide
/-- every expression has a token -/
theorem atk_lx {least : Nat} {p : Nat × Str} {q : Nat × List Tok} (h1 : p.1 = q.1) (h : ∀ r, Np r → Lx (p.2 ++ r) q.2 r) {r : Str} (hr : Np r) : Lx (att least p ++ r) (atk least q) r := by
  unfold att atk
  rw [h1]
  by_cases hl : q.1 < least
  · rw [if_pos hl, if_pos hl, List.cons_append, List.append_assoc]
    exact (Lx.one (Or.inl rfl) _).app ((h _ (np_cl r)).app (Lx.one (Or.inr (Or.inl rfl)) r))
  · rw [if_neg hl, if_neg hl]; exact h r hr
theorem tkN_ne (o n : Int) (s : Str) (l : List (Nat × List Tok)) (hl : ∀ p ∈ l, p.2 ≠ []) : tkN o n s l ≠ [] := by
  have ha : ∀ m (p : Nat × List Tok), p ∈ l → atk m p ≠ [] := fun m p hp => by
    unfold atk
    split
    · simp
    · exact hl p hp
  unfold tkN
  split
  · simp
  · split
    · simp
    · split
      · simp
      · split
        · simp
        · split
          · simp
          · split <;> simp
        · split <;> simp
mutual
theorem tk_ne : ∀ e : Ex, tk e ≠ []
  | .mk o n s l => by rw [tk]; exact tkN_ne _ _ _ _ (tks_ne l)
theorem tks_ne : ∀ l : List Ex, ∀ p ∈ tks l, p.2 ≠ []
  | [], p, hp => by rw [tks] at hp; cases hp
  | e :: r, p, hp => by
    rw [tks] at hp
    rcases List.mem_cons.1 hp with rfl | h
    · exact tk_ne e
    · exact tks_ne r p h
end
theorem atk_ne (m : Nat) (e : Ex) : atk m (lv e.op, tk e) ≠ [] := by
  unfold atk
  split
  · simp
  · exact tk_ne e
theorem Lx.sp' {s r : Str} {l : List Tok} (h : Lx s l r) (hl : l ≠ []) : Lx (32 :: s) l r := by
  cases l with
  | nil => exact absurd rfl hl
  | cons k l => exact h.sp
/-- the text of an expression is read as its tokens -/
theorem tx_lx {h : Nat} {e : Ex} (hw : W h e) : ∀ r, Np r → Lx (tx e ++ r) (tk e) r := by
  induction hw with
  | int h n h1 h2 => intro r hr; exact Lx.int h1 h2 hr
  | str h s hp =>
    intro r hr
    unfold plain at hp
    rw [Bool.and_eq_true] at hp
    exact Lx.lit hp.2 (of_decide_eq_true hp.1)
  | var h s hn => intro r hr; exact Lx.name hn hr
  | nul h o h1 h2 =>
    intro r hr
    rw [tx, tk, txs, tks]
    unfold txN tkN
    rw [if_neg (by omega), if_neg (by omega), if_neg (by omega), if_neg (by omega), if_neg (by omega), if_neg (by omega)]
    simp only
    rw [List.append_assoc]
    exact (Lx.kw (wd_kw (by omega) h2) (np_op _)).app ((Lx.one (Or.inl rfl) _).app (Lx.one (Or.inr (Or.inl rfl)) r))
  | neg h o a ho _ ih =>
    intro r hr
    have ia := fun m => atk_lx (least := m) (p := (lv a.op, tx a)) (q := (lv a.op, tk a)) rfl ih hr
    rw [tx, tk, txs, tks, txs, tks]
    unfold txN tkN
    rw [if_neg (by omega), if_neg (by omega), if_neg (by omega), if_neg (by omega), if_neg (by omega), if_neg (by omega)]
    simp only
    by_cases h18 : o = 18
    · rw [if_pos h18, if_pos h18, List.append_assoc]
      exact (Lx.kw (by decide) (np_sp _)).app ((ia 3).sp' (atk_ne 3 a))
    · rw [if_neg h18, if_neg h18, if_pos (by omega), if_pos (by omega)]
      exact (Lx.one (Or.inr (Or.inr rfl)) _).app (ia 8)
  | call h o a h1 h2 _ ih =>
    intro r hr
    rw [tx, tk, txs, tks, txs, tks]
    unfold txN tkN
    rw [if_neg (by omega), if_neg (by omega), if_neg (by omega), if_neg (by omega), if_neg (by omega), if_neg (by omega)]
    simp only
    rw [if_neg (by omega), if_neg (by omega), if_neg (by omega), if_neg (by omega), List.append_assoc, List.cons_append, List.append_assoc]
    exact (Lx.kw (wd_kw h1 (by omega)) (np_op _)).app ((Lx.one (Or.inl rfl) _).app ((ih _ (np_cl r)).app (Lx.one (Or.inr (Or.inl rfl)) r)))
  | bin h o a b h1 h2 h3 h4 _ _ iha ihb =>
    intro r hr
    have ia := fun m r (hr : Np r) => atk_lx (least := m) (p := (lv a.op, tx a)) (q := (lv a.op, tk a)) rfl iha hr
    have ib := fun m => atk_lx (least := m) (p := (lv b.op, tx b)) (q := (lv b.op, tk b)) rfl ihb hr
    have key : ∀ m1 m2, Lx ((att m1 (lv a.op, tx a) ++ 32 :: (sg o ++ 32 :: att m2 (lv b.op, tx b))) ++ r) (atk m1 (lv a.op, tk a) ++ tw (sg o) :: atk m2 (lv b.op, tk b)) r := by
      intro m1 m2
      rw [List.append_assoc, List.cons_append, List.append_assoc, List.cons_append]
      exact (ia m1 _ (np_sp _)).app (((Lx.sign h1 h2 h3 h4 _).sp).app ((ib m2).sp' (atk_ne m2 b)))
    rw [tx, tk, txs, tks, txs, tks, txs, tks]
    unfold txN tkN
    rw [if_neg (by omega), if_neg (by omega), if_neg (by omega), if_neg (by omega), if_neg (by omega), if_neg (by omega)]
    simp only
    split
    · exact key 5 5
    · exact key _ _
end Go.Proofs.YteglaeopaocilaaGreatDoor.P
namespace Go.Proofs.YteglaeopaocilaaGreatDoor.P
open L (Str Tok)
open A

/-- what a symbol of the grammar yields: a tree and what follows it, or an error and where it occurs -/
inductive R (α : Type) where
  | ok (a : α) (r : List Tok)
  | no (r : List Tok) (e : Int)
abbrev T := List Tok
def isW (l : T) (w : Str) : Bool := match l with | [] => false | t :: _ => (decide (t.k = 2) || decide (t.k = 5)) && decide (t.t = w)
def wrong (l : T) : Int := if l.isEmpty then 6 else 5
def signs : List (Str × Int) := [([111, 114], 17), ([97, 110, 100], 16), ([61, 61], 10), ([33, 61], 11), ([60], 12), ([60, 61], 13), ([62], 14), ([62, 61], 15), ([43, 43], 19), ([43], 4), ([45], 5), ([42], 6), ([47], 7), ([37], 8)]
def calls : List (Str × Int) := [([116, 101, 120, 116], 20), ([108, 101, 110], 21), ([103, 101, 116, 105, 110, 116], 22), ([103, 101, 116, 115, 116, 114], 23), ([104, 97, 115], 24), ([110, 111, 119], 25), ([114, 97, 110, 100, 111, 109], 26), ([110, 111, 100, 101], 27)]
def findW (tab : List (Str × Int)) (l : T) : Int := match tab.find? fun p => isW l p.1 with | some p => p.2 | none => 0
def sgn (l : T) : Int := findW signs l
def bin (l : T) (lev : Nat) : Int := if sgn l ≠ 0 ∧ lv (sgn l) = lev then sgn l else 0
def pre (l : T) (lev : Nat) : Int := if lev = 3 ∧ isW l sNot = true then 18 else if lev = 8 ∧ isW l [45] = true then 9 else 0
def callOp (l : T) : Int := findW calls l
def ap (o : Int) (l : List Ex) : Ex := .mk o 0 none8 l
/-- an expression of one token -/
def leaf (l : T) : Option Ex := match l with
  | [] => none
  | t :: _ => if t.k = 3 then some (.mk 1 t.n none8 []) else if t.k = 4 then some (.mk 2 0 ⟨t.t.toArray⟩ []) else if t.k = 1 then some (.mk 3 0 ⟨t.t.toArray⟩ []) else none
mutual
def pX : Nat → Nat → Nat → T → R Ex
  | 0, _, _, l => .no l 0
  | f + 1, lev, n, l =>
    if lev = 9 then pU f n l
    else if pre l lev ≠ 0 then
      if n = 24 then .no l 2
      else match pX f lev (n + 1) l.tail with
        | .ok e r => .ok (ap (pre l lev) [e]) r
        | .no r x => .no r x
    else match pX f (lev + 1) n l with
      | .ok e r => pL f lev n e r
      | .no r x => .no r x
def pL : Nat → Nat → Nat → Ex → T → R Ex
  | 0, _, _, _, l => .no l 0
  | f + 1, lev, n, e, l =>
    if bin l lev = 0 then .ok e l
    else match pX f (lev + 1) n l.tail with
      | .ok e2 r => if lev = 4 then .ok (ap (bin l lev) [e, e2]) r else pL f lev n (ap (bin l lev) [e, e2]) r
      | .no r x => .no r x
def pI : Nat → Nat → T → R Ex
  | 0, _, l => .no l 0
  | f + 1, n, l =>
    if isW l [40] = true then
      match pX f 1 n l.tail with
      | .ok e r => if isW r [41] = true then .ok e r.tail else .no r (wrong r)
      | .no r x => .no r x
    else .no l (wrong l)
def pU : Nat → Nat → T → R Ex
  | 0, _, l => .no l 0
  | f + 1, n, l =>
    match leaf l with
    | some e => .ok e l.tail
    | none =>
      if 25 ≤ callOp l then
        if isW l.tail [40] = true then (if isW l.tail.tail [41] = true then .ok (ap (callOp l) []) l.tail.tail.tail else .no l.tail.tail (wrong l.tail.tail)) else .no l.tail (wrong l.tail)
      else if callOp l = 0 ∧ isW l [40] = false then .no l (wrong l)
      else if n = 24 then .no l 2
      else if callOp l = 0 then pI f (n + 1) l
      else match pI f (n + 1) l.tail with
        | .ok e r => .ok (ap (callOp l) [e]) r
        | .no r x => .no r x
end
def PX (lev n : Nat) (l : T) (r : R Ex) : Prop := ∃ F, ∀ f, F ≤ f → pX f lev n l = r
def PL (lev n : Nat) (e : Ex) (l : T) (r : R Ex) : Prop := ∃ F, ∀ f, F ≤ f → pL f lev n e l = r
def PI (n : Nat) (l : T) (r : R Ex) : Prop := ∃ F, ∀ f, F ≤ f → pI f n l = r
def PU (n : Nat) (l : T) (r : R Ex) : Prop := ∃ F, ∀ f, F ≤ f → pU f n l = r
theorem PX.unique {lev n : Nat} {l : T} {r q : R Ex} (h : PX lev n l r) (h2 : PX lev n l q) : r = q := by
  obtain ⟨F, h⟩ := h
  obtain ⟨G, h2⟩ := h2
  rw [← h (F + G) (by omega), h2 (F + G) (by omega)]
theorem succ_of {F f : Nat} (h : F + 1 ≤ f) : ∃ k, f = k + 1 ∧ F ≤ k := ⟨f - 1, by omega, by omega⟩

/-! ### the rules -/

theorem PX.unit {n : Nat} {l : T} {r : R Ex} (h : PU n l r) : PX 9 n l r := by
  obtain ⟨F, h⟩ := h
  refine ⟨F + 1, fun f hf => ?_⟩
  obtain ⟨k, rfl, hk⟩ := succ_of hf
  rw [pX, if_pos rfl, h k hk]
theorem PX.pre {lev n : Nat} {l r : T} {e : Ex} {o : Int} (h9 : lev ≠ 9) (ho : P.pre l lev = o) (h0 : o ≠ 0) (hn : n ≠ 24) (h : PX lev (n + 1) l.tail (.ok e r)) : PX lev n l (.ok (ap o [e]) r) := by
  obtain ⟨F, h⟩ := h
  refine ⟨F + 1, fun f hf => ?_⟩
  obtain ⟨k, rfl, hk⟩ := succ_of hf
  rw [pX, if_neg h9, ho, if_pos h0, if_neg hn, h k hk]
theorem PX.down {lev n : Nat} {l r : T} {e : Ex} {q : R Ex} (h9 : lev ≠ 9) (ho : P.pre l lev = 0) (h : PX (lev + 1) n l (.ok e r)) (h2 : PL lev n e r q) : PX lev n l q := by
  obtain ⟨F, h⟩ := h
  obtain ⟨G, h2⟩ := h2
  refine ⟨F + G + 1, fun f hf => ?_⟩
  obtain ⟨k, rfl, hk⟩ := succ_of hf
  rw [pX, if_neg h9, ho, if_neg (fun x => x rfl), h k (by omega)]
  exact h2 k (by omega)
theorem PL.stop {lev n : Nat} {e : Ex} {l : T} (h : bin l lev = 0) : PL lev n e l (.ok e l) := by
  refine ⟨1, fun f hf => ?_⟩
  obtain ⟨k, rfl, hk⟩ := succ_of hf
  rw [pL, if_pos h]
theorem PL.go {lev n : Nat} {e e2 : Ex} {l r : T} {o : Int} {q : R Ex} (ho : bin l lev = o) (h0 : o ≠ 0) (h4 : lev ≠ 4) (h : PX (lev + 1) n l.tail (.ok e2 r)) (h2 : PL lev n (ap o [e, e2]) r q) : PL lev n e l q := by
  obtain ⟨F, h⟩ := h
  obtain ⟨G, h2⟩ := h2
  refine ⟨F + G + 1, fun f hf => ?_⟩
  obtain ⟨k, rfl, hk⟩ := succ_of hf
  rw [pL, ho, if_neg h0, h k (by omega)]
  simp only
  rw [if_neg h4]
  exact h2 k (by omega)
theorem PL.four {n : Nat} {e e2 : Ex} {l r : T} {o : Int} (ho : bin l 4 = o) (h0 : o ≠ 0) (h : PX 5 n l.tail (.ok e2 r)) : PL 4 n e l (.ok (ap o [e, e2]) r) := by
  obtain ⟨F, h⟩ := h
  refine ⟨F + 1, fun f hf => ?_⟩
  obtain ⟨k, rfl, hk⟩ := succ_of hf
  rw [pL, ho, if_neg h0, h k (by omega)]
  simp only
  rw [if_pos trivial]
theorem PI.ok {n : Nat} {l r : T} {e : Ex} (h1 : isW l [40] = true) (h : PX 1 n l.tail (.ok e r)) (h2 : isW r [41] = true) : PI n l (.ok e r.tail) := by
  obtain ⟨F, h⟩ := h
  refine ⟨F + 1, fun f hf => ?_⟩
  obtain ⟨k, rfl, hk⟩ := succ_of hf
  rw [pI, if_pos h1, h k (by omega)]
  simp only
  rw [if_pos h2]
theorem PU.leaf {n : Nat} {l : T} {e : Ex} (h : P.leaf l = some e) : PU n l (.ok e l.tail) := by
  refine ⟨1, fun f hf => ?_⟩
  obtain ⟨k, rfl, hk⟩ := succ_of hf
  rw [pU, h]
theorem PU.nul {n : Nat} {l : T} {o : Int} (h : P.leaf l = none) (ho : callOp l = o) (h25 : 25 ≤ o) (h1 : isW l.tail [40] = true) (h2 : isW l.tail.tail [41] = true) : PU n l (.ok (ap o []) l.tail.tail.tail) := by
  refine ⟨1, fun f hf => ?_⟩
  obtain ⟨k, rfl, hk⟩ := succ_of hf
  rw [pU, h, ho]
  simp only
  rw [if_pos h25, if_pos h1, if_pos h2]
theorem PU.par {n : Nat} {l : T} {q : R Ex} (h : P.leaf l = none) (ho : callOp l = 0) (hp : isW l [40] = true) (hn : n ≠ 24) (h2 : PI (n + 1) l q) : PU n l q := by
  obtain ⟨F, h2⟩ := h2
  refine ⟨F + 1, fun f hf => ?_⟩
  obtain ⟨k, rfl, hk⟩ := succ_of hf
  rw [pU, h, ho]
  simp only
  rw [if_neg (by decide), if_neg (by rw [hp]; decide), if_neg hn, if_pos trivial]
  exact h2 k hk
theorem PU.call {n : Nat} {l r : T} {e : Ex} {o : Int} (h : P.leaf l = none) (ho : callOp l = o) (h0 : o ≠ 0) (h25 : o < 25) (hn : n ≠ 24) (h2 : PI (n + 1) l.tail (.ok e r)) : PU n l (.ok (ap o [e]) r) := by
  obtain ⟨F, h2⟩ := h2
  refine ⟨F + 1, fun f hf => ?_⟩
  obtain ⟨k, rfl, hk⟩ := succ_of hf
  rw [pU, h, ho]
  simp only
  rw [if_neg (by omega), if_neg (fun x => h0 x.1), if_neg hn, if_neg h0, h2 k hk]

/-! ### the tokens of an expression -/

def Fol (lev : Nat) (l : T) : Prop := ∀ j, lev ≤ j → bin l j = 0
theorem Fol.up {a b : Nat} {l : T} (h : Fol a l) (hab : a ≤ b) : Fol b l := fun j hj => h j (by omega)
theorem fol_of {l : T} (h : sgn l = 0) (lev : Nat) : Fol lev l := fun j _ => by unfold bin; rw [if_neg (fun x => x.1 h)]
theorem isW_app {k : Tok} {l r : T} (w : Str) : isW (k :: l ++ r) w = isW [k] w := rfl
/-- from a level down to a lower one -/
theorem PX.descend {n : Nat} {l rest : T} {e : Ex} : ∀ (d lev m : Nat), lev + d = m → m ≤ 9 → (∀ j, lev ≤ j → j < m → P.pre l j = 0) → Fol lev rest → PX m n l (.ok e rest) → PX lev n l (.ok e rest)
  | 0, lev, m, hd, _, _, _, h => by obtain rfl : lev = m := by omega
                                    exact h
  | d + 1, lev, m, hd, hm, hp, hf, h => by
    refine PX.down (by omega) (hp lev (Nat.le_refl _) (by omega)) ?_ (PL.stop (hf lev (Nat.le_refl _)))
    exact PX.descend d (lev + 1) m (by omega) hm (fun j h1 h2 => hp j (by omega) h2) (hf.up (by omega)) h
theorem lv_bd (o : Int) : 1 ≤ lv o ∧ lv o ≤ 9 := by
  unfold lv
  repeat (split; omega)
  omega
structure Hd (m : Nat) (l : T) : Prop where
  ex : ∃ t r, l = t :: r
  no : isW l sNot = true → m ≤ 3
  mi : isW l [45] = true → m ≤ 8
theorem Hd.pre {m : Nat} {l rest : T} (h : Hd m l) (j : Nat) (hj : j < m) : P.pre (l ++ rest) j = 0 := by
  obtain ⟨t, r, rfl⟩ := h.ex
  unfold P.pre
  have e1 := isW_app (k := t) (l := r) (r := rest) sNot
  have e2 := isW_app (k := t) (l := r) (r := rest) [45]
  rw [e1, e2]
  have g1 := h.no
  have g2 := h.mi
  rw [show isW (t :: r) sNot = isW [t] sNot from rfl] at g1
  rw [show isW (t :: r) [45] = isW [t] [45] from rfl] at g2
  rw [if_neg (fun x => by have := g1 x.2; omega), if_neg (fun x => by have := g2 x.2; omega)]
structure Rd (h : Nat) (e : Ex) : Prop where
  own : ∀ n rest, n + 2 * h ≤ 27 → Fol (lv e.op) rest → PX (lv e.op) n (tk e ++ rest) (.ok e rest)
  loop : ∀ n rest q, lv e.op ≠ 3 → lv e.op ≠ 4 → lv e.op ≠ 8 → lv e.op ≠ 9 → n + 2 * h ≤ 27 → Fol (lv e.op + 1) rest → PL (lv e.op) n e rest q → PX (lv e.op) n (tk e ++ rest) q
  hd : Hd (lv e.op) (tk e)
  big : lv e.op < 9 → 2 ≤ h
theorem hd_par (m : Nat) (l : T) : Hd m (tw [40] :: l) := ⟨⟨_, _, rfl⟩, fun h => (by cases h), fun h => by cases h⟩
theorem hd_atk {h : Nat} {e : Ex} (g : Rd h e) {m k : Nat} (hk : m ≤ k) : Hd m (atk k (lv e.op, tk e)) := by
  unfold atk
  split
  · exact hd_par m _
  · rename_i hl
    simp only at hl ⊢
    exact ⟨g.hd.ex, fun x => by have := g.hd.no x; omega, fun x => by have := g.hd.mi x; omega⟩
/-- an expression in parentheses, from any level on -/
theorem Rd.par {h : Nat} {e : Ex} (g : Rd h e) {lev n : Nat} {rest : T} (hl : lev ≤ 9) (hn : n + 2 * h ≤ 26) (h2 : 2 ≤ h) (hf : Fol lev rest) :
    PX lev n (tw [40] :: (tk e ++ [tw [41]]) ++ rest) (.ok e rest) := by
  refine PX.descend (9 - lev) lev 9 (by omega) (Nat.le_refl _) (fun j _ h9 => (hd_par 9 _).pre j h9) hf ?_
  refine PX.unit (PU.par rfl rfl rfl (by omega) ?_)
  have hb := lv_bd e.op
  have h1 : Fol 1 (tw [41] :: rest) := fol_of rfl 1
  have := PI.ok (n := n + 1) (l := tw [40] :: (tk e ++ [tw [41]]) ++ rest) (r := tw [41] :: rest) (e := e) rfl ?_ rfl
  · exact this
  · show PX 1 (n + 1) ((tk e ++ [tw [41]]) ++ rest) _
    rw [List.append_assoc]
    exact PX.descend (lv e.op - 1) 1 (lv e.op) (by omega) hb.2 (fun j _ hj => g.hd.pre j hj) h1 (g.own _ _ (by omega) (h1.up hb.1))
theorem Rd.at {h : Nat} {e : Ex} (g : Rd h e) {lev n : Nat} {rest : T} (hl : lev ≤ 9) (hn : n + 2 * h ≤ 26) (hf : Fol lev rest) :
    PX lev n (atk lev (lv e.op, tk e) ++ rest) (.ok e rest) := by
  have hb := lv_bd e.op
  unfold atk
  simp only
  by_cases h1 : lv e.op < lev
  · rw [if_pos h1]
    exact g.par hl hn (g.big (by omega)) hf
  · rw [if_neg h1]
    exact PX.descend (lv e.op - lev) lev (lv e.op) (by omega) hb.2 (fun j _ hj => g.hd.pre j hj) hf (g.own _ _ (by omega) (hf.up (by omega)))
/-- the left operand of an operator of level m -/
theorem Rd.left {h : Nat} {e : Ex} (g : Rd h e) {m n : Nat} {rest : T} {q : R Ex} (h3 : m ≠ 3) (h4 : m ≠ 4) (h8 : m ≠ 8) (hm : m ≤ 8) (hn : n + 2 * h ≤ 26) (hf : Fol (m + 1) rest) (hq : PL m n e rest q) :
    PX m n (atk m (lv e.op, tk e) ++ rest) q := by
  by_cases he : lv e.op = m
  · subst he
    unfold atk
    simp only
    rw [if_neg (by omega)]
    exact g.loop n rest q h3 h4 h8 (by omega) (by omega) hf hq
  · have e1 : atk m (lv e.op, tk e) = atk (m + 1) (lv e.op, tk e) := by
      unfold atk
      simp only
      by_cases hl : lv e.op < m
      · rw [if_pos hl, if_pos (by omega)]
      · rw [if_neg hl, if_neg (by omega)]
    rw [e1]
    exact PX.down (by omega) ((hd_atk g (m := m + 1) (Nat.le_refl _)).pre m (by omega)) (g.at (by omega) hn hf) hq
theorem sgn_sg {o : Int} (h : 4 ≤ o) (h2 : o ≤ 19) (h3 : o ≠ 9) (h4 : o ≠ 18) (r : T) : sgn (tw (sg o) :: r) = o := by
  have : o = 4 ∨ o = 5 ∨ o = 6 ∨ o = 7 ∨ o = 8 ∨ o = 10 ∨ o = 11 ∨ o = 12 ∨ o = 13 ∨ o = 14 ∨ o = 15 ∨ o = 16 ∨ o = 17 ∨ o = 19 := by omega
  rcases this with rfl | rfl | rfl | rfl | rfl | rfl | rfl | rfl | rfl | rfl | rfl | rfl | rfl | rfl <;> rfl
theorem bin_sg {o : Int} (h : 4 ≤ o) (h2 : o ≤ 19) (h3 : o ≠ 9) (h4 : o ≠ 18) (r : T) : bin (tw (sg o) :: r) (lv o) = o ∧ Fol (lv o + 1) (tw (sg o) :: r) := by
  have := sgn_sg h h2 h3 h4 r
  refine ⟨?_, fun j hj => ?_⟩
  · unfold bin; rw [this, if_pos ⟨by omega, rfl⟩]
  · unfold bin; rw [this, if_neg (fun x => by omega)]
theorem lv_bin {o : Int} (h : 4 ≤ o) (h2 : o ≤ 19) (h3 : o ≠ 9) (h4 : o ≠ 18) : lv o = 1 ∨ lv o = 2 ∨ lv o = 4 ∨ lv o = 5 ∨ lv o = 6 ∨ lv o = 7 := by
  have : o = 4 ∨ o = 5 ∨ o = 6 ∨ o = 7 ∨ o = 8 ∨ o = 10 ∨ o = 11 ∨ o = 12 ∨ o = 13 ∨ o = 14 ∨ o = 15 ∨ o = 16 ∨ o = 17 ∨ o = 19 := by omega
  rcases this with rfl | rfl | rfl | rfl | rfl | rfl | rfl | rfl | rfl | rfl | rfl | rfl | rfl | rfl <;> decide
theorem call_wd {o : Int} (h : 20 ≤ o) (h2 : o ≤ 27) (r : T) : callOp (tw (wd o) :: r) = o ∧ leaf (tw (wd o) :: r) = none ∧ isW (tw (wd o) :: r) sNot = false ∧ isW (tw (wd o) :: r) [45] = false ∧ lv o = 9 := by
  have : o = 20 ∨ o = 21 ∨ o = 22 ∨ o = 23 ∨ o = 24 ∨ o = 25 ∨ o = 26 ∨ o = 27 := by omega
  rcases this with rfl | rfl | rfl | rfl | rfl | rfl | rfl | rfl <;> exact ⟨rfl, rfl, rfl, rfl, rfl⟩
theorem w_pos {h : Nat} {e : Ex} (w : W h e) : 1 ≤ h := by cases w <;> omega
/-- the tokens of a valid expression are read as it -/
theorem rd_of {h : Nat} {e : Ex} (w : W h e) : Rd h e := by
  induction w with
  | int h n h1 h2 => exact ⟨fun k rest _ _ => PX.unit (PU.leaf (l := ⟨3, [], n, 0⟩ :: rest) rfl), fun _ _ _ _ _ _ h9 => absurd rfl h9, ⟨⟨_, _, rfl⟩, fun x => (by cases x), fun x => by cases x⟩, fun x => absurd x (Nat.lt_irrefl 9)⟩
  | str h s hp => exact ⟨fun k rest _ _ => PX.unit (PU.leaf (l := ⟨4, str s, 0, 0⟩ :: rest) rfl), fun _ _ _ _ _ _ h9 => absurd rfl h9, ⟨⟨_, _, rfl⟩, fun x => (by cases x), fun x => by cases x⟩, fun x => absurd x (Nat.lt_irrefl 9)⟩
  | var h s hn => exact ⟨fun k rest _ _ => PX.unit (PU.leaf (l := ⟨1, str s, 0, 0⟩ :: rest) rfl), fun _ _ _ _ _ _ h9 => absurd rfl h9, ⟨⟨_, _, rfl⟩, fun x => (by cases x), fun x => by cases x⟩, fun x => absurd x (Nat.lt_irrefl 9)⟩
  | nul h o h1 h2 =>
    have et : tk (.mk o 0 none8 []) = [tw (wd o), tw [40], tw [41]] := by
      rw [tk, tks]; unfold tkN; rw [if_neg (by omega), if_neg (by omega), if_neg (by omega)]
    obtain ⟨c1, c2, c3, c4, c5⟩ := call_wd (o := o) (by omega) h2 [tw [40], tw [41]]
    refine ⟨fun k rest _ _ => ?_, fun _ _ _ _ _ _ h9 => absurd c5 h9, ⟨⟨_, _, et⟩, fun x => ?_, fun x => ?_⟩, fun x => absurd c5 (by simp only [Ex.op] at x; omega)⟩
    · obtain ⟨d1, d2, -, -, -⟩ := call_wd (o := o) (by omega) h2 ([tw [40], tw [41]] ++ rest)
      simp only [Ex.op]
      rw [et, c5]
      exact PX.unit (PU.nul (l := tw (wd o) :: ([tw [40], tw [41]] ++ rest)) d2 d1 h1 rfl rfl)
    · rw [et, c3] at x; cases x
    · rw [et, c4] at x; cases x
  | neg h o a ho wa ih =>
    have hp := w_pos wa
    rcases ho with rfl | rfl
    · have et : tk (.mk 18 0 none8 [a]) = tw sNot :: atk 3 (lv a.op, tk a) := by rw [tk, tks, tks]; rfl
      refine ⟨fun k rest hk hf => ?_, fun _ _ _ h3 => absurd rfl h3, ⟨⟨_, _, et⟩, fun x => Nat.le_refl 3, fun x => ?_⟩, fun _ => by omega⟩
      · rw [et]
        exact PX.pre (lev := 3) (l := tw sNot :: (atk 3 (lv a.op, tk a) ++ rest)) (by decide) rfl (by decide) (by omega) (ih.at (by decide) (by omega) hf)
      · rw [et] at x; cases x
    · have et : tk (.mk 9 0 none8 [a]) = tw [45] :: atk 8 (lv a.op, tk a) := by rw [tk, tks, tks]; rfl
      refine ⟨fun k rest hk hf => ?_, fun _ _ _ _ _ h8 => absurd rfl h8, ⟨⟨_, _, et⟩, fun x => ?_, fun x => Nat.le_refl 8⟩, fun _ => by omega⟩
      · rw [et]
        exact PX.pre (lev := 8) (l := tw [45] :: (atk 8 (lv a.op, tk a) ++ rest)) (by decide) rfl (by decide) (by omega) (ih.at (by decide) (by omega) hf)
      · rw [et] at x; cases x
  | call h o a h1 h2 wa ih =>
    have hp := w_pos wa
    have et : tk (.mk o 0 none8 [a]) = tw (wd o) :: tw [40] :: (tk a ++ [tw [41]]) := by
      rw [tk, tks, tks]; unfold tkN
      rw [if_neg (by omega), if_neg (by omega), if_neg (by omega)]
      simp only
      rw [if_neg (by omega), if_neg (by omega)]
    obtain ⟨c1, c2, c3, c4, c5⟩ := call_wd (o := o) (by omega) (by omega) (tw [40] :: (tk a ++ [tw [41]]))
    refine ⟨fun k rest hk hf => ?_, fun _ _ _ _ _ _ h9 => absurd c5 h9, ⟨⟨_, _, et⟩, fun x => ?_, fun x => ?_⟩, fun x => absurd c5 (by simp only [Ex.op] at x; omega)⟩
    · simp only [Ex.op]
      rw [et, c5]
      obtain ⟨d1, d2, -, -, -⟩ := call_wd (o := o) (by omega) (by omega) (tw [40] :: (tk a ++ [tw [41]]) ++ rest)
      refine PX.unit (PU.call (l := tw (wd o) :: (tw [40] :: (tk a ++ [tw [41]]) ++ rest)) d2 d1 (by omega) (by omega) (by omega) ?_)
      have hb := lv_bd a.op
      have f1 : Fol 1 (tw [41] :: rest) := fol_of rfl 1
      have := PI.ok (n := k + 1) (l := tw [40] :: (tk a ++ [tw [41]]) ++ rest) (r := tw [41] :: rest) (e := a) rfl ?_ rfl
      · exact this
      · show PX 1 (k + 1) ((tk a ++ [tw [41]]) ++ rest) _
        rw [List.append_assoc]
        exact PX.descend (lv a.op - 1) 1 (lv a.op) (by omega) hb.2 (fun j _ hj => ih.hd.pre j hj) f1 (ih.own _ _ (by omega) (f1.up hb.1))
    · rw [et, c3] at x; cases x
    · rw [et, c4] at x; cases x
  | bin h o a b h1 h2 h3 h4 wa wb iha ihb =>
    have hp := w_pos wa
    have hl := lv_bin h1 h2 h3 h4
    have et : tk (.mk o 0 none8 [a, b]) = if lv o = 4 then atk 5 (lv a.op, tk a) ++ tw (sg o) :: atk 5 (lv b.op, tk b) else atk (lv o) (lv a.op, tk a) ++ tw (sg o) :: atk (lv o + 1) (lv b.op, tk b) := by
      rw [tk, tks, tks, tks]; unfold tkN
      rw [if_neg (by omega), if_neg (by omega), if_neg (by omega)]
    have hdd : Hd (lv o) (tk (.mk o 0 none8 [a, b])) := by
      rw [et]
      split
      · obtain ⟨⟨t, r, e⟩, g1, g2⟩ := hd_atk iha (m := lv o) (k := 5) (by omega)
        rw [e] at g1 g2 ⊢
        exact ⟨⟨_, _, rfl⟩, g1, g2⟩
      · obtain ⟨⟨t, r, e⟩, g1, g2⟩ := hd_atk iha (m := lv o) (k := lv o) (by omega)
        rw [e] at g1 g2 ⊢
        exact ⟨⟨_, _, rfl⟩, g1, g2⟩
    have lp : ∀ n rest q, lv o ≠ 4 → n + 2 * (h + 1) ≤ 27 → Fol (lv o + 1) rest → PL (lv o) n (.mk o 0 none8 [a, b]) rest q → PX (lv o) n (tk (.mk o 0 none8 [a, b]) ++ rest) q := by
      intro n rest q k4 hn hf hq
      rw [et, if_neg k4, List.append_assoc]
      obtain ⟨b1, b2⟩ := bin_sg h1 h2 h3 h4 (atk (lv o + 1) (lv b.op, tk b) ++ rest)
      refine iha.left (by omega) k4 (by omega) (by omega) (by omega) b2 ?_
      exact PL.go b1 (by omega) k4 (ihb.at (by omega) (by omega) hf) hq
    refine ⟨fun n rest hn hf => ?_, fun n rest q k3 k4 k8 k9 hn hf hq => lp n rest q k4 hn hf hq, hdd, fun _ => by omega⟩
    by_cases k4 : lv o = 4
    · simp only [Ex.op] at hf ⊢
      obtain ⟨b1, b2⟩ := bin_sg h1 h2 h3 h4 (atk 5 (lv b.op, tk b) ++ rest)
      rw [k4] at b1 b2 hf
      rw [et, if_pos k4, List.append_assoc, k4]
      refine PX.down (by decide) ((hd_atk iha (m := 5) (Nat.le_refl _)).pre 4 (by decide)) (iha.at (by decide) (by omega) b2) ?_
      exact PL.four b1 (by omega) (ihb.at (by decide) (by omega) (hf.up (by decide)))
    · exact lp n rest _ k4 hn (hf.up (Nat.le_succ _)) (PL.stop (hf _ (Nat.le_refl _)))
end Go.Proofs.YteglaeopaocilaaGreatDoor.P
namespace Go.Proofs.YteglaeopaocilaaGreatDoor.P
open L (Str Tok isName quo skp)
open A
open Go.Lib (itoa)

abbrev noE : Ex := .mk 0 0 none8 []
def ind (d : Nat) : Str := List.replicate (4 * d) 32
def kLet : Str := [108, 101, 116]
def kPut : Str := [112, 117, 116]
def kDel : Str := [100, 101, 108, 101, 116, 101]
def kEmit : Str := [101, 109, 105, 116]
def kAbort : Str := [97, 98, 111, 114, 116]
def kFor : Str := [102, 111, 114]
def kTo : Str := [116, 111]
def kMax : Str := [109, 97, 120]
def kIf : Str := [105, 102]
def kElse : Str := [101, 108, 115, 101]
def kProc : Str := [112, 114, 111, 99]
def kInt : Str := [105, 110, 116]
def kStr : Str := [115, 116, 114]
def kBool : Str := [98, 111, 111, 108]
/-- the end of a line: ";" and a line feed -/
def eos : Str := [59, 10]
/-- the beginning of a block: a space, "{" and a line feed -/
def opb : Str := [32, 123, 10]
mutual
/-- the lines of a statement in d blocks -/
def txS : St → Nat → Str
  | .mk o nm mx a b bd el, d => ind d ++
    (if o = 1 then kLet ++ 32 :: (str nm ++ 32 :: 61 :: 32 :: (tx a ++ eos))
    else if o = 2 then str nm ++ 32 :: 61 :: 32 :: (tx a ++ eos)
    else if o = 3 then kPut ++ 32 :: (tx a ++ 32 :: 61 :: 32 :: (tx b ++ eos))
    else if o = 4 then kDel ++ 32 :: (tx a ++ eos)
    else if o = 7 then kEmit ++ 32 :: (tx a ++ eos)
    else if o = 8 then kAbort ++ 32 :: (itoa mx ++ eos)
    else if o = 6 then kFor ++ 32 :: (str nm ++ 32 :: 61 :: 32 :: (tx a ++ 32 :: (kTo ++ 32 :: (tx b ++ 32 :: (kMax ++ 32 :: (itoa mx ++ (opb ++ (txB bd (d + 1) ++ (ind d ++ [125, 10])))))))))
    else kIf ++ 32 :: (tx a ++ (opb ++ (txB bd (d + 1) ++ (ind d ++ 125 :: ((if el.isEmpty then [] else 32 :: (kElse ++ (opb ++ (txB el (d + 1) ++ (ind d ++ [125]))))) ++ [10])))))
    )
/-- the lines of statements in d blocks -/
def txB : List St → Nat → Str
  | [], _ => []
  | s :: r, d => txS s d ++ txB r d
end
mutual
def tkS : St → List Tok
  | .mk o nm mx a b bd el =>
    if o = 1 then tw kLet :: ⟨1, str nm, 0, 0⟩ :: tw [61] :: (tk a ++ [tw [59]])
    else if o = 2 then ⟨1, str nm, 0, 0⟩ :: tw [61] :: (tk a ++ [tw [59]])
    else if o = 3 then tw kPut :: (tk a ++ tw [61] :: (tk b ++ [tw [59]]))
    else if o = 4 then tw kDel :: (tk a ++ [tw [59]])
    else if o = 7 then tw kEmit :: (tk a ++ [tw [59]])
    else if o = 8 then [tw kAbort, ⟨3, [], mx, 0⟩, tw [59]]
    else if o = 6 then tw kFor :: ⟨1, str nm, 0, 0⟩ :: tw [61] :: (tk a ++ tw kTo :: (tk b ++ tw kMax :: ⟨3, [], mx, 0⟩ :: tw [123] :: (tkB bd ++ [tw [125]])))
    else tw kIf :: (tk a ++ tw [123] :: (tkB bd ++ tw [125] :: (if el.isEmpty then [] else tw kElse :: tw [123] :: (tkB el ++ [tw [125]]))))
def tkB : List St → List Tok
  | [] => []
  | s :: r => tkS s ++ tkB r
end
/-- a valid statement whose blocks nest at most so deep -/
inductive WS : Nat → St → Prop
  | dec (h : Nat) (nm : ByteArray) (a : Ex) : nam nm = true → W 12 a → WS (h + 1) (.mk 1 nm 0 a noE [] [])
  | set (h : Nat) (nm : ByteArray) (a : Ex) : nam nm = true → W 12 a → WS (h + 1) (.mk 2 nm 0 a noE [] [])
  | put (h : Nat) (a b : Ex) : W 12 a → W 12 b → WS (h + 1) (.mk 3 none8 0 a b [] [])
  | del (h : Nat) (a : Ex) : W 12 a → WS (h + 1) (.mk 4 none8 0 a noE [] [])
  | emit (h : Nat) (a : Ex) : W 12 a → WS (h + 1) (.mk 7 none8 0 a noE [] [])
  | abort (h : Nat) (m : Int) : 0 ≤ m → m ≤ 999 → WS (h + 1) (.mk 8 none8 m noE noE [] [])
  | loop (h : Nat) (nm : ByteArray) (m : Int) (a b : Ex) (bd : List St) : nam nm = true → 1 ≤ m → m ≤ 16 → W 12 a → W 12 b → (∀ s ∈ bd, WS h s) → WS (h + 1) (.mk 6 nm m a b bd [])
  | cond (h : Nat) (a : Ex) (bd el : List St) : W 12 a → (∀ s ∈ bd, WS h s) → (∀ s ∈ el, WS h s) → WS (h + 1) (.mk 5 none8 0 a noE bd el)

/-! ### reading -/

theorem Lx.ind {s r : Str} {k : Tok} {l : List Tok} (h : Lx s (k :: l) r) (d : Nat) : Lx (P.ind d ++ s) (k :: l) r := by
  unfold P.ind
  generalize 4 * d = n
  induction n with
  | zero => exact h
  | succ n ih => rw [List.replicate_succ, List.cons_append]; exact ih.sp
theorem sep_lf (r : Str) : L.Sep (10 :: r) := Or.inr ⟨10, r, rfl, Or.inr rfl⟩
theorem np_sc (r : Str) : Np (59 :: r) := fun c z e => by cases e; decide
/-- ";" at a line's end -/
theorem Lx.eos (r : Str) : Lx (P.eos ++ r) [tw [59]] (10 :: r) := Lx.mark (m := [59]) (by decide) (sep_lf r)
theorem np_eos (r : Str) : Np (P.eos ++ r) := np_sc _
theorem np_opb (r : Str) : Np (P.opb ++ r) := np_sp _
theorem Lx.opb (r : Str) : Lx (P.opb ++ r) [tw [123]] (10 :: r) := (Lx.mark (m := [123]) (by decide) (sep_lf r)).sp
theorem Lx.eq (r : Str) : Lx (32 :: 61 :: 32 :: r) [tw [61]] (32 :: r) := (Lx.mark (m := [61]) (by decide) (sep_sp r)).sp
theorem Lx.clo {r : Str} (h : L.Sep r) : Lx (125 :: r) [tw [125]] r := Lx.mark (m := [125]) (by decide) h
theorem tx_sp {a : Ex} (w : W 12 a) {r : Str} (hr : Np r) : Lx (32 :: (tx a ++ r)) (tk a) r := (tx_lx w r hr).sp' (tk_ne a)
theorem kw_sp {w : Str} (h : w ∈ L.keywords) (r : Str) : Lx (w ++ 32 :: r) [tw w] (32 :: r) := Lx.kw h (np_sp r)
theorem Lx.cl {s r q : Str} {k : Tok} {l : List Tok} (h : Lx s [k] r) (h2 : Lx r l q) : Lx s (k :: l) q := h.app h2
/-- the lines of a statement, read behind a line feed -/
theorem txS_lx {h : Nat} {s : St} (w : WS h s) : ∀ d r, Lx (10 :: (txS s d ++ r)) (tkS s) (10 :: r) := by
  have blk : ∀ l : List St, (∀ s ∈ l, ∀ d r, Lx (10 :: (txS s d ++ r)) (tkS s) (10 :: r)) → ∀ d r, Lx (10 :: (txB l d ++ r)) (tkB l) (10 :: r) := by
    intro l
    induction l with
    | nil => intro _ d r; rw [txB, tkB]; exact .nil _
    | cons s l ih =>
      intro hl d r
      rw [txB, tkB, List.append_assoc]
      exact (hl s (List.mem_cons_self ..) d _).app (ih (fun s hs => hl s (List.mem_cons_of_mem _ hs)) d r)
  induction w with
  | dec h nm a hn wa =>
    intro d r
    rw [txS, tkS, if_pos rfl, if_pos rfl]
    simp only [List.append_assoc, List.cons_append]
    exact (((kw_sp (by decide) _).cl ((Lx.name hn (np_sp _)).sp.cl ((Lx.eq _).cl ((tx_sp wa (np_eos r)).app (Lx.eos r))))).ind d).lf
  | set h nm a hn wa =>
    intro d r
    rw [txS, tkS, if_neg (by decide), if_pos rfl, if_neg (by decide), if_pos rfl]
    simp only [List.append_assoc, List.cons_append]
    exact (((Lx.name hn (np_sp _)).cl ((Lx.eq _).cl ((tx_sp wa (np_eos r)).app (Lx.eos r)))).ind d).lf
  | put h a b wa wb =>
    intro d r
    rw [txS, tkS]
    simp only [if_neg (show ¬ (3 : Int) = 1 by decide), if_neg (show ¬ (3 : Int) = 2 by decide), if_true, List.append_assoc, List.cons_append]
    exact (((kw_sp (by decide) _).cl ((tx_sp wa (np_sp _)).app ((Lx.eq _).cl ((tx_sp wb (np_eos r)).app (Lx.eos r))))).ind d).lf
  | del h a wa =>
    intro d r
    rw [txS, tkS]
    simp only [if_neg (show ¬ (4 : Int) = 1 by decide), if_neg (show ¬ (4 : Int) = 2 by decide), if_neg (show ¬ (4 : Int) = 3 by decide), if_true, List.append_assoc, List.cons_append]
    exact (((kw_sp (by decide) _).cl ((tx_sp wa (np_eos r)).app (Lx.eos r))).ind d).lf
  | emit h a wa =>
    intro d r
    rw [txS, tkS]
    simp only [if_neg (show ¬ (7 : Int) = 1 by decide), if_neg (show ¬ (7 : Int) = 2 by decide), if_neg (show ¬ (7 : Int) = 3 by decide), if_neg (show ¬ (7 : Int) = 4 by decide), if_true, List.append_assoc, List.cons_append]
    exact (((kw_sp (by decide) _).cl ((tx_sp wa (np_eos r)).app (Lx.eos r))).ind d).lf
  | abort h m h0 h1 =>
    intro d r
    rw [txS, tkS]
    simp only [if_neg (show ¬ (8 : Int) = 1 by decide), if_neg (show ¬ (8 : Int) = 2 by decide), if_neg (show ¬ (8 : Int) = 3 by decide), if_neg (show ¬ (8 : Int) = 4 by decide), if_neg (show ¬ (8 : Int) = 7 by decide), if_true, List.append_assoc, List.cons_append]
    exact (((kw_sp (by decide) _).cl ((Lx.int h0 (by omega) (np_eos r)).sp.cl (Lx.eos r))).ind d).lf
  | loop h nm m a b bd hn h1 h2 wa wb _ ih =>
    intro d r
    rw [txS, tkS]
    simp only [if_neg (show ¬ (6 : Int) = 1 by decide), if_neg (show ¬ (6 : Int) = 2 by decide), if_neg (show ¬ (6 : Int) = 3 by decide), if_neg (show ¬ (6 : Int) = 4 by decide), if_neg (show ¬ (6 : Int) = 7 by decide), if_neg (show ¬ (6 : Int) = 8 by decide), if_true, List.append_assoc, List.cons_append, List.nil_append]
    refine (((kw_sp (by decide) _).cl ((Lx.name hn (np_sp _)).sp.cl ((Lx.eq _).cl ((tx_sp wa (np_sp _)).app ((kw_sp (by decide) _).sp.cl ((tx_sp wb (np_sp _)).app ((kw_sp (by decide) _).sp.cl ((Lx.int (by omega) (by omega) (np_opb _)).sp.cl ((Lx.opb _).cl ?_))))))))).ind d).lf
    exact (blk bd ih (d + 1) _).app ((Lx.clo (sep_lf r)).ind d).lf
  | cond h a bd el wa _ _ ih1 ih2 =>
    intro d r
    rw [txS, tkS]
    simp only [if_neg (show ¬ (5 : Int) = 1 by decide), if_neg (show ¬ (5 : Int) = 2 by decide), if_neg (show ¬ (5 : Int) = 3 by decide), if_neg (show ¬ (5 : Int) = 4 by decide), if_neg (show ¬ (5 : Int) = 7 by decide), if_neg (show ¬ (5 : Int) = 8 by decide), if_neg (show ¬ (5 : Int) = 6 by decide), List.append_assoc, List.cons_append, List.nil_append]
    refine (((kw_sp (by decide) _).cl ((tx_sp wa (np_opb _)).app ((Lx.opb _).cl ?_))).ind d).lf
    refine (blk bd ih1 (d + 1) _).app ?_
    by_cases he : el.isEmpty = true
    · rw [if_pos he, if_pos he]
      exact ((Lx.clo (sep_lf r)).ind d).lf
    · rw [if_neg he, if_neg he]
      simp only [List.append_assoc, List.cons_append, List.nil_append]
      refine (((Lx.clo (sep_sp _)).cl ((Lx.kw (by decide) (np_opb _)).sp.cl ((Lx.opb _).cl ?_))).ind d).lf
      exact (blk el ih2 (d + 1) _).app ((Lx.clo (sep_lf r)).ind d).lf
theorem txB_lx {h : Nat} : ∀ {l : List St}, (∀ s ∈ l, WS h s) → ∀ d r, Lx (10 :: (txB l d ++ r)) (tkB l) (10 :: r)
  | [], _, d, r => by rw [txB, tkB]; exact .nil _
  | s :: l, hl, d, r => by
    rw [txB, tkB, List.append_assoc]
    exact (txS_lx (hl s (List.mem_cons_self ..)) d _).app (txB_lx (fun s hs => hl s (List.mem_cons_of_mem _ hs)) d r)

/-! ### procedures -/

def tyW (t : Int) : Str := if t = 1 then kInt else if t = 2 then kStr else kBool
/-- the parameters behind the first one -/
def txPs : List Pm → Str
  | [] => []
  | p :: r => 44 :: 32 :: (str p.name ++ 58 :: 32 :: (tyW p.ty ++ txPs r))
def txPm : List Pm → Str
  | [] => []
  | p :: r => str p.name ++ 58 :: 32 :: (tyW p.ty ++ txPs r)
def txP (p : Pr) : Str := kProc ++ 32 :: (str p.name ++ 40 :: (txPm p.params ++ 41 :: (opb ++ (txB p.body 1 ++ [125, 10]))))
def tkPs : List Pm → List Tok
  | [] => []
  | p :: r => tw [44] :: ⟨1, str p.name, 0, 0⟩ :: tw [58] :: tw (tyW p.ty) :: tkPs r
def tkPm : List Pm → List Tok
  | [] => []
  | p :: r => ⟨1, str p.name, 0, 0⟩ :: tw [58] :: tw (tyW p.ty) :: tkPs r
def tkP (p : Pr) : List Tok := tw kProc :: ⟨1, str p.name, 0, 0⟩ :: tw [40] :: (tkPm p.params ++ tw [41] :: tw [123] :: (tkB p.body ++ [tw [125]]))
/-- a valid procedure -/
structure WP (p : Pr) : Prop where
  name : nam p.name = true
  params : ∀ q ∈ p.params, nam q.name = true ∧ 1 ≤ q.ty ∧ q.ty ≤ 3
  body : ∀ s ∈ p.body, WS 12 s
theorem np_co (r : Str) : Np (58 :: r) := fun c z e => by cases e; decide
theorem np_cm (r : Str) : Np (44 :: r) := fun c z e => by cases e; decide
theorem tyW_kw {t : Int} : tyW t ∈ L.keywords := by
  unfold tyW
  repeat (split; decide)
  decide
theorem txPs_lx : ∀ {l : List Pm}, (∀ q ∈ l, nam q.name = true ∧ 1 ≤ q.ty ∧ q.ty ≤ 3) → ∀ r, Np (txPs l ++ 41 :: r) ∧ Lx (txPs l ++ 41 :: r) (tkPs l) (41 :: r)
  | [], _, r => ⟨np_cl r, .nil _⟩
  | p :: l, hl, r => by
    rw [txPs, tkPs]
    simp only [List.append_assoc, List.cons_append]
    obtain ⟨g1, g2⟩ := txPs_lx (l := l) (fun q hq => hl q (List.mem_cons_of_mem _ hq)) r
    refine ⟨np_cm _, ?_⟩
    exact (Lx.mark (m := [44]) (by decide) (sep_sp _)).cl ((Lx.name (hl p (List.mem_cons_self ..)).1 (np_co _)).sp.cl ((Lx.mark (m := [58]) (by decide) (sep_sp _)).cl ((Lx.kw tyW_kw g1).sp.cl g2)))
theorem txPm_lx : ∀ {l : List Pm}, (∀ q ∈ l, nam q.name = true ∧ 1 ≤ q.ty ∧ q.ty ≤ 3) → ∀ r, Lx (txPm l ++ 41 :: r) (tkPm l) (41 :: r)
  | [], _, r => .nil _
  | p :: l, hl, r => by
    rw [txPm, tkPm]
    simp only [List.append_assoc, List.cons_append]
    obtain ⟨g1, g2⟩ := txPs_lx (l := l) (fun q hq => hl q (List.mem_cons_of_mem _ hq)) r
    exact (Lx.name (hl p (List.mem_cons_self ..)).1 (np_co _)).cl ((Lx.mark (m := [58]) (by decide) (sep_sp _)).cl ((Lx.kw tyW_kw g1).sp.cl g2))
/-- the text of a valid procedure is read as its tokens; a line feed is left -/
theorem txP_lx {p : Pr} (w : WP p) (r : Str) : Lx (txP p ++ r) (tkP p) (10 :: r) := by
  unfold txP tkP
  simp only [List.append_assoc, List.cons_append, List.nil_append]
  refine (kw_sp (by decide) _).cl ((Lx.name w.name (np_op _)).sp.cl ((Lx.one (Or.inl rfl) _).cl ?_))
  refine (txPm_lx w.params _).app ((Lx.one (Or.inr (Or.inl rfl)) _).cl ((Lx.opb _).cl ?_))
  exact (txB_lx w.body 1 _).app (Lx.clo (sep_lf r)).lf

/-! ### what is read is determined -/

theorem Lx.unique {s r q : Str} {l m : List Tok} (h : Lx s l r) (h2 : Lx s m q) (hr : skp false r = []) (hq : skp false q = []) : l = m := by
  induction h generalizing m with
  | nil s =>
    cases h2 with
    | nil => rfl
    | cons a b c => rw [hr] at a; cases a
  | cons a b c ih =>
    cases h2 with
    | nil => rw [hq] at a; cases a
    | cons a2 b2 c2 =>
      rw [a] at a2
      cases a2
      rw [b] at b2
      cases b2
      rw [ih c2 hr]
end Go.Proofs.YteglaeopaocilaaGreatDoor.P
namespace Go.Proofs.YteglaeopaocilaaGreatDoor.P
open L (Str Tok skp)
open A

def ba (s : Str) : ByteArray := ⟨s.toArray⟩
def nm1 (l : T) : Option ByteArray := match l with | [] => none | t :: _ => if t.k = 1 then some (ba t.t) else none
def int1 (l : T) : Option Int := match l with | [] => none | t :: _ => if t.k = 3 then some t.n else none
def stW : List (Str × Int) := [(kLet, 1), (kPut, 3), (kDel, 4), (kIf, 5), (kFor, 6), (kEmit, 7), (kAbort, 8)]
def tyT : List (Str × Int) := [(kInt, 1), (kStr, 2), (kBool, 3)]
def stOp (l : T) : Int := findW stW l
def tyOp (l : T) : Int := findW tyT l
mutual
/-- a statement in a block that is nested in d others -/
def pS : Nat → Nat → T → R St
  | 0, _, l => .no l 0
  | f + 1, d, l =>
    if stOp l = 0 then
      match nm1 l with
      | none => .no l (wrong l)
      | some nm => if isW l.tail [61] = true then pE f d 2 nm l.tail.tail else .no l.tail (wrong l.tail)
    else if stOp l = 1 ∨ stOp l = 6 then
      match nm1 l.tail with
      | none => .no l.tail (wrong l.tail)
      | some nm => if isW l.tail.tail [61] = true then pE f d (stOp l) nm l.tail.tail.tail else .no l.tail.tail (wrong l.tail.tail)
    else pE f d (stOp l) none8 l.tail
/-- what follows the name of a statement -/
def pE : Nat → Nat → Int → ByteArray → T → R St
  | 0, _, _, _, l => .no l 0
  | f + 1, d, o, nm, l =>
    if o = 8 then pN f d o nm noE noE l
    else match pX f 1 0 l with
    | .no r x => .no r x
    | .ok a r =>
      if o = 3 ∨ o = 6 then
        if isW r (if o = 6 then kTo else [61]) = true then
          match pX f 1 0 r.tail with
          | .no r x => .no r x
          | .ok b r => pT f d o nm a b r
        else .no r (wrong r)
      else pT f d o nm a noE r
/-- the integer of an abort or a loop, and what follows it -/
def pN : Nat → Nat → Int → ByteArray → Ex → Ex → T → R St
  | 0, _, _, _, _, _, l => .no l 0
  | f + 1, d, o, nm, a, b, l =>
    match int1 l with
    | none => .no l (wrong l)
    | some m =>
      if o = 8 then if isW l.tail [59] = true then .ok (.mk o nm m a b [] []) l.tail.tail else .no l.tail (wrong l.tail)
      else match pB f (d + 1) l.tail with
      | .no r x => .no r x
      | .ok bd r => .ok (.mk o nm m a b bd []) r
/-- what follows the expressions of a statement -/
def pT : Nat → Nat → Int → ByteArray → Ex → Ex → T → R St
  | 0, _, _, _, _, _, l => .no l 0
  | f + 1, d, o, nm, a, b, l =>
    if o = 6 then if isW l kMax = true then pN f d o nm a b l.tail else .no l (wrong l)
    else if o = 5 then
      match pB f (d + 1) l with
      | .no r x => .no r x
      | .ok bd r =>
        if isW r kElse = true then
          match pB f (d + 1) r.tail with
          | .no r x => .no r x
          | .ok el r => .ok (.mk o nm 0 a b bd el) r
        else .ok (.mk o nm 0 a b bd []) r
    else if isW l [59] = true then .ok (.mk o nm 0 a b [] []) l.tail else .no l (wrong l)
/-- a block that is nested in d others -/
def pB : Nat → Nat → T → R (List St)
  | 0, _, l => .no l 0
  | f + 1, d, l => if isW l [123] = true then (if 12 < d then .no l 2 else pK f d [] l.tail) else .no l (wrong l)
/-- the statements of a block, and the brace behind them -/
def pK : Nat → Nat → List St → T → R (List St)
  | 0, _, _, l => .no l 0
  | f + 1, d, acc, l =>
    if isW l [125] = true then .ok acc l.tail
    else match pS f d l with
    | .no r x => .no r x
    | .ok s r => pK f d (acc ++ [s]) r
end
/-- parameters, at least one, and the parenthesis behind them -/
def pPs : Nat → List Pm → T → R (List Pm)
  | 0, _, l => .no l 0
  | f + 1, acc, l =>
    match nm1 l with
    | none => .no l (wrong l)
    | some nm =>
      if isW l.tail [58] = true then
        if tyOp l.tail.tail = 0 then .no l.tail.tail (wrong l.tail.tail)
        else if isW l.tail.tail.tail [41] = true then .ok (acc ++ [⟨nm, tyOp l.tail.tail⟩]) l.tail.tail.tail.tail
        else if isW l.tail.tail.tail [44] = true then pPs f (acc ++ [⟨nm, tyOp l.tail.tail⟩]) l.tail.tail.tail.tail
        else .no l.tail.tail.tail (wrong l.tail.tail.tail)
      else .no l.tail (wrong l.tail)
def pP (f : Nat) (l : T) : R Pr :=
  if isW l kProc = true then
    match nm1 l.tail with
    | none => .no l.tail (wrong l.tail)
    | some nm =>
      if isW l.tail.tail [40] = true then
        match (if isW l.tail.tail.tail [41] = true then R.ok [] l.tail.tail.tail.tail else pPs f [] l.tail.tail.tail) with
        | .no r x => .no r x
        | .ok ps r =>
          match pB f 0 r with
          | .no r x => .no r x
          | .ok b r => .ok ⟨nm, ps, b⟩ r
      else .no l.tail.tail (wrong l.tail.tail)
  else .no l (wrong l)

/-! ### the tokens of a valid statement -/

theorem x_of {a : Ex} (w : W 12 a) {rest : T} (hf : Fol 1 rest) : PX 1 0 (tk a ++ rest) (.ok a rest) := by
  have x := (rd_of w).at (lev := 1) (n := 0) (rest := rest) (by decide) (by omega) hf
  have ba := lv_bd a.op
  have ea : atk 1 (lv a.op, tk a) = tk a := by unfold atk; exact if_neg (by omega)
  rw [ea] at x
  exact x
def PS (d : Nat) (l : T) (r : R St) : Prop := ∃ F, ∀ f, F ≤ f → pS f d l = r
def PE (d : Nat) (o : Int) (nm : ByteArray) (l : T) (r : R St) : Prop := ∃ F, ∀ f, F ≤ f → pE f d o nm l = r
def PN (d : Nat) (o : Int) (nm : ByteArray) (a b : Ex) (l : T) (r : R St) : Prop := ∃ F, ∀ f, F ≤ f → pN f d o nm a b l = r
def PT (d : Nat) (o : Int) (nm : ByteArray) (a b : Ex) (l : T) (r : R St) : Prop := ∃ F, ∀ f, F ≤ f → pT f d o nm a b l = r
def PB (d : Nat) (l : T) (r : R (List St)) : Prop := ∃ F, ∀ f, F ≤ f → pB f d l = r
def PK (d : Nat) (acc : List St) (l : T) (r : R (List St)) : Prop := ∃ F, ∀ f, F ≤ f → pK f d acc l = r
/-- the statement that a name begins -/
theorem PS.set {d : Nat} {l : T} {nm : ByteArray} {q : R St} (h0 : stOp l = 0) (h1 : nm1 l = some nm) (h2 : isW l.tail [61] = true) (h : PE d 2 nm l.tail.tail q) : PS d l q := by
  obtain ⟨F, h⟩ := h
  refine ⟨F + 1, fun f hf => ?_⟩
  obtain ⟨k, rfl, hk⟩ := succ_of hf
  rw [pS, if_pos h0, h1]
  simp only
  rw [if_pos h2]
  exact h k hk
theorem PS.named {d : Nat} {l : T} {nm : ByteArray} {o : Int} {q : R St} (ho : stOp l = o) (h0 : o = 1 ∨ o = 6) (h1 : nm1 l.tail = some nm) (h2 : isW l.tail.tail [61] = true) (h : PE d o nm l.tail.tail.tail q) : PS d l q := by
  obtain ⟨F, h⟩ := h
  refine ⟨F + 1, fun f hf => ?_⟩
  obtain ⟨k, rfl, hk⟩ := succ_of hf
  rw [pS, ho, if_neg (by omega), if_pos h0, h1]
  simp only
  rw [if_pos h2]
  exact h k hk
theorem PS.plain {d : Nat} {l : T} {o : Int} {q : R St} (ho : stOp l = o) (h0 : o ≠ 0) (h1 : ¬ (o = 1 ∨ o = 6)) (h : PE d o none8 l.tail q) : PS d l q := by
  obtain ⟨F, h⟩ := h
  refine ⟨F + 1, fun f hf => ?_⟩
  obtain ⟨k, rfl, hk⟩ := succ_of hf
  rw [pS, ho, if_neg h0, if_neg h1]
  exact h k hk
theorem PE.abort {d : Nat} {nm : ByteArray} {l : T} {q : R St} (h : PN d 8 nm noE noE l q) : PE d 8 nm l q := by
  obtain ⟨F, h⟩ := h
  refine ⟨F + 1, fun f hf => ?_⟩
  obtain ⟨k, rfl, hk⟩ := succ_of hf
  rw [pE, if_pos rfl]
  exact h k hk
theorem PE.one {d : Nat} {o : Int} {nm : ByteArray} {l r : T} {a : Ex} {q : R St} (h8 : o ≠ 8) (ho : ¬ (o = 3 ∨ o = 6)) (hx : PX 1 0 l (.ok a r)) (h : PT d o nm a noE r q) : PE d o nm l q := by
  obtain ⟨F, h⟩ := h
  obtain ⟨G, hx⟩ := hx
  refine ⟨F + G + 1, fun f hf => ?_⟩
  obtain ⟨k, rfl, hk⟩ := succ_of hf
  rw [pE, if_neg h8, hx k (by omega)]
  simp only
  rw [if_neg ho]
  exact h k (by omega)
theorem PE.two {d : Nat} {o : Int} {nm : ByteArray} {l r r2 : T} {a b : Ex} {q : R St} (h8 : o ≠ 8) (ho : o = 3 ∨ o = 6) (hx : PX 1 0 l (.ok a r)) (hw : isW r (if o = 6 then kTo else [61]) = true) (hy : PX 1 0 r.tail (.ok b r2)) (h : PT d o nm a b r2 q) : PE d o nm l q := by
  obtain ⟨F, h⟩ := h
  obtain ⟨G, hx⟩ := hx
  obtain ⟨H, hy⟩ := hy
  refine ⟨F + G + H + 1, fun f hf => ?_⟩
  obtain ⟨k, rfl, hk⟩ := succ_of hf
  rw [pE, if_neg h8, hx k (by omega)]
  simp only
  rw [if_pos ho, if_pos hw, hy k (by omega)]
  exact h k (by omega)
theorem PN.abort {d : Nat} {nm : ByteArray} {a b : Ex} {l : T} {m : Int} (hi : int1 l = some m) (hw : isW l.tail [59] = true) : PN d 8 nm a b l (.ok (.mk 8 nm m a b [] []) l.tail.tail) := by
  refine ⟨1, fun f hf => ?_⟩
  obtain ⟨k, rfl, hk⟩ := succ_of hf
  rw [pN, hi]
  simp only
  rw [if_pos trivial, if_pos hw]
theorem PN.loop {d : Nat} {nm : ByteArray} {a b : Ex} {l r : T} {m : Int} {bd : List St} (hi : int1 l = some m) (h : PB (d + 1) l.tail (.ok bd r)) : PN d 6 nm a b l (.ok (.mk 6 nm m a b bd []) r) := by
  obtain ⟨F, h⟩ := h
  refine ⟨F + 1, fun f hf => ?_⟩
  obtain ⟨k, rfl, hk⟩ := succ_of hf
  rw [pN, hi]
  simp only
  rw [if_neg (by decide), h k hk]
theorem PT.loop {d : Nat} {nm : ByteArray} {a b : Ex} {l : T} {q : R St} (hw : isW l kMax = true) (h : PN d 6 nm a b l.tail q) : PT d 6 nm a b l q := by
  obtain ⟨F, h⟩ := h
  refine ⟨F + 1, fun f hf => ?_⟩
  obtain ⟨k, rfl, hk⟩ := succ_of hf
  rw [pT, if_pos rfl, if_pos hw]
  exact h k hk
theorem PT.cond {d : Nat} {nm : ByteArray} {a b : Ex} {l r : T} {bd : List St} (h : PB (d + 1) l (.ok bd r)) (hw : isW r kElse = false) : PT d 5 nm a b l (.ok (.mk 5 nm 0 a b bd []) r) := by
  obtain ⟨F, h⟩ := h
  refine ⟨F + 1, fun f hf => ?_⟩
  obtain ⟨k, rfl, hk⟩ := succ_of hf
  rw [pT, if_neg (by decide), if_pos rfl, h k hk]
  simp only
  rw [if_neg (by rw [hw]; decide)]
theorem PT.both {d : Nat} {nm : ByteArray} {a b : Ex} {l r r2 : T} {bd el : List St} (h : PB (d + 1) l (.ok bd r)) (hw : isW r kElse = true) (h2 : PB (d + 1) r.tail (.ok el r2)) : PT d 5 nm a b l (.ok (.mk 5 nm 0 a b bd el) r2) := by
  obtain ⟨F, h⟩ := h
  obtain ⟨G, h2⟩ := h2
  refine ⟨F + G + 1, fun f hf => ?_⟩
  obtain ⟨k, rfl, hk⟩ := succ_of hf
  rw [pT, if_neg (by decide), if_pos rfl, h k (by omega)]
  simp only
  rw [if_pos hw, h2 k (by omega)]
theorem PT.line {d : Nat} {o : Int} {nm : ByteArray} {a b : Ex} {l : T} (h6 : o ≠ 6) (h5 : o ≠ 5) (hw : isW l [59] = true) : PT d o nm a b l (.ok (.mk o nm 0 a b [] []) l.tail) := by
  refine ⟨1, fun f hf => ?_⟩
  obtain ⟨k, rfl, hk⟩ := succ_of hf
  rw [pT, if_neg h6, if_neg h5, if_pos hw]
theorem PB.ok {d : Nat} {l : T} {q : R (List St)} (hw : isW l [123] = true) (hd : d ≤ 12) (h : PK d [] l.tail q) : PB d l q := by
  obtain ⟨F, h⟩ := h
  refine ⟨F + 1, fun f hf => ?_⟩
  obtain ⟨k, rfl, hk⟩ := succ_of hf
  rw [pB, if_pos hw, if_neg (by omega)]
  exact h k hk
theorem PK.stop {d : Nat} {acc : List St} {l : T} (hw : isW l [125] = true) : PK d acc l (.ok acc l.tail) := by
  refine ⟨1, fun f hf => ?_⟩
  obtain ⟨k, rfl, hk⟩ := succ_of hf
  rw [pK, if_pos hw]
theorem PK.go {d : Nat} {acc : List St} {l r : T} {s : St} {q : R (List St)} (hw : isW l [125] = false) (hs : PS d l (.ok s r)) (h : PK d (acc ++ [s]) r q) : PK d acc l q := by
  obtain ⟨F, h⟩ := h
  obtain ⟨G, hs⟩ := hs
  refine ⟨F + G + 1, fun f hf => ?_⟩
  obtain ⟨k, rfl, hk⟩ := succ_of hf
  rw [pK, if_neg (by rw [hw]; decide), hs k (by omega)]
  exact h k (by omega)
theorem hdS {h : Nat} {s : St} (w : WS h s) (r : T) : isW (tkS s ++ r) [125] = false ∧ isW (tkS s ++ r) kElse = false := by
  cases w <;> rw [tkS] <;> exact ⟨rfl, rfl⟩
theorem rdS {h : Nat} {s : St} (w : WS h s) : ∀ d rest, d + h ≤ 12 → isW rest kElse = false → PS d (tkS s ++ rest) (.ok s rest) := by
  have blk : ∀ h l, (∀ s ∈ l, WS h s) → (∀ s ∈ l, ∀ d rest, d + h ≤ 12 → isW rest kElse = false → PS d (tkS s ++ rest) (.ok s rest)) → ∀ d rest, d + h ≤ 12 → PB d (tw [123] :: (tkB l ++ tw [125] :: rest)) (.ok l rest) := by
    intro h l hw hl d rest hd
    refine PB.ok rfl (by omega) ?_
    show PK d [] (tkB l ++ tw [125] :: rest) _
    have key : ∀ (l acc : List St), (∀ s ∈ l, WS h s) → (∀ s ∈ l, ∀ d rest, d + h ≤ 12 → isW rest kElse = false → PS d (tkS s ++ rest) (.ok s rest)) → PK d acc (tkB l ++ tw [125] :: rest) (.ok (acc ++ l) rest) := by
      intro l
      induction l with
      | nil => intro acc _ _; rw [tkB, List.append_nil]; exact PK.stop (l := tw [125] :: rest) rfl
      | cons s l ih =>
        intro acc hw hl
        rw [tkB, List.append_assoc]
        have ws := hw s (List.mem_cons_self ..)
        have hr : isW (tkB l ++ tw [125] :: rest) kElse = false := by
          cases l with
          | nil => rw [tkB]; rfl
          | cons s2 l2 => rw [tkB, List.append_assoc]; exact (hdS (hw s2 (by simp)) _).2
        have g := ih (acc ++ [s]) (fun s hs => hw s (List.mem_cons_of_mem _ hs)) (fun s hs => hl s (List.mem_cons_of_mem _ hs))
        rw [List.append_assoc, List.singleton_append] at g
        exact PK.go (hdS ws _).1 (hl s (List.mem_cons_self ..) d _ hd hr) g
    exact key l [] hw hl
  have sc : ∀ rest, Fol 1 (tw [59] :: rest) := fun rest => fol_of rfl 1
  have bo : ∀ rest, Fol 1 (tw [123] :: rest) := fun rest => fol_of rfl 1
  induction w with
  | dec h nm a hn wa =>
    intro d rest hd hr
    rw [tkS, if_pos rfl]
    simp only [List.append_assoc, List.cons_append, List.nil_append]
    exact PS.named (o := 1) (l := tw kLet :: ⟨1, str nm, 0, 0⟩ :: tw [61] :: (tk a ++ tw [59] :: rest)) (nm := nm) rfl (Or.inl rfl) rfl rfl (PE.one (by decide) (by decide) (x_of wa (sc rest)) (PT.line (l := tw [59] :: rest) (by decide) (by decide) rfl))
  | set h nm a hn wa =>
    intro d rest hd hr
    rw [tkS, if_neg (by decide), if_pos rfl]
    simp only [List.append_assoc, List.cons_append, List.nil_append]
    exact PS.set (l := ⟨1, str nm, 0, 0⟩ :: tw [61] :: (tk a ++ tw [59] :: rest)) (nm := nm) rfl rfl rfl (PE.one (by decide) (by decide) (x_of wa (sc rest)) (PT.line (l := tw [59] :: rest) (by decide) (by decide) rfl))
  | put h a b wa wb =>
    intro d rest hd hr
    rw [tkS, if_neg (by decide), if_neg (by decide), if_pos rfl]
    simp only [List.append_assoc, List.cons_append, List.nil_append]
    exact PS.plain (o := 3) (l := tw kPut :: (tk a ++ tw [61] :: (tk b ++ tw [59] :: rest))) rfl (by decide) (by decide) (PE.two (by decide) (Or.inl rfl) (x_of wa (rest := tw [61] :: (tk b ++ tw [59] :: rest)) (fol_of rfl 1)) rfl (x_of wb (sc rest)) (PT.line (l := tw [59] :: rest) (by decide) (by decide) rfl))
  | del h a wa =>
    intro d rest hd hr
    rw [tkS, if_neg (by decide), if_neg (by decide), if_neg (by decide), if_pos rfl]
    simp only [List.append_assoc, List.cons_append, List.nil_append]
    exact PS.plain (o := 4) (l := tw kDel :: (tk a ++ tw [59] :: rest)) rfl (by decide) (by decide) (PE.one (by decide) (by decide) (x_of wa (sc rest)) (PT.line (l := tw [59] :: rest) (by decide) (by decide) rfl))
  | emit h a wa =>
    intro d rest hd hr
    rw [tkS, if_neg (by decide), if_neg (by decide), if_neg (by decide), if_neg (by decide), if_pos rfl]
    simp only [List.append_assoc, List.cons_append, List.nil_append]
    exact PS.plain (o := 7) (l := tw kEmit :: (tk a ++ tw [59] :: rest)) rfl (by decide) (by decide) (PE.one (by decide) (by decide) (x_of wa (sc rest)) (PT.line (l := tw [59] :: rest) (by decide) (by decide) rfl))
  | abort h m h0 h1 =>
    intro d rest hd hr
    rw [tkS, if_neg (by decide), if_neg (by decide), if_neg (by decide), if_neg (by decide), if_neg (by decide), if_pos rfl]
    simp only [List.cons_append, List.nil_append]
    exact PS.plain (o := 8) (l := tw kAbort :: ⟨3, [], m, 0⟩ :: tw [59] :: rest) rfl (by decide) (by decide) (PE.abort (PN.abort (l := ⟨3, [], m, 0⟩ :: tw [59] :: rest) rfl rfl))
  | loop h nm m a b bd hn h1 h2 wa wb hw ih =>
    intro d rest hd hr
    rw [tkS, if_neg (by decide), if_neg (by decide), if_neg (by decide), if_neg (by decide), if_neg (by decide), if_neg (by decide), if_pos rfl]
    simp only [List.append_assoc, List.cons_append, List.nil_append]
    refine PS.named (o := 6) (l := tw kFor :: ⟨1, str nm, 0, 0⟩ :: tw [61] :: (tk a ++ tw kTo :: (tk b ++ tw kMax :: ⟨3, [], m, 0⟩ :: tw [123] :: (tkB bd ++ tw [125] :: rest)))) (nm := nm) rfl (Or.inr rfl) rfl rfl ?_
    refine PE.two (by decide) (Or.inr rfl) (x_of wa (rest := tw kTo :: (tk b ++ tw kMax :: ⟨3, [], m, 0⟩ :: tw [123] :: (tkB bd ++ tw [125] :: rest))) (fol_of rfl 1)) rfl (x_of wb (rest := tw kMax :: ⟨3, [], m, 0⟩ :: tw [123] :: (tkB bd ++ tw [125] :: rest)) (fol_of rfl 1)) ?_
    refine PT.loop (l := tw kMax :: ⟨3, [], m, 0⟩ :: tw [123] :: (tkB bd ++ tw [125] :: rest)) rfl ?_
    exact PN.loop (l := ⟨3, [], m, 0⟩ :: tw [123] :: (tkB bd ++ tw [125] :: rest)) rfl (blk h bd hw ih (d + 1) rest (by omega))
  | cond h a bd el wa hw hw2 ih ih2 =>
    intro d rest hd hr
    rw [tkS, if_neg (by decide), if_neg (by decide), if_neg (by decide), if_neg (by decide), if_neg (by decide), if_neg (by decide), if_neg (by decide)]
    simp only [List.append_assoc, List.cons_append]
    cases el with
    | nil =>
      refine PS.plain (o := 5) (l := tw kIf :: (tk a ++ tw [123] :: (tkB bd ++ tw [125] :: rest))) rfl (by decide) (by decide) (PE.one (by decide) (by decide) (x_of wa (bo _)) ?_)
      exact PT.cond (blk h bd hw ih (d + 1) rest (by omega)) hr
    | cons s el =>
      rw [if_neg (by simp)]
      simp only [List.append_assoc, List.cons_append, List.nil_append]
      refine PS.plain (o := 5) (l := tw kIf :: (tk a ++ tw [123] :: (tkB bd ++ tw [125] :: tw kElse :: tw [123] :: (tkB (s :: el) ++ tw [125] :: rest)))) rfl (by decide) (by decide) (PE.one (by decide) (by decide) (x_of wa (bo _)) ?_)
      exact PT.both (blk h bd hw ih (d + 1) _ (by omega)) rfl (blk h (s :: el) hw2 ih2 (d + 1) rest (by omega))
theorem rdB {h : Nat} : ∀ (l : List St) (acc : List St) (d : Nat) (rest : T), (∀ s ∈ l, WS h s) → d + h ≤ 12 → PK d acc (tkB l ++ tw [125] :: rest) (.ok (acc ++ l) rest)
  | [], acc, d, rest, _, _ => by rw [tkB, List.append_nil]; exact PK.stop (l := tw [125] :: rest) rfl
  | s :: l, acc, d, rest, hw, hd => by
    rw [tkB, List.append_assoc]
    have hr : isW (tkB l ++ tw [125] :: rest) kElse = false := by
      cases l with
      | nil => rw [tkB]; rfl
      | cons s2 l2 => rw [tkB, List.append_assoc]; exact (hdS (hw s2 (by simp)) _).2
    have g := rdB l (acc ++ [s]) d rest (fun s hs => hw s (List.mem_cons_of_mem _ hs)) hd
    rw [List.append_assoc, List.singleton_append] at g
    have ws := hw s (List.mem_cons_self ..)
    exact PK.go (hdS ws _).1 (rdS ws d _ hd hr) g

/-! ### procedures -/

theorem ty_of {t : Int} (h1 : 1 ≤ t) (h3 : t ≤ 3) (r : T) : tyOp (tw (tyW t) :: r) = t := by
  have : t = 1 ∨ t = 2 ∨ t = 3 := by omega
  rcases this with rfl | rfl | rfl <;> rfl
theorem pPs_stop {k : Nat} {acc : List Pm} {l : T} {nm : ByteArray} {t : Int} (h1 : nm1 l = some nm) (h2 : isW l.tail [58] = true) (h3 : tyOp l.tail.tail = t) (h0 : t ≠ 0) (h4 : isW l.tail.tail.tail [41] = true) :
    pPs (k + 1) acc l = .ok (acc ++ [⟨nm, t⟩]) l.tail.tail.tail.tail := by
  rw [pPs, h1]
  simp only
  rw [if_pos h2, h3, if_neg h0, if_pos h4]
theorem pPs_go {k : Nat} {acc : List Pm} {l : T} {nm : ByteArray} {t : Int} (h1 : nm1 l = some nm) (h2 : isW l.tail [58] = true) (h3 : tyOp l.tail.tail = t) (h0 : t ≠ 0) (h4 : isW l.tail.tail.tail [41] = false) (h5 : isW l.tail.tail.tail [44] = true) :
    pPs (k + 1) acc l = pPs k (acc ++ [⟨nm, t⟩]) l.tail.tail.tail.tail := by
  rw [pPs, h1]
  simp only
  rw [if_pos h2, h3, if_neg h0, if_neg (by rw [h4]; decide), if_pos h5]
theorem pP_none {f : Nat} {l r : T} {nm : ByteArray} {b : List St} (h0 : isW l kProc = true) (h1 : nm1 l.tail = some nm) (h2 : isW l.tail.tail [40] = true) (h3 : isW l.tail.tail.tail [41] = true) (h4 : pB f 0 l.tail.tail.tail.tail = .ok b r) :
    pP f l = .ok ⟨nm, [], b⟩ r := by
  unfold pP
  rw [if_pos h0, h1]
  simp only
  rw [if_pos h2, if_pos h3]
  simp only
  rw [h4]
theorem pP_some {f : Nat} {l r r2 : T} {nm : ByteArray} {b : List St} {ps : List Pm} (h0 : isW l kProc = true) (h1 : nm1 l.tail = some nm) (h2 : isW l.tail.tail [40] = true) (h3 : isW l.tail.tail.tail [41] = false) (h4 : pPs f [] l.tail.tail.tail = .ok ps r) (h5 : pB f 0 r = .ok b r2) :
    pP f l = .ok ⟨nm, ps, b⟩ r2 := by
  unfold pP
  rw [if_pos h0, h1]
  simp only
  rw [if_pos h2, if_neg (by rw [h3]; decide), h4]
  simp only
  rw [h5]
theorem rdPs : ∀ (l acc : List Pm) (p : Pm) (rest : T), (∀ q ∈ p :: l, 1 ≤ q.ty ∧ q.ty ≤ 3) → ∃ F, ∀ f, F ≤ f → pPs f acc (⟨1, str p.name, 0, 0⟩ :: tw [58] :: tw (tyW p.ty) :: (tkPs l ++ tw [41] :: rest)) = .ok (acc ++ p :: l) rest
  | [], acc, p, rest, hw => by
    have ht := hw p (List.mem_cons_self ..)
    refine ⟨1, fun f hf => ?_⟩
    obtain ⟨k, rfl, hk⟩ := succ_of hf
    exact pPs_stop (l := ⟨1, str p.name, 0, 0⟩ :: tw [58] :: tw (tyW p.ty) :: tw [41] :: rest) (nm := p.name) rfl rfl (ty_of ht.1 ht.2 (tw [41] :: rest)) (by omega) rfl
  | q :: l, acc, p, rest, hw => by
    have ht := hw p (List.mem_cons_self ..)
    obtain ⟨F, g⟩ := rdPs l (acc ++ [p]) q rest (fun x hx => hw x (List.mem_cons_of_mem _ hx))
    rw [List.append_assoc, List.singleton_append] at g
    refine ⟨F + 1, fun f hf => ?_⟩
    obtain ⟨k, rfl, hk⟩ := succ_of hf
    exact (pPs_go (l := ⟨1, str p.name, 0, 0⟩ :: tw [58] :: tw (tyW p.ty) :: tw [44] :: ⟨1, str q.name, 0, 0⟩ :: tw [58] :: tw (tyW q.ty) :: (tkPs l ++ tw [41] :: rest)) (nm := p.name) rfl rfl (ty_of ht.1 ht.2 _) (by omega) rfl rfl).trans (g k hk)
theorem rdP {p : Pr} (w : WP p) (rest : T) : ∃ F, ∀ f, F ≤ f → pP f (tkP p ++ rest) = .ok p rest := by
  obtain ⟨nm, ps, body⟩ := p
  obtain ⟨B, hB2⟩ : PB 0 (tw [123] :: (tkB body ++ tw [125] :: rest)) (.ok body rest) := PB.ok rfl (by decide) (rdB (h := 12) body [] 0 rest w.body (by decide))
  cases ps with
  | nil =>
    refine ⟨B, fun f hf => ?_⟩
    have e : tkP ⟨nm, [], body⟩ ++ rest = tw kProc :: ⟨1, str nm, 0, 0⟩ :: tw [40] :: tw [41] :: tw [123] :: (tkB body ++ tw [125] :: rest) := by
      unfold tkP; simp only [List.cons_append, List.append_assoc, List.nil_append, tkPm]
    rw [e]
    exact pP_none (l := tw kProc :: ⟨1, str nm, 0, 0⟩ :: tw [40] :: tw [41] :: tw [123] :: (tkB body ++ tw [125] :: rest)) (nm := nm) rfl rfl rfl rfl (hB2 f hf)
  | cons q ps =>
    obtain ⟨F, g⟩ := rdPs ps [] q (tw [123] :: (tkB body ++ tw [125] :: rest)) (fun x hx => (w.params x hx).2)
    refine ⟨F + B, fun f hf => ?_⟩
    have e : tkP ⟨nm, q :: ps, body⟩ ++ rest = tw kProc :: ⟨1, str nm, 0, 0⟩ :: tw [40] :: ⟨1, str q.name, 0, 0⟩ :: tw [58] :: tw (tyW q.ty) :: (tkPs ps ++ tw [41] :: tw [123] :: (tkB body ++ tw [125] :: rest)) := by
      unfold tkP; simp only [List.cons_append, List.append_assoc, List.nil_append, tkPm]
    rw [e]
    exact pP_some (l := tw kProc :: ⟨1, str nm, 0, 0⟩ :: tw [40] :: ⟨1, str q.name, 0, 0⟩ :: tw [58] :: tw (tyW q.ty) :: (tkPs ps ++ tw [41] :: tw [123] :: (tkB body ++ tw [125] :: rest))) (nm := nm) rfl rfl rfl rfl (g f (by omega)) (hB2 f (by omega))
end Go.Proofs.YteglaeopaocilaaGreatDoor.P
