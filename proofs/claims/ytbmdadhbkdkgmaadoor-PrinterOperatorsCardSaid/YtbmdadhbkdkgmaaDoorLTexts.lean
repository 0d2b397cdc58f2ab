/-
  Plain mathematics of layer 7, without the program: joined tokens are read back; the tokens of a text; two texts with a line feed between them.
-/
import Derived.Test.YtbmdadhbkdkgmaaDoorLFacts
import Derived.Lib.ItoaLen
namespace Go.Proofs.YtbmdadhbkdkgmaaDoor.L
open Go.Lib (itoa decDigits)

/-! ### skp -/

theorem skp_keep {c : UInt8} {r : Str} (h1 : c.toNat ≠ 35) (h2 : c.toNat ≠ 32) (h3 : c.toNat ≠ 9) (h4 : c.toNat ≠ 10) : skp false (c :: r) = c :: r := by
  rw [skp, if_neg h1, if_neg (by omega)]
theorem skp_space (r : Str) : skp false (32 :: r) = skp false r := by rw [skp, if_neg (by decide), if_pos (by decide)]
theorem skp_lf (r : Str) : skp false (10 :: r) = skp false r := by rw [skp, if_neg (by decide), if_pos (by decide)]
/-- what is skipped is all blanks and comments: no token begins there -/
theorem skp_suffix (b : Bool) (l : Str) : skp b l <:+ l := by
  induction l generalizing b with
  | nil => cases b <;> simp [skp]
  | cons c r ih =>
    cases b
    · rw [skp]
      split
      · exact (ih true).trans (List.suffix_cons c r)
      · split
        · exact (ih false).trans (List.suffix_cons c r)
        · exact List.suffix_refl _
    · rw [skp]
      split
      · exact (ih false).trans (List.suffix_cons c r)
      · exact (ih true).trans (List.suffix_cons c r)
theorem nf_suffix {a b : Str} (h : a <:+ b) : nf a ≤ nf b := h.sublist.countP_le
theorem skp_app (b : Bool) (l z : Str) : (skp b l ≠ [] → skp b (l ++ 10 :: z) = skp b l ++ 10 :: z) ∧ (skp b l = [] → skp b (l ++ 10 :: z) = skp false z) := by
  induction l generalizing b with
  | nil =>
    refine ⟨fun h => absurd (by cases b <;> rfl) h, fun _ => ?_⟩
    cases b
    · exact skp_lf z
    · rw [List.nil_append, skp, if_pos (by decide)]
  | cons c r ih =>
    cases b
    · rw [List.cons_append, skp, skp]
      split
      · exact ih true
      · split
        · exact ih false
        · exact ⟨fun _ => rfl, fun h => by cases h⟩
    · rw [List.cons_append, skp, skp]
      split
      · exact ih false
      · exact ih true

/-! ### joined tokens -/

theorem jn_cons (t : Tok) (l : List Tok) : ∃ z, jn (t :: l) = txt t ++ z ∧ ((l = [] ∧ z = []) ∨ (l ≠ [] ∧ z = 32 :: jn l)) := by
  cases l with
  | nil => exact ⟨[], by rw [jn, List.append_nil], Or.inl ⟨rfl, rfl⟩⟩
  | cons u r => exact ⟨32 :: jn (u :: r), by rw [jn], Or.inr ⟨by simp, rfl⟩⟩
theorem jn_prt : ∀ {l : List Tok}, l.all valid = true → (jn l).all prt = true
  | [], _ => rfl
  | t :: l, h => by
    rw [List.all_cons, Bool.and_eq_true] at h
    obtain ⟨_, _, _, _, _, _, _, hp⟩ := txt_head h.1
    obtain ⟨z, e, hz⟩ := jn_cons t l
    rw [e, List.all_append, hp]
    rcases hz with ⟨_, rfl⟩ | ⟨_, rfl⟩
    · rfl
    · rw [List.all_cons, jn_prt h.2]; rfl
theorem nf_jn {l : List Tok} (h : l.all valid = true) : nf (jn l) = 0 := nf_prt (jn_prt h)
/-- (P7.4) joined tokens are read back, each at line 1 -/
theorem tkz_jn : ∀ {l : List Tok}, l.all valid = true → (∀ t ∈ l, t.n ≤ 9223372036854775807) → tkz 0 (jn l) = (l.map (fun t => { t with line := 1 }), 0, 0)
  | [], _, _ => by rw [jn]; exact tkz_end rfl
  | t :: l, h, hn => by
    have h0 := h
    rw [List.all_cons, Bool.and_eq_true] at h
    obtain ⟨c, r, e, h1, h2, h3, h4, _⟩ := txt_head h.1
    obtain ⟨z, ej, hz⟩ := jn_cons t l
    have hnf := nf_jn h0
    have hsep : Sep z := by
      rcases hz with ⟨_, rfl⟩ | ⟨_, rfl⟩
      · exact Or.inl rfl
      · exact Or.inr ⟨32, _, rfl, Or.inl rfl⟩
    have ht := tok_txt h.1 (hn t List.mem_cons_self) hsep
    have ih := tkz_jn h.2 fun u hu => hn u (List.mem_cons_of_mem _ hu)
    have hz2 : tkz 0 z = tkz 0 (jn l) := by
      rcases hz with ⟨rfl, rfl⟩ | ⟨_, rfl⟩
      · rw [jn]
      · cases hs : skp false (jn l) with
        | nil => rw [tkz_end hs, tkz_end (by rw [skp_space, hs])]
        | cons d y =>
          have hs2 : skp false (32 :: jn l) = d :: y := by rw [skp_space, hs]
          by_cases he : (tok (d :: y)).2.2 = 0
          · rw [tkz_ok hs he, tkz_ok hs2 he]
          · rw [tkz_err hs he, tkz_err hs2 he]
    have ej2 : jn (t :: l) = c :: (r ++ z) := by rw [ej, e, List.cons_append]
    rw [ej, e, List.cons_append] at hnf
    have hs : skp false (jn (t :: l)) = c :: (r ++ z) := by rw [ej2]; exact skp_keep h1 h2 h3 h4
    have ht2 : tok (c :: (r ++ z)) = ({ t with line := 0 }, z, 0) := by rw [← List.cons_append, ← e]; exact ht
    rw [tkz_ok hs (by rw [ht2]), ht2, hz2, ih, hnf]
    rfl
theorem txt_len {t : Tok} (h : valid t = true) (hn : t.n ≤ 9223372036854775807) : (txt t).length ≤ 130 := by
  unfold valid at h
  unfold txt
  by_cases k1 : t.k = 1
  · rw [if_pos k1, Bool.and_eq_true] at h
    rw [if_neg (by omega), if_neg (by omega)]
    have := (isName_iff.1 h.1).1
    omega
  · rw [if_neg k1] at h
    by_cases k2 : t.k = 2
    · rw [if_pos k2, Bool.and_eq_true] at h
      rw [if_neg (by omega), if_neg (by omega)]
      have := (kw_all _ (of_decide_eq_true h.1)).2.2.2
      omega
    · rw [if_neg k2] at h
      by_cases k3 : t.k = 3
      · rw [if_pos k3, Bool.and_eq_true] at h
        rw [if_pos k3]
        have h0 : 0 ≤ t.n := of_decide_eq_true h.2
        have hs := Lib.itoa_length_le t.n (by omega) hn
        omega
      · rw [if_neg k3] at h
        rw [if_neg k3]
        by_cases k4 : t.k = 4
        · rw [if_pos k4, Bool.and_eq_true, Bool.and_eq_true] at h
          rw [if_pos k4]
          have h1 : t.t.length ≤ 64 := of_decide_eq_true h.1.1
          have := esc_len t.t
          unfold quo
          rw [List.length_cons, List.length_append]
          simp only [List.length_singleton]
          omega
        · rw [if_neg k4] at h
          rw [if_neg k4]
          by_cases k5 : t.k = 5
          · rw [if_pos k5, Bool.and_eq_true] at h
            have := (marks_all _ (of_decide_eq_true h.1)).2.1
            omega
          · rw [if_neg k5] at h; cases h
theorem jn_len : ∀ {l : List Tok}, l.all valid = true → (∀ t ∈ l, t.n ≤ 9223372036854775807) → (jn l).length ≤ 131 * l.length
  | [], _, _ => Nat.zero_le _
  | t :: l, h, hn => by
    rw [List.all_cons, Bool.and_eq_true] at h
    have h1 := txt_len h.1 (hn t List.mem_cons_self)
    have ih := jn_len h.2 fun u hu => hn u (List.mem_cons_of_mem _ hu)
    obtain ⟨z, e, hz⟩ := jn_cons t l
    rw [e, List.length_append, List.length_cons]
    rcases hz with ⟨_, rfl⟩ | ⟨_, rfl⟩
    · simp; omega
    · rw [List.length_cons]; omega

/-! ### the tokens of a text -/

/-- what is known of the tokens of a text -/
structure Good (N : Nat) (l : Str) (ts : List Tok) : Prop where
  val : ts.all valid = true
  held : ∀ t ∈ ts, -9223372036854775808 ≤ t.n ∧ t.n ≤ 9223372036854775807
  low : ∀ t ∈ ts, 1 + (N : Int) - nf l ≤ t.line ∧ t.line ≤ 1 + (N : Int)
  up : ts.Pairwise fun t u => t.line ≤ u.line
  len : (jn ts).length ≤ 2 * l.length
  cnt : ts.length ≤ l.length
theorem tkz_good : ∀ (n N : Nat) (l : Str), l.length ≤ n → ∀ ts, tkz N l = (ts, 0, 0) → Good N l ts := by
  intro n
  induction n with
  | zero =>
    intro N l hl ts h
    obtain rfl : l = [] := List.length_eq_zero_iff.1 (by omega)
    rw [tkz_end rfl] at h
    obtain rfl := (Prod.mk.inj h).1
    exact ⟨rfl, fun t ht => (by cases ht), fun t ht => (by cases ht), List.Pairwise.nil, Nat.zero_le _, Nat.zero_le _⟩
  | succ n ih =>
    intro N l hl ts h
    cases hs : skp false l with
    | nil =>
      rw [tkz_end hs] at h
      obtain rfl := (Prod.mk.inj h).1
      exact ⟨rfl, fun t ht => (by cases ht), fun t ht => (by cases ht), List.Pairwise.nil, Nat.zero_le _, Nat.zero_le _⟩
    | cons c r =>
      have hsuf := skp_suffix false l
      rw [hs] at hsuf
      have hle := hsuf.length_le
      have hnf := nf_suffix hsuf
      by_cases he : (tok (c :: r)).2.2 = 0
      · rw [tkz_ok hs he] at h
        obtain ⟨h1, h2⟩ := joinT_ok h
        obtain ⟨b1, b2, b3, b4, b5⟩ := tok_back he
        have hlt := tok_len he
        have hl2 := congrArg List.length b2
        rw [List.length_append] at hl2
        have hn2 : nf (c :: r) = nf (txt (tok (c :: r)).1) + nf (tok (c :: r)).2.1 := by
          have := congrArg nf b2
          rw [nf_app] at this
          exact this
        obtain ⟨_, _, ex, _, _, _, _, hp⟩ := txt_head b1
        rw [nf_prt hp, Nat.zero_add] at hn2
        have hf := tkz_form _ N (tok (c :: r)).2.1 (Nat.le_refl _)
        have hq : tkz N (tok (c :: r)).2.1 = ((tkz N (tok (c :: r)).2.1).1, 0, 0) := by
          have e1 := hf.1 h1
          generalize tkz N (tok (c :: r)).2.1 = q at h1 e1
          obtain ⟨q1, q2, q3⟩ := q
          simp only at h1 e1
          rw [h1, e1]
        have g := ih N _ (by omega) _ hq
        rw [← h2]
        generalize (tkz N (tok (c :: r)).2.1).1 = us at g
        generalize (tok (c :: r)).2.1 = rest at g hn2 hl2
        have hv2 : valid { (tok (c :: r)).1 with line := 1 + (N : Int) - nf (c :: r) } = true := b1
        have ht2 : txt { (tok (c :: r)).1 with line := 1 + (N : Int) - nf (c :: r) } = txt (tok (c :: r)).1 := rfl
        have hpos : 1 ≤ (txt (tok (c :: r)).1).length := by rw [ex]; simp
        refine ⟨?_, ?_, ?_, ?_, ?_, ?_⟩
        · rw [List.singleton_append, List.all_cons, hv2, g.val]; rfl
        · intro t ht
          rw [List.singleton_append] at ht
          rcases List.mem_cons.1 ht with rfl | ht
          · exact ⟨b4, b5⟩
          · exact g.held t ht
        · intro t ht
          rw [List.singleton_append] at ht
          rcases List.mem_cons.1 ht with rfl | ht
          · constructor
            · show _ ≤ 1 + (N : Int) - nf (c :: r); omega
            · show 1 + (N : Int) - nf (c :: r) ≤ _; omega
          · have := g.low t ht
            omega
        · rw [List.singleton_append, List.pairwise_cons]
          refine ⟨fun u hu => ?_, g.up⟩
          have := (g.low u hu).1
          show 1 + (N : Int) - nf (c :: r) ≤ u.line
          omega
        · rw [List.singleton_append]
          obtain ⟨z, e, hz⟩ := jn_cons { (tok (c :: r)).1 with line := 1 + (N : Int) - nf (c :: r) } us
          rw [e, ht2, List.length_append]
          have := g.len
          rcases hz with ⟨_, rfl⟩ | ⟨_, rfl⟩
          · simp; omega
          · rw [List.length_cons]; omega
        · have := g.cnt
          rw [List.singleton_append, List.length_cons]
          omega
      · rw [tkz_err hs he] at h
        exact absurd (congrArg (fun x : Res => x.2.2) h) he

/-! ### two texts with a line feed between them -/

theorem litr_app {out l s rest : Str} (ho : out.length ≤ 64) (h : litr out l = (s, rest, 0)) (z : Str) : litr out (l ++ z) = (s, rest ++ z, 0) := by
  obtain ⟨x, g1, g2, g3, g4⟩ := litr_ok _ l out s rest (Nat.le_refl _) ho h
  rw [g2, List.append_assoc, List.cons_append, litr_esc x out (rest ++ z) g3 (by rw [g1, List.length_append] at g4; omega), g1]
theorem pre_app {m : Str} (hm : (10 : UInt8) ∉ m) : ∀ (l z : Str), m.isPrefixOf (l ++ 10 :: z) = m.isPrefixOf l := by
  induction m with
  | nil => intro l z; cases l <;> rfl
  | cons a m ih =>
    intro l z
    have ha : a ≠ 10 := fun e => hm (by rw [e]; exact List.mem_cons_self)
    have hm2 : (10 : UInt8) ∉ m := fun h => hm (List.mem_cons_of_mem _ h)
    cases l with
    | nil =>
      rw [List.nil_append]
      simp [List.isPrefixOf, ha]
    | cons b l =>
      rw [List.cons_append]
      simp only [List.isPrefixOf]
      rw [ih hm2 l z]
theorem mark_app (l z : Str) : mark (l ++ 10 :: z) = mark l := by
  have key : ∀ ms : List Str, (∀ m ∈ ms, (10 : UInt8) ∉ m) → (ms.find? fun m => m.isPrefixOf (l ++ 10 :: z)) = ms.find? fun m => m.isPrefixOf l := by
    intro ms
    induction ms with
    | nil => intro _; rfl
    | cons m ms ih =>
      intro h
      rw [List.find?_cons, List.find?_cons, pre_app (h m List.mem_cons_self), ih fun x hx => h x (List.mem_cons_of_mem _ hx)]
  exact key marks fun m hm => (marks_all m hm).2.2.1
theorem tok_app {l : Str} {t : Tok} {rest : Str} (h : tok l = (t, rest, 0)) (z : Str) : tok (l ++ 10 :: z) = (t, rest ++ 10 :: z, 0) := by
  cases l with
  | nil => exact absurd (show (5 : Int) = 0 from congrArg (fun x : Tok × Str × Int => x.2.2) h) (by decide)
  | cons c r =>
    rw [List.cons_append]
    by_cases h1 : c.toNat = 34
    · have ht : tok (c :: r) = (⟨4, (litr [] r).1, 0, 0⟩, (litr [] r).2.1, (litr [] r).2.2) := by unfold tok; simp only; rw [if_pos h1]
      have ht2 : tok (c :: (r ++ 10 :: z)) = (⟨4, (litr [] (r ++ 10 :: z)).1, 0, 0⟩, (litr [] (r ++ 10 :: z)).2.1, (litr [] (r ++ 10 :: z)).2.2) := by unfold tok; simp only; rw [if_pos h1]
      rw [ht] at h
      obtain ⟨e1, h⟩ := Prod.mk.inj h
      obtain ⟨e2, e3⟩ := Prod.mk.inj h
      have := litr_app (s := (litr [] r).1) (rest := (litr [] r).2.1) (Nat.zero_le _) (by rw [← e3]) (10 :: z)
      rw [ht2, this, ← e1, ← e2]
    · by_cases h2 : part c = true
      · have hlf : part 10 = false := by decide
        have key : ∀ s : Str, (s ++ 10 :: z).takeWhile part = s.takeWhile part ∧ (s ++ 10 :: z).dropWhile part = s.dropWhile part ++ 10 :: z := by
          intro s
          induction s with
          | nil =>
            rw [List.nil_append, List.takeWhile_cons, List.dropWhile_cons, if_neg (by rw [hlf]; decide), if_neg (by rw [hlf]; decide)]
            exact ⟨rfl, rfl⟩
          | cons d s ih =>
            rw [List.cons_append, List.takeWhile_cons, List.dropWhile_cons, List.takeWhile_cons, List.dropWhile_cons]
            cases hd : part d
            · exact ⟨rfl, rfl⟩
            · rw [if_pos rfl, if_pos rfl, if_pos rfl, if_pos rfl, ih.1, ih.2]; exact ⟨rfl, rfl⟩
        obtain ⟨k1, k2⟩ := key (c :: r)
        rw [List.cons_append] at k1 k2
        rw [tok_word h1 h2] at h ⊢
        rw [k1, k2]
        obtain ⟨e1, h⟩ := Prod.mk.inj h
        obtain ⟨e2, e3⟩ := Prod.mk.inj h
        rw [e1, e2, e3]
      · have ht : ∀ x : Str, tok (c :: x) = match mark (c :: x) with
            | some m => (⟨5, m, 0, 0⟩, (c :: x).drop m.length, 0)
            | none => (noTok, [], 5) := fun x => by unfold tok; simp only; rw [if_neg h1, if_neg h2]; rfl
        have hm := mark_app (c :: r) z
        rw [List.cons_append] at hm
        rw [ht] at h ⊢
        rw [hm]
        cases hc : mark (c :: r) with
        | none => rw [hc] at h; simp at h
        | some m =>
          rw [hc] at h
          obtain ⟨e1, h⟩ := Prod.mk.inj h
          obtain ⟨e2, -⟩ := Prod.mk.inj h
          obtain ⟨_, y, g2⟩ := mark_some hc
          simp only
          rw [← e1, ← e2, ← List.cons_append, ← g2, List.append_assoc, List.drop_left, List.drop_left]
def movT (j : Int) (t : Tok) : Tok := { t with line := t.line + j }
/-- lines greater by j -/
def mov (j : Int) (r : Res) : Res := (r.1.map (movT j), (if r.2.2 = 0 then r.2.1 else r.2.1 + j), r.2.2)
theorem tkz_mov : ∀ (n N j : Nat) (l : Str), l.length ≤ n → tkz (N + j) l = mov j (tkz N l) := by
  intro n
  induction n with
  | zero =>
    intro N j l hl
    obtain rfl : l = [] := List.length_eq_zero_iff.1 (by omega)
    rw [tkz_end rfl, tkz_end rfl]; rfl
  | succ n ih =>
    intro N j l hl
    cases hs : skp false l with
    | nil => rw [tkz_end hs, tkz_end hs]; rfl
    | cons c r =>
      have hle := (skp_suffix false l).length_le
      rw [hs] at hle
      by_cases he : (tok (c :: r)).2.2 = 0
      · have hlt := tok_len he
        rw [tkz_ok hs he, tkz_ok hs he, ih N j _ (by omega)]
        generalize tkz N (tok (c :: r)).2.1 = q
        obtain ⟨q1, q2, q3⟩ := q
        unfold joinT mov
        simp only
        by_cases hq : q3 = 0
        · rw [if_neg (fun x => x hq), if_neg (fun x => x hq), if_pos rfl]
          simp only [List.singleton_append, List.map_cons, movT]
          congr 2
          congr 1
          omega
        · rw [if_pos hq, if_pos hq, if_neg hq]; rfl
      · rw [tkz_err hs he, tkz_err hs he]
        unfold mov
        simp only
        rw [if_neg he]
        congr 2
        omega
/-- (P7.4) -/
theorem tkz_app : ∀ (n N : Nat) (a b : Str) (ts : List Tok), a.length ≤ n → tkz N a = (ts, 0, 0) → tkz (N + (1 + nf b)) (a ++ 10 :: b) = joinT ts (tkz (N + (1 + nf b)) b) := by
  intro n
  induction n with
  | zero =>
    intro N a b ts ha h
    obtain rfl : a = [] := List.length_eq_zero_iff.1 (by omega)
    rw [tkz_end rfl] at h
    obtain rfl := (Prod.mk.inj h).1
    rw [List.nil_append]
    have hj : ∀ r : Res, (r.2.2 = 0 → r.2.1 = 0) → (r.2.2 ≠ 0 → r.1 = []) → joinT [] r = r := by
      intro r h1 h2
      obtain ⟨r1, r2, r3⟩ := r
      unfold joinT
      simp only at h1 h2 ⊢
      by_cases hr : r3 = 0
      · rw [if_neg (fun x => x hr), hr, h1 hr]; rfl
      · rw [if_pos hr, h2 hr]
    have hf := tkz_form _ (N + (1 + nf b)) b (Nat.le_refl _)
    rw [hj _ hf.1 hf.2]
    cases hs : skp false b with
    | nil => rw [tkz_end hs, tkz_end (by rw [skp_lf, hs])]
    | cons c r =>
      by_cases he : (tok (c :: r)).2.2 = 0
      · rw [tkz_ok hs he, tkz_ok (by rw [skp_lf, hs]) he]
      · rw [tkz_err hs he, tkz_err (by rw [skp_lf, hs]) he]
  | succ n ih =>
    intro N a b ts ha h
    obtain ⟨k1, k2⟩ := skp_app false a b
    cases hs : skp false a with
    | nil =>
      rw [tkz_end hs] at h
      obtain rfl := (Prod.mk.inj h).1
      have e := k2 hs
      have h0 := ih 0 [] b [] (Nat.zero_le _) (tkz_end rfl)
      have hf := tkz_form _ (N + (1 + nf b)) b (Nat.le_refl _)
      have hj : ∀ r : Res, (r.2.2 = 0 → r.2.1 = 0) → (r.2.2 ≠ 0 → r.1 = []) → joinT [] r = r := by
        intro r h1 h2
        obtain ⟨r1, r2, r3⟩ := r
        unfold joinT
        simp only at h1 h2 ⊢
        by_cases hr : r3 = 0
        · rw [if_neg (fun x => x hr), hr, h1 hr]; rfl
        · rw [if_pos hr, h2 hr]
      rw [hj _ hf.1 hf.2]
      cases hb : skp false b with
      | nil => rw [tkz_end hb, tkz_end (by rw [e, hb])]
      | cons c r =>
        by_cases he : (tok (c :: r)).2.2 = 0
        · rw [tkz_ok hb he, tkz_ok (by rw [e, hb]) he]
        · rw [tkz_err hb he, tkz_err (by rw [e, hb]) he]
    | cons c r =>
      have hle := (skp_suffix false a).length_le
      rw [hs] at hle
      have e := k1 (by rw [hs]; simp)
      rw [hs, List.cons_append] at e
      by_cases he : (tok (c :: r)).2.2 = 0
      · have hlt := tok_len he
        rw [tkz_ok hs he] at h
        obtain ⟨h1, h2⟩ := joinT_ok h
        have hf := tkz_form _ N (tok (c :: r)).2.1 (Nat.le_refl _)
        have hq : tkz N (tok (c :: r)).2.1 = ((tkz N (tok (c :: r)).2.1).1, 0, 0) := by
          have e1 := hf.1 h1
          generalize tkz N (tok (c :: r)).2.1 = q at h1 e1
          obtain ⟨q1, q2, q3⟩ := q
          simp only at h1 e1
          rw [h1, e1]
        have ha := tok_app (l := c :: r) (t := (tok (c :: r)).1) (rest := (tok (c :: r)).2.1) (by rw [← he]) b
        rw [List.cons_append] at ha
        have g := ih N _ b _ (by omega) hq
        have hn : nf (c :: (r ++ 10 :: b)) = nf (c :: r) + (1 + nf b) := by
          rw [← List.cons_append, nf_app, nf_lf]
        rw [tkz_ok e (by rw [ha]), ha]
        simp only
        rw [g, joinT_joinT, hn, ← h2]
        congr 2
        congr 1
        congr 1
        omega
      · rw [tkz_err hs he] at h
        exact absurd (congrArg (fun x : Res => x.2.2) h) he
end Go.Proofs.YtbmdadhbkdkgmaaDoor.L
