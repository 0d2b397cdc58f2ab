/-
  Laws of layer 7, walked over whatever the program's own functions return: LexerParts.
-/
import Derived.Test.YtaimmcibdepejaaDoorLLawsD
import Derived.Deep.DeepMust
namespace Go.Proofs.YtaimmcibdepejaaDoor.L
open Go.RowKit

/-- the tokens of two texts with a line feed between them -/
theorem tz_parts {a b : ByteArray} {ts : List Tok} (ha : a.size ≤ 400) (hb : b.size ≤ 400) (h : tz a.data.toList = (ts, 0, 0)) :
    tz (a ++ (⟨#[10]⟩ : ByteArray) ++ b).data.toList = joinT ts (mov (nf a.data.toList + 1) (tz b.data.toList)) := by
  have e : (a ++ (⟨#[10]⟩ : ByteArray) ++ b).data.toList = a.data.toList ++ 10 :: b.data.toList := by
    rw [append_list, append_list]; simp
  rw [size_len] at ha hb
  rw [e]
  unfold tz at h ⊢
  rw [if_neg (by omega)] at h
  have hl : (a.data.toList ++ 10 :: b.data.toList).length = a.data.toList.length + b.data.toList.length + 1 := by simp; omega
  have hm := tkz_mov _ (nf b.data.toList) (nf a.data.toList + 1) b.data.toList (Nat.le_refl _)
  rw [if_neg (by omega), if_neg (by omega), nf_app, nf_lf, tkz_app _ _ _ _ ts (Nat.le_refl _) h, show nf a.data.toList + (1 + nf b.data.toList) = nf b.data.toList + (nf a.data.toList + 1) from by omega, hm]
  rfl
theorem parts_ok {a b : ByteArray} {ts us : List Tok} (ha : a.size ≤ 400) (hb : b.size ≤ 400) (h : tz a.data.toList = (ts, 0, 0)) (h2 : tz b.data.toList = (us, 0, 0)) :
    tz (a ++ (⟨#[10]⟩ : ByteArray) ++ b).data.toList = (ts ++ us.map (movT ((nf a.data.toList + 1 : Nat) : Int)), 0, 0) := by
  rw [tz_parts ha hb h, h2]
  rfl
theorem parts_bad {a b : ByteArray} {ts us : List Tok} {x y : Int} (ha : a.size ≤ 400) (hb : b.size ≤ 400) (h : tz a.data.toList = (ts, 0, 0)) (h2 : tz b.data.toList = (us, x, y)) (hy : y ≠ 0) :
    tz (a ++ (⟨#[10]⟩ : ByteArray) ++ b).data.toList = ([], x + ((nf a.data.toList + 1 : Nat) : Int), y) := by
  rw [tz_parts ha hb h, h2]
  unfold joinT mov
  simp only
  rw [if_pos hy, if_neg hy]
  rfl
theorem parts_map (ts us : List Tok) (d : Int) : (ts ++ us.map (movT d)).map ofTok = ts.map ofTok ++ (us.map ofTok).map (mvT d) := by
  rw [List.map_append, List.map_map, List.map_map]; rfl
set_option maxRecDepth 100000 in
theorem parts_none {jb : Bool} {Tab : World → Prop} (O : Own jb Tab) (a b : ByteArray) (ha : a.size ≤ 400) (hb : b.size ≤ 400) (x y u v : Int) (n m : Nat) (hy : y ≠ 0) (w : World) (hT : Tab w)
    (g1 : ∀ w, Tab w → Calls Tryd.prog 12 #[.string a] w fun e w' => (∃ a1 c, e = .returned (.tuple #[.slice a1 n c, .int .i64 x, .int .i64 y])) ∧ Below w.heap.size w w')
    (g2 : ∀ w, Tab w → Calls Tryd.prog 12 #[.string b] w fun e w' => (∃ a1 c, e = .returned (.tuple #[.slice a1 m c, .int .i64 u, .int .i64 v])) ∧ Below w.heap.size w w') :
    Calls Tryd.prog 8 #[.string a, .string b] w fun e w' => e = .returned (.bool true) ∧ Below w.heap.size w w' := by
  have G1 := Lib.hid g1
  have G2 := Lib.hid g2
  have HSt := Lib.hid O.stays
  have HV := Lib.hid (lives_any O)
  have HT := Lib.hid hT
  have by0 : (y != 0) = true := bne_iff_ne.2 hy
  clear g1 g2 O hT hy
  go_enter Tryd.func8, Tryd.ntmps8
  go_wp2_with fail
  refine (G1.out _ HT.out).mono ?_; rintro e w1 ⟨⟨a1, c1, rfl⟩, hb1⟩
  have B1 := Lib.hid hb1
  clear hb1
  go_wp2_with fail
  refine (G2.out _ (HSt.out _ _ HT.out B1.out)).mono ?_; rintro e w2 ⟨⟨a2, c2, rfl⟩, hb2⟩
  have B2 := Lib.hid (below_2 B1.out hb2)
  clear hb2
  go_wp2_with fail
  refine (HV.out _ (HSt.out _ _ HT.out B2.out)).mono ?_; rintro e w7 ⟨rfl, hb7⟩
  go_wp2_with fail
  go_ret
  exact ⟨rfl, below_2 B2.out hb7⟩
set_option maxRecDepth 100000 in
theorem parts_half {jb : Bool} {Tab : World → Prop} (O : Own jb Tab) (a b : ByteArray) (ha : a.size ≤ 400) (hb : b.size ≤ 400) (x y : Int) (d n : Nat) (hd : d ≤ 400) (hx0 : 0 ≤ x) (hx1 : x ≤ 1000000) (hy : y ≠ 0) (w : World) (hT : Tab w)
    (g1 : ∀ w, Tab w → Calls Tryd.prog 12 #[.string a] w fun e w' => (∃ a1 c, e = .returned (.tuple #[.slice a1 n c, .int .i64 0, .int .i64 0])) ∧ Below w.heap.size w w')
    (g2 : ∀ w, Tab w → Calls Tryd.prog 12 #[.string b] w fun e w' => (∃ a1 c, e = .returned (.tuple #[.slice a1 0 c, .int .i64 x, .int .i64 y])) ∧ Below w.heap.size w w')
    (g3 : ∀ w, Tab w → Calls Tryd.prog 12 #[.string (a ++ (⟨#[10]⟩ : ByteArray) ++ b)] w fun e w' => (∃ a1 c, e = .returned (.tuple #[.slice a1 0 c, .int .i64 (x + ((d : Int) + 1)), .int .i64 y])) ∧ Below w.heap.size w w')
    (g4 : ∀ w, Calls Tryd.prog 23 #[.string a] w fun e w' => e = .returned (.int .i64 (d : Int)) ∧ w' = w) :
    Calls Tryd.prog 8 #[.string a, .string b] w fun e w' => e = .returned (.bool true) ∧ Below w.heap.size w w' := by
  have G1 := Lib.hid g1
  have G2 := Lib.hid g2
  have G3 := Lib.hid g3
  have G4 := Lib.hid g4
  have HSt := Lib.hid O.stays
  have HV := Lib.hid (lives_any O)
  have HT := Lib.hid hT
  have by0 : (y != 0) = true := bne_iff_ne.2 hy
  clear g1 g2 g3 g4 O hT hy
  go_enter Tryd.func8, Tryd.ntmps8
  go_wp2_with fail
  refine (G1.out _ HT.out).mono ?_; rintro e w1 ⟨⟨a1, c1, rfl⟩, hb1⟩
  have B1 := Lib.hid hb1
  clear hb1
  go_wp2_with fail
  refine (G2.out _ (HSt.out _ _ HT.out B1.out)).mono ?_; rintro e w2 ⟨⟨a2, c2, rfl⟩, hb2⟩
  have B2 := Lib.hid (below_2 B1.out hb2)
  clear hb2
  go_wp2_with fail
  refine (G3.out _ (HSt.out _ _ HT.out B2.out)).mono ?_; rintro e w3 ⟨⟨a3, c3, rfl⟩, hb3⟩
  have B3 := Lib.hid (below_2 B2.out hb3)
  clear hb3
  go_wp2_with fail
  refine (G4.out _).mono ?_; rintro e w4 ⟨rfl, rfl⟩
  go_wp2_with fail
  refine (HV.out _ (HSt.out _ _ HT.out B3.out)).mono ?_; rintro e w7 ⟨rfl, hb7⟩
  go_wp2_with fail
  go_ret
  exact ⟨rfl, below_2 B3.out hb7⟩
/-- an operation whose guard is met, as one without a guard -/
theorem wpList_unguard {P : Program} {ops : Array Oper} {rest : List Oper} {o : Oper} {a : Act} {w : World} {Q : Exit → Act → World → Prop} (hw : Region.wanted o (yielded ops a.tmps) = true)
    (h : wpList P ops Q ({ o with guard := none } :: rest) a w) : wpList P ops Q (o :: rest) a w := by
  have hn : Region.wanted { o with guard := none } (yielded ops a.tmps) = true := rfl
  unfold wpList at h ⊢
  rw [if_pos hw]
  rw [if_pos hn] at h
  exact h
set_option maxHeartbeats 2000000 in
set_option maxRecDepth 100000 in
theorem parts_core {jb : Bool} {Tab : World → Prop} (O : Own jb Tab) (a b : ByteArray) (ha : a.size ≤ 400) (hb : b.size ≤ 400) (d : Nat) (xs ys ms zs : List T) (hd : d ≤ 400) (hx : xs.length ≤ 400) (hm : ms.length ≤ 400) (hz : xs ++ ms = zs) (w : World) (hT : Tab w)
    (g1 : ∀ w, Tab w → Calls Tryd.prog 12 #[.string a] w fun e w' => (∃ a1 c, e = .returned (.tuple #[.slice a1 xs.length c, .int .i64 0, .int .i64 0]) ∧ Sl w' a1 c xs) ∧ Below w.heap.size w w')
    (g2 : ∀ w, Tab w → Calls Tryd.prog 12 #[.string b] w fun e w' => (∃ a1 c, e = .returned (.tuple #[.slice a1 ys.length c, .int .i64 0, .int .i64 0]) ∧ Sl w' a1 c ys) ∧ Below w.heap.size w w')
    (g3 : ∀ w, Tab w → Calls Tryd.prog 12 #[.string (a ++ (⟨#[10]⟩ : ByteArray) ++ b)] w fun e w' => (∃ a1 c, e = .returned (.tuple #[.slice a1 zs.length c, .int .i64 0, .int .i64 0]) ∧ Sl w' a1 c zs) ∧ Below w.heap.size w w')
    (g4 : ∀ w, Calls Tryd.prog 23 #[.string a] w fun e w' => e = .returned (.int .i64 (d : Int)) ∧ w' = w)
    (g5 : ∀ a c w, Tks w a ys → Calls Tryd.prog 24 #[.slice a ys.length c, .int .i64 ((d : Int) + 1)] w fun e w' => (∃ a1 c1, e = .returned (.slice a1 ms.length c1) ∧ Sl w' a1 c1 ms) ∧ Below w.heap.size w w')
    (g6 : ∀ a b c d w, Tks w a zs → Tks w b zs → Calls Tryd.prog 20 #[.slice a zs.length c, .slice b zs.length d] w fun e w' => e = .returned (.bool true) ∧ Below w.heap.size w w') :
    Calls Tryd.prog 8 #[.string a, .string b] w fun e w' => e = .returned (.bool true) ∧ Below w.heap.size w w' := by
  have G1 := Lib.hid g1
  have G2 := Lib.hid g2
  have G3 := Lib.hid g3
  have G4 := Lib.hid g4
  have G5 := Lib.hid g5
  have G6 := Lib.hid g6
  have HZ := Lib.hid hz
  have HSt := Lib.hid O.stays
  have HV := Lib.hid (lives_any O)
  have HT := Lib.hid hT
  clear g1 g2 g3 g4 g5 g6 O hT hz
  go_enter Tryd.func8, Tryd.ntmps8
  go_wp2_with fail
  refine (G1.out _ HT.out).mono ?_; rintro e w1 ⟨⟨a1, c1, rfl, hS1⟩, hb1⟩
  have B1 := Lib.hid hb1
  have S1 := Lib.hid hS1
  clear hb1 hS1
  go_wp2_with fail
  refine (G2.out _ (HSt.out _ _ HT.out B1.out)).mono ?_; rintro e w2 ⟨⟨a2, c2, rfl, hS2⟩, hb2⟩
  have B2 := Lib.hid (below_2 B1.out hb2)
  have S21 := Lib.hid (S1.out.below hb2)
  have S22 := Lib.hid hS2
  clear hb2 hS2
  go_wp2_with fail
  refine (G3.out _ (HSt.out _ _ HT.out B2.out)).mono ?_; rintro e w3 ⟨⟨a3, c3, rfl, hS3⟩, hb3⟩
  have B3 := Lib.hid (below_2 B2.out hb3)
  have S31 := Lib.hid (S21.out.below hb3)
  have S32 := Lib.hid (S22.out.below hb3)
  have S33 := Lib.hid hS3
  clear hb3 hS3
  go_wp2_with fail
  refine (G4.out _).mono ?_; rintro e w4 ⟨rfl, rfl⟩
  simp only []
  repeat (first | (at_builtin; go_must (refine wpList_unguard (by rfl) ?_; refine wpList_append_pairs rfl (.const (.slice none 0 0)) (.tmp 79) rfl w4.heap.size (.slice none 0 0) [] rfl (World.ownsRow_nil _ _ _ _) a1 c1 xs rfl S31.out (by simp; omega) (Nat.le_refl _) ?_; intro v1 w5 hown1 hgrow1; have HO1 := Lib.hid hown1; have HB5 := Lib.hid (below_grown (Below.refl w4.heap.size w4) (Nat.le_refl _) hgrow1 (fun g hg => by cases hg)); clear hown1 hgrow1)) | go_values | go_skip | go_guarded | go_step | go_upon | go_back)
  refine (G5.out _ _ _ (S32.out.prs.below HB5.out)).mono ?_; rintro e w6 ⟨⟨a4, c4, rfl, hS4⟩, hb6⟩
  have S4 := Lib.hid hS4
  have HO6 := Lib.hid (own_belowO HO1.out hb6)
  have HB6 := Lib.hid (HB5.out.trans (hb6.mono HB5.out.size))
  have hz6 := HB6.out.size
  clear hS4 hb6
  simp only []
  repeat (first | (at_builtin; go_must (refine wpList_unguard (by rfl) ?_; refine wpList_append_pairs rfl (.tmp 80) (.tmp 83) rfl w4.heap.size v1 xs rfl HO6.out a4 c4 ms rfl S4.out (by omega) hz6 ?_; intro v2 w7 hown2 hgrow2; rw [HZ.out] at hown2; obtain ⟨a5, c5, rfl, hS5⟩ := own_sl hown2; have S5 := Lib.hid hS5.prs; have HB7 := Lib.hid (below_grown HB6.out hz6 hgrow2 (own_ge HO6.out)); clear hown2 hgrow2 hS5)) | go_values | go_skip | go_guarded | go_step | go_upon | go_back)
  refine (G6.out _ _ _ _ _ (S33.out.prs.below HB7.out) S5.out).mono ?_; rintro e w8 ⟨rfl, hb8⟩
  have HB8 := Lib.hid (below_2 (below_2 B3.out HB7.out) hb8)
  clear hb8
  go_wp2_with fail
  refine (HV.out _ (HSt.out _ _ HT.out HB8.out)).mono ?_; rintro e w9 ⟨rfl, hb9⟩
  go_wp2_with fail
  go_ret
  exact ⟨rfl, below_2 HB8.out hb9⟩
theorem tkzF_line : ∀ (n N : Nat) (l : Str), nf l ≤ N → 0 ≤ (tkzF n N l).2.1 ∧ (tkzF n N l).2.1 ≤ 1 + (N : Int)
  | 0, N, _, _ => ⟨Int.le_refl _, by show (0 : Int) ≤ _; omega⟩
  | n + 1, N, l, h => by
    rw [tkzF.eq_def]
    simp only
    cases hs : skp false l with
    | nil => exact ⟨Int.le_refl _, by show (0 : Int) ≤ _; omega⟩
    | cons c r =>
      have h1 := nf_suffix (skp_suffix false l)
      rw [hs] at h1
      simp only
      by_cases he : (tok (c :: r)).2.2 = 0
      · rw [if_neg (fun x => x he)]
        obtain ⟨_, b2, _⟩ := tok_back he
        have h2 := nf_app (txt (tok (c :: r)).1) (tok (c :: r)).2.1
        rw [← b2] at h2
        have ih := tkzF_line n N (tok (c :: r)).2.1 (by omega)
        unfold joinT
        split
        · exact ih
        · exact ⟨Int.le_refl _, by show (0 : Int) ≤ _; omega⟩
      · rw [if_pos he]
        show 0 ≤ 1 + (N : Int) - nf (c :: r) ∧ 1 + (N : Int) - nf (c :: r) ≤ 1 + (N : Int)
        omega
theorem tz_line {s : ByteArray} {l : List Tok} {x y : Int} (hs : s.size ≤ 400) (h : tz s.data.toList = (l, x, y)) : 0 ≤ x ∧ x ≤ 1000000 := by
  have h1 := nf_len s.data.toList
  rw [← size_len] at h1
  unfold tz at h
  rw [if_neg (by rw [← size_len]; omega)] at h
  have h2 := tkzF_line (s.data.toList.length + 1) (nf s.data.toList) s.data.toList (Nat.le_refl _)
  rw [show tkzF (s.data.toList.length + 1) (nf s.data.toList) s.data.toList = (l, x, y) from h] at h2
  simp only at h2
  omega
theorem lf_size : (⟨#[10]⟩ : ByteArray).size = 1 := rfl
set_option maxRecDepth 100000 in
theorem parts_walk {jb : Bool} {Tab : World → Prop} (O : Own jb Tab) (a b : ByteArray) (hza : a.size ≤ 9223372036854775807) (hzb : b.size ≤ 9223372036854775807) (w : World) (hT : Tab w) :
    Calls Tryd.prog 8 #[.string a, .string b] w fun e w' => e = .returned (.bool true) ∧ Below w.heap.size w w' := by
  by_cases h : a.size ≤ 400 ∧ b.size ≤ 400
  · obtain ⟨ha, hb⟩ := h
    have g1 := O.tz a (by omega)
    have g2 := O.tz b (by omega)
    have g3 := O.tz (a ++ (⟨#[10]⟩ : ByteArray) ++ b) (by rw [ByteArray.size_append, ByteArray.size_append, lf_size]; omega)
    have g4 := fun w => rfeeds_any a (by omega) w
    have hnf := nf_len a.data.toList
    rw [← size_len] at hnf
    obtain ⟨⟨ts, x, y⟩, hr⟩ : ∃ r, tz a.data.toList = r := ⟨_, rfl⟩
    obtain ⟨⟨us, u, v⟩, hq⟩ : ∃ r, tz b.data.toList = r := ⟨_, rfl⟩
    rw [hr] at g1
    rw [hq] at g2
    by_cases hy : y = 0
    · subst hy
      obtain rfl := tz_fine hr
      have G1 := goodT (by omega) hr
      by_cases hv : v = 0
      · subst hv
        obtain rfl := tz_fine hq
        have G2 := goodT (by omega) hq
        rw [parts_ok ha hb hr hq] at g3
        have e3 := parts_map ts us ((nf a.data.toList + 1 : Nat) : Int)
        have g3' : ∀ w, Tab w → Calls Tryd.prog 12 #[.string (a ++ (⟨#[10]⟩ : ByteArray) ++ b)] w fun e w' => (∃ a1 c, e = .returned (.tuple #[.slice a1 (ts.map ofTok ++ (us.map ofTok).map (mvT ((nf a.data.toList : Nat) + 1 : Int))).length c, .int .i64 0, .int .i64 0]) ∧ Sl w' a1 c (ts.map ofTok ++ (us.map ofTok).map (mvT ((nf a.data.toList : Nat) + 1 : Int)))) ∧ Below w.heap.size w w' := by
          intro w hw
          rw [show ((nf a.data.toList : Nat) + 1 : Int) = ((nf a.data.toList + 1 : Nat) : Int) from by omega, ← e3]
          exact g3 w hw
        clear g3 e3
        have g1' : ∀ w, Tab w → Calls Tryd.prog 12 #[.string a] w fun e w' => (∃ a1 c, e = .returned (.tuple #[.slice a1 (ts.map ofTok).length c, .int .i64 0, .int .i64 0]) ∧ Sl w' a1 c (ts.map ofTok)) ∧ Below w.heap.size w w' := g1
        have g2' : ∀ w, Tab w → Calls Tryd.prog 12 #[.string b] w fun e w' => (∃ a1 c, e = .returned (.tuple #[.slice a1 (us.map ofTok).length c, .int .i64 0, .int .i64 0]) ∧ Sl w' a1 c (us.map ofTok)) ∧ Below w.heap.size w w' := g2
        clear g1 g2
        generalize ts.map ofTok = xs at G1 g1' g3'
        generalize us.map ofTok = ys at G2 g2' g3'
        have hx := G1.len
        have hyl := G2.len
        exact parts_core O a b ha hb (nf a.data.toList) xs ys (ys.map (mvT ((nf a.data.toList : Nat) + 1 : Int))) _ (by omega) (by omega) (by rw [List.length_map]; omega) rfl w hT g1' g2' g3' g4
          (fun a1 c1 w1 hA => rmoved_any a1 c1 ys _ (by omega) (by omega) (by omega) (fun j hj => by have h1 := (G2.val j hj).2.1; have h2 := G2.hi j hj; omega) w1 hA)
          (fun a1 b1 c1 d1 w1 h1 h2 => (rsame_any a1 b1 c1 d1 _ _ (by rw [List.length_append, List.length_map]; omega) w1 h1 h2).mono fun e w' hh => by rw [same_self] at hh; exact hh)
      · obtain rfl := tz_bad hq hv
        rw [parts_bad ha hb hr hq hv] at g3
        obtain ⟨hl0, hl1⟩ := tz_line hb hq
        refine parts_half O a b ha hb u v (nf a.data.toList) (ts.map ofTok).length (by omega) hl0 hl1 hv w hT (fun w h => (g1 w h).mono fun e w' ⟨⟨a1, c1, h1, _⟩, h2⟩ => ⟨⟨a1, c1, h1⟩, h2⟩) (fun w h => (g2 w h).mono fun e w' ⟨⟨a1, c1, h1, _⟩, h2⟩ => ⟨⟨a1, c1, h1⟩, h2⟩) ?_ g4
        intro w h
        refine (g3 w h).mono ?_
        rintro e w' ⟨⟨a1, c1, h1, _⟩, h2⟩
        refine ⟨⟨a1, c1, ?_⟩, h2⟩
        rw [h1]
        rfl
    · exact parts_none O a b ha hb x y u v _ _ hy w hT (fun w h => (g1 w h).mono fun e w' ⟨⟨a1, c1, h1, _⟩, h2⟩ => ⟨⟨a1, c1, h1⟩, h2⟩) (fun w h => (g2 w h).mono fun e w' ⟨⟨a1, c1, h1, _⟩, h2⟩ => ⟨⟨a1, c1, h1⟩, h2⟩)
  · have HW := Lib.hid (lives_any O w hT)
    by_cases ha : a.size ≤ 400
    · have hb : 400 < b.size := by omega
      clear O hT h
      go_enter Tryd.func8, Tryd.ntmps8
      go_wp2_with (go_at_call 10; refine HW.out.mono ?_; rintro e w9 ⟨rfl, hb9⟩)
      go_ret
      exact ⟨rfl, hb9⟩
    · clear O hT h
      go_enter Tryd.func8, Tryd.ntmps8
      go_wp2_with (go_at_call 10; refine HW.out.mono ?_; rintro e w9 ⟨rfl, hb9⟩)
      go_ret
      exact ⟨rfl, hb9⟩
end Go.Proofs.YtaimmcibdepejaaDoor.L
