/-
  What the program's functions of layer 8 return: fillsOthers, stmtError: contracts.
-/
import Derived.Test.YtbmdadhbkdkgmaaDoorGE
import Derived.Deep.Cut
namespace Go.Proofs.YtbmdadhbkdkgmaaDoor.A
open Go.RowKit
open L (Str isName prt size_len below_2 below_box ret_bool ret_int eql_eq bytes_eq)

/-- the operations that follow a cut -/
def Rest (l : List Oper) (_ _ : Unit) : List Oper := l
/-- a list of operations cut in two: what is known between -/
theorem wpList_cut {P : Program} {ops : Array Oper} {Q : Exit → Act → World → Prop} {a : Act} {w : World} (n : Nat) {l : List Oper} (mid : Act → World → Prop)
    (h1 : ∀ B, Hid (∀ a w, mid a w → wpList P ops Q (Rest B () ()) a w) → wpList P ops Q (l.take n ++ Rest B () ()) a w) (h2 : ∀ a w, mid a w → wpList P ops Q (l.drop n) a w) : wpList P ops Q l a w := by
  rw [← List.take_append_drop n l]
  exact h1 _ h2
theorem used_bits (o : Int) : hasB (usedI o) 1 = uN o ∧ hasB (usedI o) 4 = uA o ∧ hasB (usedI o) 8 = uB o ∧ hasB (usedI o) 16 = uD o ∧ hasB (usedI o) 32 = uE o ∧ (1 ≤ o → o ≤ 8 → hasB (usedI o) 2 = uM o) ∧ ((usedI o == 0) = (decide (o < 1) || decide (8 < o))) := by
  by_cases h : 1 ≤ o ∧ o ≤ 8
  · obtain ⟨h1, h2⟩ := h
    have : o = 1 ∨ o = 2 ∨ o = 3 ∨ o = 4 ∨ o = 5 ∨ o = 6 ∨ o = 7 ∨ o = 8 := by omega
    rcases this with rfl | rfl | rfl | rfl | rfl | rfl | rfl | rfl <;> decide
  · have h1 : ¬ o = 1 := by omega
    have h2 : ¬ o = 2 := by omega
    have h3 : ¬ o = 3 := by omega
    have h4 : ¬ o = 4 := by omega
    have h5 : ¬ o = 5 := by omega
    have h6 : ¬ o = 6 := by omega
    have h7 : ¬ o = 7 := by omega
    have h8 : ¬ o = 8 := by omega
    have hu : usedI o = 0 := by unfold usedI; simp [h1, h2, h3, h4, h5, h6, h7, h8]
    rw [hu]
    refine ⟨?_, ?_, ?_, ?_, ?_, fun a b => absurd ⟨a, b⟩ h, ?_⟩
    · unfold uN; rw [decide_eq_false (by omega)]; decide
    · unfold uA; rw [decide_eq_false (by omega)]; decide
    · unfold uB; rw [decide_eq_false (by omega)]; decide
    · unfold uD; rw [decide_eq_false (by omega)]; decide
    · unfold uE; rw [decide_eq_false (by omega)]; decide
    · rw [← Bool.decide_or, decide_eq_true (by omega)]; rfl
/-- a field that is not used is filled -/
def fillB (s : St) : Bool := (!decide (s.name.size = 0) && !hasB (usedI s.op) 1) || ((s.mx != 0) && !hasB (usedI s.op) 2) || (!absent s.a && !hasB (usedI s.op) 4) || (!absent s.b && !hasB (usedI s.op) 8) || (decide (0 < (s.body.length : Int)) && !hasB (usedI s.op) 16) || (decide (0 < (s.els.length : Int)) && !hasB (usedI s.op) 32)
theorem fill_def (s : St) : fillB s = ((!decide (s.name.size = 0) && !hasB (usedI s.op) 1) || ((s.mx != 0) && !hasB (usedI s.op) 2) || (!absent s.a && !hasB (usedI s.op) 4) || (!absent s.b && !hasB (usedI s.op) 8) || (decide (0 < (s.body.length : Int)) && !hasB (usedI s.op) 16) || (decide (0 < (s.els.length : Int)) && !hasB (usedI s.op) 32)) := rfl
theorem empty_len {α : Type} (l : List α) : (!l.isEmpty) = decide (0 < (l.length : Int)) := by
  cases l with
  | nil => rfl
  | cons x l => rw [decide_eq_true (by simp)]; rfl
theorem fill_bad (s : St) : ((usedI s.op == 0) || fillB s) = badS s := by
  obtain ⟨h1, h4, h8, h16, h32, h2, h0⟩ := used_bits s.op
  unfold fillB badS
  rw [h1, h4, h8, h16, h32, h0, ← empty_len, ← empty_len]
  by_cases h : 1 ≤ s.op ∧ s.op ≤ 8
  · rw [h2 h.1 h.2, decide_eq_false (show ¬ s.op < 1 by omega), decide_eq_false (show ¬ 8 < s.op by omega)]
    rw [show (s.mx != 0) = !decide (s.mx = 0) by simp [bne, Bool.beq_eq_decide_eq]]
    simp only [Bool.false_or]
    simp only [Bool.and_comm]
  · rw [← Bool.decide_or, decide_eq_true (by omega)]
    simp
set_option maxHeartbeats 8000000 in
set_option maxRecDepth 100000 in
theorem ofills_any (s : St) (b i : Nat) (a1 : Option Addr) (c1 : Nat) (a2 : Option Addr) (c2 : Nat) (a3 : Option Addr) (c3 : Nat) (a4 : Option Addr) (c4 : Nat) (hl1 : s.body.length ≤ 1000000000000000) (hl2 : s.els.length ≤ 1000000000000000) (w : World) (h : StCells w s b i a1 c1 a2 c2 a3 c3 a4 c4) :
    Calls Tryd.prog 38 #[.pointer (some ⟨b, i, none⟩), .int .i64 (usedI s.op)] w fun e' w' => e' = .returned (.bool (fillB s)) ∧ w' = w := by
  have HA := Lib.hid (oabsent_any s.a b (i + 3) a1 c1 w h.fourA)
  have HB := Lib.hid (oabsent_any s.b b (i + 7) a2 c2 w h.fourB)
  have HH1 := Lib.hid (ohas_any s.op 1 (by omega) w)
  have HH2 := Lib.hid (ohas_any s.op 2 (by omega) w)
  have HH4 := Lib.hid (ohas_any s.op 4 (by omega) w)
  have HH8 := Lib.hid (ohas_any s.op 8 (by omega) w)
  have HH16 := Lib.hid (ohas_any s.op 16 (by omega) w)
  have HH32 := Lib.hid (ohas_any s.op 32 (by omega) w)
  have k1 := h.k1
  have k2 := h.k2
  have k11 := h.k11
  have k12 := h.k12
  have hV := fill_def s
  have he2 := nil_of (s := s.name)
  have he3 := empty_of (s := s.name)
  obtain ⟨v1, h1⟩ : ∃ v, decide (s.name.size = 0) = v := ⟨_, rfl⟩
  obtain ⟨v2, h2⟩ : ∃ v, (s.mx != 0) = v := ⟨_, rfl⟩
  obtain ⟨v3, h3⟩ : ∃ v, absent s.a = v := ⟨_, rfl⟩
  obtain ⟨v4, h4⟩ : ∃ v, absent s.b = v := ⟨_, rfl⟩
  obtain ⟨v5, h5⟩ : ∃ v, decide (0 < (s.body.length : Int)) = v := ⟨_, rfl⟩
  obtain ⟨v6, h6⟩ : ∃ v, decide (0 < (s.els.length : Int)) = v := ⟨_, rfl⟩
  obtain ⟨u1, g1⟩ : ∃ v, hasB (usedI s.op) 1 = v := ⟨_, rfl⟩
  obtain ⟨u2, g2⟩ : ∃ v, hasB (usedI s.op) 2 = v := ⟨_, rfl⟩
  obtain ⟨u3, g3⟩ : ∃ v, hasB (usedI s.op) 4 = v := ⟨_, rfl⟩
  obtain ⟨u4, g4⟩ : ∃ v, hasB (usedI s.op) 8 = v := ⟨_, rfl⟩
  obtain ⟨u5, g5⟩ : ∃ v, hasB (usedI s.op) 16 = v := ⟨_, rfl⟩
  obtain ⟨u6, g6⟩ : ∃ v, hasB (usedI s.op) 32 = v := ⟨_, rfl⟩
  rw [h1] at he2 he3
  rw [h3] at HA
  rw [h4] at HB
  rw [g1] at HH1
  rw [g2] at HH2
  rw [g3] at HH4
  rw [g4] at HH8
  rw [g5] at HH16
  rw [g6] at HH32
  rw [h1, h2, h3, h4, h5, h6, g1, g2, g3, g4, g5, g6] at hV
  have HV := Lib.hid hV
  generalize usedI s.op = o at HH1 HH2 HH4 HH8 HH16 HH32 ⊢
  clear hV h h1 h3 h4 g1 g2 g3 g4 g5 g6
  have h5' : decide (0 < s.body.length) = v5 := by rw [← h5]; exact decide_eq_decide.2 (by omega)
  have h6' : decide (0 < s.els.length) = v6 := by rw [← h6]; exact decide_eq_decide.2 (by omega)
  obtain ⟨p1, hp1⟩ : ∃ p, (!v1 && !u1) = p := ⟨_, rfl⟩
  obtain ⟨p2, hp2⟩ : ∃ p, (p1 || (v2 && !u2)) = p := ⟨_, rfl⟩
  obtain ⟨p3, hp3⟩ : ∃ p, (p2 || (!v3 && !u3)) = p := ⟨_, rfl⟩
  obtain ⟨p4, hp4⟩ : ∃ p, (p3 || (!v4 && !u4)) = p := ⟨_, rfl⟩
  obtain ⟨p5, hp5⟩ : ∃ p, (p4 || (v5 && !u5)) = p := ⟨_, rfl⟩
  obtain ⟨p6, hp6⟩ : ∃ p, (p5 || (v6 && !u6)) = p := ⟨_, rfl⟩
  rw [hp1, hp2, hp3, hp4, hp5, hp6] at HV
  have HP1 := Lib.hid hp1
  have HP2 := Lib.hid hp2
  have HP3 := Lib.hid hp3
  have HP4 := Lib.hid hp4
  have HP5 := Lib.hid hp5
  have HP6 := Lib.hid hp6
  clear hp1 hp2 hp3 hp4 hp5 hp6
  rw [HV.out]
  clear HV
  go_enter Tryd.func38, Tryd.ntmps38
  go_upto_region 1 with fail
  refine wp_region_lit ?_
  simp only [List.append_eq, List.cons_append, List.nil_append]
  refine wpList_cut 11 (fun a' w' => ∃ u5 u6 u7 u8 u9 u10 u11 u12 u13 u14 : Value, a' = ⟨#[.pointer (some ⟨b, i, none⟩), .int .i64 o, undef, undef, .bool false, u5, u6, u7, u8, u9, u10, u11, u12, u13, u14, .bool p1, undef, undef, undef, undef, undef, undef, undef, undef, undef, undef, undef, undef, undef, undef, undef, undef, undef, undef, undef, undef, undef, undef, undef, undef, undef, undef, undef, undef, undef, undef, undef, undef, undef, undef, undef, undef, undef, undef, undef, undef, undef, undef, undef, undef, undef, undef, undef, undef, undef, undef, undef, undef, undef, undef, undef, undef, undef, undef, undef, undef, undef], []⟩ ∧ w = w') ?_ ?_
  · intro B hB
    simp only [List.take_succ_cons, List.take_zero, List.cons_append, List.nil_append]
    cases v1 <;> cases u1
    all_goals
      have hp := HP1.out
      subst hp
      go_wp2_with fail
      repeat ((first | (with_reducible refine HA.out.mono ?_; rintro e' w2 ⟨rfl, rfl⟩) | (with_reducible refine HB.out.mono ?_; rintro e' w2 ⟨rfl, rfl⟩) | (with_reducible refine HH1.out.mono ?_; rintro e' w2 ⟨rfl, rfl⟩) | (with_reducible refine HH2.out.mono ?_; rintro e' w2 ⟨rfl, rfl⟩) | (with_reducible refine HH4.out.mono ?_; rintro e' w2 ⟨rfl, rfl⟩) | (with_reducible refine HH8.out.mono ?_; rintro e' w2 ⟨rfl, rfl⟩) | (with_reducible refine HH16.out.mono ?_; rintro e' w2 ⟨rfl, rfl⟩) | (with_reducible refine HH32.out.mono ?_; rintro e' w2 ⟨rfl, rfl⟩)); go_wp2_with fail)
      refine hB.out _ _ ?_
      repeat' apply Exists.intro
      exact ⟨rfl, rfl⟩
  rintro a' w' ⟨u5, u6, u7, u8, u9, u10, u11, u12, u13, u14, rfl, rfl⟩
  simp only [List.drop_succ_cons, List.drop_zero]
  clear HP1
  refine wpList_cut 12 (fun a' w' => ∃ u5 u6 u7 u8 u9 u10 u11 u12 u13 u14 u15 u16 u17 u18 u19 u20 u21 u22 u23 u24 u25 u26 : Value, a' = ⟨#[.pointer (some ⟨b, i, none⟩), .int .i64 o, undef, undef, .bool false, u5, u6, u7, u8, u9, u10, u11, u12, u13, u14, u15, u16, u17, u18, u19, u20, u21, u22, u23, u24, u25, u26, .bool p2, undef, undef, undef, undef, undef, undef, undef, undef, undef, undef, undef, undef, undef, undef, undef, undef, undef, undef, undef, undef, undef, undef, undef, undef, undef, undef, undef, undef, undef, undef, undef, undef, undef, undef, undef, undef, undef, undef, undef, undef, undef, undef, undef, undef, undef, undef, undef, undef, undef], []⟩ ∧ w = w') ?_ ?_
  · intro B hB
    simp only [List.take_succ_cons, List.take_zero, List.cons_append, List.nil_append]
    cases p1 <;> cases v2 <;> cases u2
    all_goals
      have hp := HP2.out
      subst hp
      go_wp2_with fail
      repeat ((first | (with_reducible refine HA.out.mono ?_; rintro e' w2 ⟨rfl, rfl⟩) | (with_reducible refine HB.out.mono ?_; rintro e' w2 ⟨rfl, rfl⟩) | (with_reducible refine HH1.out.mono ?_; rintro e' w2 ⟨rfl, rfl⟩) | (with_reducible refine HH2.out.mono ?_; rintro e' w2 ⟨rfl, rfl⟩) | (with_reducible refine HH4.out.mono ?_; rintro e' w2 ⟨rfl, rfl⟩) | (with_reducible refine HH8.out.mono ?_; rintro e' w2 ⟨rfl, rfl⟩) | (with_reducible refine HH16.out.mono ?_; rintro e' w2 ⟨rfl, rfl⟩) | (with_reducible refine HH32.out.mono ?_; rintro e' w2 ⟨rfl, rfl⟩)); go_wp2_with fail)
      refine hB.out _ _ ?_
      repeat' apply Exists.intro
      exact ⟨rfl, rfl⟩
  rintro a' w' ⟨u5, u6, u7, u8, u9, u10, u11, u12, u13, u14, u15, u16, u17, u18, u19, u20, u21, u22, u23, u24, u25, u26, rfl, rfl⟩
  simp only [List.drop_succ_cons, List.drop_zero]
  clear HP2
  refine wpList_cut 12 (fun a' w' => ∃ u5 u6 u7 u8 u9 u10 u11 u12 u13 u14 u15 u16 u17 u18 u19 u20 u21 u22 u23 u24 u25 u26 u27 u28 u29 u30 u31 u32 u33 u34 u35 u36 u37 u38 : Value, a' = ⟨#[.pointer (some ⟨b, i, none⟩), .int .i64 o, undef, undef, .bool false, u5, u6, u7, u8, u9, u10, u11, u12, u13, u14, u15, u16, u17, u18, u19, u20, u21, u22, u23, u24, u25, u26, u27, u28, u29, u30, u31, u32, u33, u34, u35, u36, u37, u38, .bool p3, undef, undef, undef, undef, undef, undef, undef, undef, undef, undef, undef, undef, undef, undef, undef, undef, undef, undef, undef, undef, undef, undef, undef, undef, undef, undef, undef, undef, undef, undef, undef, undef, undef, undef, undef, undef, undef], []⟩ ∧ w = w') ?_ ?_
  · intro B hB
    simp only [List.take_succ_cons, List.take_zero, List.cons_append, List.nil_append]
    cases p2 <;> cases v3 <;> cases u3
    all_goals
      have hp := HP3.out
      subst hp
      go_wp2_with fail
      repeat ((first | (with_reducible refine HA.out.mono ?_; rintro e' w2 ⟨rfl, rfl⟩) | (with_reducible refine HB.out.mono ?_; rintro e' w2 ⟨rfl, rfl⟩) | (with_reducible refine HH1.out.mono ?_; rintro e' w2 ⟨rfl, rfl⟩) | (with_reducible refine HH2.out.mono ?_; rintro e' w2 ⟨rfl, rfl⟩) | (with_reducible refine HH4.out.mono ?_; rintro e' w2 ⟨rfl, rfl⟩) | (with_reducible refine HH8.out.mono ?_; rintro e' w2 ⟨rfl, rfl⟩) | (with_reducible refine HH16.out.mono ?_; rintro e' w2 ⟨rfl, rfl⟩) | (with_reducible refine HH32.out.mono ?_; rintro e' w2 ⟨rfl, rfl⟩)); go_wp2_with fail)
      refine hB.out _ _ ?_
      repeat' apply Exists.intro
      exact ⟨rfl, rfl⟩
  rintro a' w' ⟨u5, u6, u7, u8, u9, u10, u11, u12, u13, u14, u15, u16, u17, u18, u19, u20, u21, u22, u23, u24, u25, u26, u27, u28, u29, u30, u31, u32, u33, u34, u35, u36, u37, u38, rfl, rfl⟩
  simp only [List.drop_succ_cons, List.drop_zero]
  clear HP3
  refine wpList_cut 12 (fun a' w' => ∃ u5 u6 u7 u8 u9 u10 u11 u12 u13 u14 u15 u16 u17 u18 u19 u20 u21 u22 u23 u24 u25 u26 u27 u28 u29 u30 u31 u32 u33 u34 u35 u36 u37 u38 u39 u40 u41 u42 u43 u44 u45 u46 u47 u48 u49 u50 : Value, a' = ⟨#[.pointer (some ⟨b, i, none⟩), .int .i64 o, undef, undef, .bool false, u5, u6, u7, u8, u9, u10, u11, u12, u13, u14, u15, u16, u17, u18, u19, u20, u21, u22, u23, u24, u25, u26, u27, u28, u29, u30, u31, u32, u33, u34, u35, u36, u37, u38, u39, u40, u41, u42, u43, u44, u45, u46, u47, u48, u49, u50, .bool p4, undef, undef, undef, undef, undef, undef, undef, undef, undef, undef, undef, undef, undef, undef, undef, undef, undef, undef, undef, undef, undef, undef, undef, undef, undef], []⟩ ∧ w = w') ?_ ?_
  · intro B hB
    simp only [List.take_succ_cons, List.take_zero, List.cons_append, List.nil_append]
    cases p3 <;> cases v4 <;> cases u4
    all_goals
      have hp := HP4.out
      subst hp
      go_wp2_with fail
      repeat ((first | (with_reducible refine HA.out.mono ?_; rintro e' w2 ⟨rfl, rfl⟩) | (with_reducible refine HB.out.mono ?_; rintro e' w2 ⟨rfl, rfl⟩) | (with_reducible refine HH1.out.mono ?_; rintro e' w2 ⟨rfl, rfl⟩) | (with_reducible refine HH2.out.mono ?_; rintro e' w2 ⟨rfl, rfl⟩) | (with_reducible refine HH4.out.mono ?_; rintro e' w2 ⟨rfl, rfl⟩) | (with_reducible refine HH8.out.mono ?_; rintro e' w2 ⟨rfl, rfl⟩) | (with_reducible refine HH16.out.mono ?_; rintro e' w2 ⟨rfl, rfl⟩) | (with_reducible refine HH32.out.mono ?_; rintro e' w2 ⟨rfl, rfl⟩)); go_wp2_with fail)
      refine hB.out _ _ ?_
      repeat' apply Exists.intro
      exact ⟨rfl, rfl⟩
  rintro a' w' ⟨u5, u6, u7, u8, u9, u10, u11, u12, u13, u14, u15, u16, u17, u18, u19, u20, u21, u22, u23, u24, u25, u26, u27, u28, u29, u30, u31, u32, u33, u34, u35, u36, u37, u38, u39, u40, u41, u42, u43, u44, u45, u46, u47, u48, u49, u50, rfl, rfl⟩
  simp only [List.drop_succ_cons, List.drop_zero]
  clear HP4
  refine wpList_cut 13 (fun a' w' => ∃ u5 u6 u7 u8 u9 u10 u11 u12 u13 u14 u15 u16 u17 u18 u19 u20 u21 u22 u23 u24 u25 u26 u27 u28 u29 u30 u31 u32 u33 u34 u35 u36 u37 u38 u39 u40 u41 u42 u43 u44 u45 u46 u47 u48 u49 u50 u51 u52 u53 u54 u55 u56 u57 u58 u59 u60 u61 u62 u63 : Value, a' = ⟨#[.pointer (some ⟨b, i, none⟩), .int .i64 o, undef, undef, .bool false, u5, u6, u7, u8, u9, u10, u11, u12, u13, u14, u15, u16, u17, u18, u19, u20, u21, u22, u23, u24, u25, u26, u27, u28, u29, u30, u31, u32, u33, u34, u35, u36, u37, u38, u39, u40, u41, u42, u43, u44, u45, u46, u47, u48, u49, u50, u51, u52, u53, u54, u55, u56, u57, u58, u59, u60, u61, u62, u63, .bool p5, undef, undef, undef, undef, undef, undef, undef, undef, undef, undef, undef, undef], []⟩ ∧ w = w') ?_ ?_
  · intro B hB
    simp only [List.take_succ_cons, List.take_zero, List.cons_append, List.nil_append]
    cases p4 <;> cases v5 <;> cases u5
    all_goals
      have hp := HP5.out
      subst hp
      go_wp2_with fail
      repeat ((first | (with_reducible refine HA.out.mono ?_; rintro e' w2 ⟨rfl, rfl⟩) | (with_reducible refine HB.out.mono ?_; rintro e' w2 ⟨rfl, rfl⟩) | (with_reducible refine HH1.out.mono ?_; rintro e' w2 ⟨rfl, rfl⟩) | (with_reducible refine HH2.out.mono ?_; rintro e' w2 ⟨rfl, rfl⟩) | (with_reducible refine HH4.out.mono ?_; rintro e' w2 ⟨rfl, rfl⟩) | (with_reducible refine HH8.out.mono ?_; rintro e' w2 ⟨rfl, rfl⟩) | (with_reducible refine HH16.out.mono ?_; rintro e' w2 ⟨rfl, rfl⟩) | (with_reducible refine HH32.out.mono ?_; rintro e' w2 ⟨rfl, rfl⟩)); go_wp2_with fail)
      refine hB.out _ _ ?_
      repeat' apply Exists.intro
      exact ⟨rfl, rfl⟩
  rintro a' w' ⟨u5, u6, u7, u8, u9, u10, u11, u12, u13, u14, u15, u16, u17, u18, u19, u20, u21, u22, u23, u24, u25, u26, u27, u28, u29, u30, u31, u32, u33, u34, u35, u36, u37, u38, u39, u40, u41, u42, u43, u44, u45, u46, u47, u48, u49, u50, u51, u52, u53, u54, u55, u56, u57, u58, u59, u60, u61, u62, u63, rfl, rfl⟩
  simp only [List.drop_succ_cons, List.drop_zero]
  clear HP5
  cases p5 <;> cases v6 <;> cases u6
  all_goals
    have hp := HP6.out
    subst hp
    go_wp2_with fail
    repeat ((first | (with_reducible refine HA.out.mono ?_; rintro e' w2 ⟨rfl, rfl⟩) | (with_reducible refine HB.out.mono ?_; rintro e' w2 ⟨rfl, rfl⟩) | (with_reducible refine HH1.out.mono ?_; rintro e' w2 ⟨rfl, rfl⟩) | (with_reducible refine HH2.out.mono ?_; rintro e' w2 ⟨rfl, rfl⟩) | (with_reducible refine HH4.out.mono ?_; rintro e' w2 ⟨rfl, rfl⟩) | (with_reducible refine HH8.out.mono ?_; rintro e' w2 ⟨rfl, rfl⟩) | (with_reducible refine HH16.out.mono ?_; rintro e' w2 ⟨rfl, rfl⟩) | (with_reducible refine HH32.out.mono ?_; rintro e' w2 ⟨rfl, rfl⟩)); go_wp2_with fail)
    go_ret
    exact ⟨rfl, rfl⟩
end Go.Proofs.YtbmdadhbkdkgmaaDoor.A
