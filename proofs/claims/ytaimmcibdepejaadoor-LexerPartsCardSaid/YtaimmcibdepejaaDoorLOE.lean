/-
  What the program's own functions of layer 7 return: literalToken.
-/
import Derived.Test.YtaimmcibdepejaaDoorLOD
import Derived.Test.YtaimmcibdepejaaDoorLOwn
namespace Go.Proofs.YtaimmcibdepejaaDoor.L
open Go.RowKit

/-- a token, its size and an error; with an error whatever token and size -/
def GivesQ (e : Ending) (s : ByteArray) (r : Tok × Str × Int) : Prop :=
  ∃ (p : T) (E : Int), e = .returned (.tuple #[p.val, .int .i64 E, .int .i64 r.2.2]) ∧ (r.2.2 = 0 → E = ((s.size - r.2.1.length : Nat) : Int) ∧ p = ofTok r.1)
theorem GivesQ.err {e : Ending} {s : ByteArray} {r : Tok × Str × Int} {x : Int} (p : T) (E : Int) (h : r.2.2 = x) (hx : x ≠ 0) (he : e = .returned (.tuple #[p.val, .int .i64 E, .int .i64 x])) : GivesQ e s r := by
  subst h; exact ⟨p, E, he, fun h => absurd h hx⟩
/-- a literal's rest, behind a backslash or not -/
def litb (b : Bool) (out : Str) (l : Str) : Str × Str × Int :=
  if b then (match l with
    | [] => ([], [], 6)
    | d :: r2 => if d.toNat = 34 ∨ d.toNat = 92 then (if out.length = 64 then ([], [], 2) else litr (out ++ [d]) r2) else ([], [], 5)) else litr out l
theorem litb_end (b : Bool) (out : Str) : litb b out [] = ([], [], 6) := by
  cases b
  · exact litr_0 out
  · rfl
theorem litb_slash {out r : Str} {c : UInt8} (h : c.toNat = 92) : litb false out (c :: r) = litb true out r := by
  show litr out (c :: r) = _
  rw [litr.eq_def]; simp only; rw [if_neg (by omega), if_pos h]; rfl
theorem litb_bad {b : Bool} {out r : Str} {c : UInt8} (h : prt c = false) : litb b out (c :: r) = ([], [], 5) := by
  have h2 : ¬ (32 ≤ c.toNat ∧ c.toNat ≤ 126) := fun h3 => by rw [prt_iff.2 h3] at h; cases h
  cases b
  · exact litr_ps (by omega) (by omega) h
  · show (if c.toNat = 34 ∨ c.toNat = 92 then _ else _) = _
    rw [if_neg (by omega)]
theorem litb_esc {out r : Str} {c : UInt8} (h : spc c = false) : litb true out (c :: r) = ([], [], 5) := by
  show (if c.toNat = 34 ∨ c.toNat = 92 then _ else _) = _
  rw [if_neg (of_decide_eq_false h)]
theorem litb_full {out r : Str} {c : UInt8} (h : spc c = true) (h2 : out.length = 64) : litb true out (c :: r) = ([], [], 2) := by
  show (if c.toNat = 34 ∨ c.toNat = 92 then _ else _) = _
  rw [if_pos (of_decide_eq_true h), if_pos h2]
theorem litb_more {out r : Str} {c : UInt8} (h : spc c = true) (h2 : ¬ out.length = 64) : litb true out (c :: r) = litb false (out ++ [c]) r := by
  show (if c.toNat = 34 ∨ c.toNat = 92 then _ else _) = _
  rw [if_pos (of_decide_eq_true h), if_neg h2]; rfl
theorem of_tok (k n : Int) (t : Str) : ofTok ⟨k, t, n, 0⟩ = (⟨k, ⟨t.toArray⟩, n, 0⟩ : T) := rfl
/-- the token that a literal's rest gives -/
def lt4 (r : Str × Str × Int) : Tok × Str × Int := (⟨4, r.1, 0, 0⟩, r.2.1, r.2.2)
theorem GivesQ.bad {e : Ending} {s : ByteArray} {R : Str × Str × Int} {x : Int} (h : R = ([], [], x)) (hx : x ≠ 0) (he : e = .returned (.tuple #[.agg #[.int .i64 0, .string ⟨#[]⟩, .int .i64 0, .int .i64 0], .int .i64 0, .int .i64 x])) : GivesQ e s (lt4 R) :=
  GivesQ.err zeroT 0 (by subst h; rfl) hx he
theorem GivesQ.lit {e : Ending} {s : ByteArray} {R : Str × Str × Int} {t : Str} {k : Nat} (h : R = (t, s.data.toList.drop (k + 1), 0)) (hk : k < s.size) (he : e = .returned (.tuple #[.agg #[.int .i64 4, .string ⟨t.toArray⟩, .int .i64 0, .int .i64 0], .int .i64 ((k : Int) + 1), .int .i64 0])) : GivesQ e s (lt4 R) := by
  subst h
  refine ⟨⟨4, ⟨t.toArray⟩, 0, 0⟩, (k : Int) + 1, he, fun _ => ⟨?_, rfl⟩⟩
  show (k : Int) + 1 = ((s.size - (s.data.toList.drop (k + 1)).length : Nat) : Int)
  rw [List.length_drop, ← size_len]
  omega
theorem row_len {w : World} {B : Nat} {v : Value} {l : Str} (h : Own8 w B v l) : ∃ a c, v = .slice a l.length c := by
  rcases h.2 with ⟨rfl, h0⟩ | ⟨g, cap, cur, rfl, _⟩
  · exact ⟨none, 0, by rw [h0]⟩
  · exact ⟨_, cap, rfl⟩
set_option maxHeartbeats 4000000 in
set_option maxRecDepth 100000 in
theorem oliteral_any (s : ByteArray) (hs : s.size ≤ 1000000000000000) (h0 : 0 < s.size) (w : World) :
    Calls Tryd.prog 51 #[.string s] w fun e w' => GivesQ e s (lt4 (litr [] (s.data.toList.drop 1))) ∧ Below w.heap.size w w' := by
  obtain ⟨R, hR⟩ : ∃ R, litr [] (s.data.toList.drop 1) = R := ⟨_, rfl⟩
  rw [hR]
  have HR : Hid (litb false [] (s.data.toList.drop 1) = R) := hR
  have HM := Lib.hid (MineT.zero w)
  have HW := Lib.hid (below_box w (.cells #[.int .i64 0, .string ⟨#[]⟩, .int .i64 0, .int .i64 0] 31))
  have HP := Lib.hid oplain_any
  have HS := Lib.hid ospecial_any
  clear hR
  go_enter Tryd.func51, Tryd.ntmps51
  go_wp2_with fail
  go_loopw [5, 6, 7] (fun v b i wr => ∃ (k : Nat) (t : Str) (y : Bool), 1 ≤ k ∧ k ≤ s.size ∧ i = .int .i64 k ∧ b = .bool y ∧ t.length ≤ 64 ∧ Hid (litb y t (s.data.toList.drop k) = R) ∧ Hid (Own8 wr (w.heap.size + 1) v t) ∧ Hid (Below (w.heap.size + 1) (w.alloc (.cells #[.int .i64 0, .string ⟨#[]⟩, .int .i64 0, .int .i64 0] 31)) wr) ∧ w.heap.size + 1 ≤ wr.heap.size) (fun _ _ i _ => s.size - (intOf i).toNat)
  case atStart => exact ⟨1, [], false, Nat.le_refl _, h0, rfl, rfl, Nat.zero_le _, HR, World.ownsRow_nil _ _ _ _, Below.refl _ _, by simp⟩
  case round =>
    obtain ⟨k, t, y, hk1, hk, rfl, rfl, ht, HK, HO, HB, hzr⟩ := hrel
    have HBB : Hid (Below w.heap.size w wr) := below_2 HW.out (HB.out.mono (by simp))
    by_cases hlt : k < s.size
    · have hkk := HK.out
      rw [drop_get s k hlt] at hkk
      have hp := HP.out s[k]
      cases hok : prt s[k]
      · have HV : Hid (R = ([], [], 5)) := by show _ = _; rw [← hkk, litb_bad hok]
        rw [hok] at hp
        have HP1 := Lib.hid hp
        obtain ⟨⟨p, d0, d1, d2, d3⟩, g0, g1, g2, g3⟩ := HM.out.below HB.out (by omega)
        simp only [Nat.zero_add] at d0 d1 d2 d3
        clear hp hok hkk HK
        go_wp2_with fail
        refine (HP1.out _).mono ?_; rintro e w1 ⟨rfl, he⟩; obtain rfl : wr = w1 := he.symm
        go_wp2_with fail
        obtain ⟨q0, q1, q2, q3⟩ := storedT (w := wr) (b := w.heap.size) (p := p) ⟨d0, d1, d2, d3⟩ ⟨0, ⟨#[]⟩, 0, 0⟩
        simp only [Nat.zero_add] at q0 q1 q2 q3
        refine bodyPost_ret (v := .tuple #[.agg #[.int .i64 0, .string ⟨#[]⟩, .int .i64 0, .int .i64 0], .int .i64 0, .int .i64 5]) (by simp [results, Tryd.results51, go_sem, q0, q1, q2, q3]) rfl ⟨GivesQ.bad HV.out (by decide) rfl, storedT_below HBB.out (Nat.le_refl _) _ _ _ _⟩
      · rw [hok] at hp
        have HP1 := Lib.hid hp
        have hs0 := HS.out s[k]
        cases y
        · by_cases h34 : s[k].toNat = 34
          · have HV : Hid (R = (t, s.data.toList.drop (k + 1), 0)) := by show _ = _; rw [← hkk]; exact litr_q h34
            have b1 : ((s[k].toNat : Int) == 34) = true := beq_iff_eq.2 (by omega)
            have hcv := HO.out.back
            obtain ⟨⟨p, d0, d1, d2, d3⟩, g0, g1, g2, g3⟩ := HM.out.below HB.out (by omega)
            simp only [Nat.zero_add] at d0 d1 d2 d3
            clear hp hok hkk HK hs0 h34
            go_wp2_with fail
            refine (HP1.out _).mono ?_; rintro e w1 ⟨rfl, he⟩; obtain rfl : wr = w1 := he.symm
            go_wp2_with fail
            obtain ⟨q0, q1, q2, q3⟩ := storedT (w := wr) (b := w.heap.size) (p := p) ⟨d0, d1, d2, d3⟩ ⟨4, ⟨t.toArray⟩, 0, 0⟩
            simp only [Nat.zero_add] at q0 q1 q2 q3
            refine bodyPost_ret (v := .tuple #[.agg #[.int .i64 4, .string ⟨t.toArray⟩, .int .i64 0, .int .i64 0], .int .i64 ((k : Int) + 1), .int .i64 0]) (by simp [results, Tryd.results51, go_sem, q0, q1, q2, q3]) rfl ⟨GivesQ.lit HV.out hlt rfl, storedT_below HBB.out (Nat.le_refl _) _ _ _ _⟩
          · have b1 : ((s[k].toNat : Int) == 34) = false := beq_eq_false_iff_ne.2 (by omega)
            by_cases h92 : s[k].toNat = 92
            · have HN : Hid (litb true t (s.data.toList.drop (k + 1)) = R) := by show _ = _; rw [← hkk, litb_slash h92]
              have b2 : ((s[k].toNat : Int) == 92) = true := beq_iff_eq.2 (by omega)
              clear hp hok hkk HK hs0 h34 h92
              go_wp2_with fail
              refine (HP1.out _).mono ?_; rintro e w1 ⟨rfl, he⟩; obtain rfl : wr = w1 := he.symm
              go_wp2_with fail
              go_roundw
              case rel => exact ⟨k + 1, t, true, by omega, by omega, by go_num, by first | rfl | trivial, ht, HN, HO, HB, hzr⟩
              case measure => simp [intOf]; omega
            · have b2 : ((s[k].toNat : Int) == 92) = false := beq_eq_false_iff_ne.2 (by omega)
              by_cases h64 : t.length = 64
              · have HV : Hid (R = ([], [], 2)) := by show _ = _; rw [← hkk]; exact litr_pl h34 h92 hok h64
                obtain ⟨⟨p, d0, d1, d2, d3⟩, g0, g1, g2, g3⟩ := HM.out.below HB.out (by omega)
                simp only [Nat.zero_add] at d0 d1 d2 d3
                obtain ⟨gg, cc, hvv⟩ := Go.Joins.ownsRow_form HO.out (by omega)
                rw [h64] at hvv
                subst hvv
                clear hp hok hkk HK hs0 h34 h92
                go_wp2_with fail
                refine (HP1.out _).mono ?_; rintro e w1 ⟨rfl, he⟩; obtain rfl : wr = w1 := he.symm
                go_wp2_with fail
                obtain ⟨q0, q1, q2, q3⟩ := storedT (w := wr) (b := w.heap.size) (p := p) ⟨d0, d1, d2, d3⟩ ⟨0, ⟨#[]⟩, 0, 0⟩
                simp only [Nat.zero_add] at q0 q1 q2 q3
                refine bodyPost_ret (v := .tuple #[.agg #[.int .i64 0, .string ⟨#[]⟩, .int .i64 0, .int .i64 0], .int .i64 0, .int .i64 2]) (by simp [results, Tryd.results51, go_sem, q0, q1, q2, q3]) rfl ⟨GivesQ.bad HV.out (by decide) rfl, storedT_below HBB.out (Nat.le_refl _) _ _ _ _⟩
              · have HN : Hid (litb false (t ++ [s[k]]) (s.data.toList.drop (k + 1)) = R) := by show _ = _; rw [← hkk]; exact (litr_p h34 h92 hok h64).symm
                have bz : ((t.length : Int) == 64) = false := beq_eq_false_iff_ne.2 (by omega)
                have H64 : Hid (t.length < 64) := by show _ < _; omega
                obtain ⟨a0, c0, hvv⟩ := row_len HO.out
                subst hvv
                clear hp hok hkk HK hs0 h34 h92 h64
                go_wp2_with fail
                refine (HP1.out _).mono ?_; rintro e w1 ⟨rfl, he⟩; obtain rfl : wr = w1 := he.symm
                go_wp2_with (at_builtin; refine wpList_append_byte rfl _ _ rfl (w.heap.size + 1) (.slice a0 t.length c0) t rfl _ HO.out wr.heap.size rfl rfl (by omega) (by omega) s[k] rfl ?_; intro v1 w2 hown1 hgrow1; have hb2 := below_app HB.out (by omega) hgrow1 HO.out.ge)
                go_roundw
                case rel => exact ⟨k + 1, t ++ [s[k]], false, by omega, by omega, by go_num, by first | rfl | trivial, by have := H64.out; rw [List.length_append]; simp; omega, HN, hown1, hb2, by have := hb2.size; simpa using this⟩
                case measure => simp [intOf]; omega
        · cases hsp : spc s[k]
          · have HV : Hid (R = ([], [], 5)) := by show _ = _; rw [← hkk, litb_esc hsp]
            rw [hsp] at hs0
            have HS1 := Lib.hid hs0
            obtain ⟨⟨p, d0, d1, d2, d3⟩, g0, g1, g2, g3⟩ := HM.out.below HB.out (by omega)
            simp only [Nat.zero_add] at d0 d1 d2 d3
            clear hp hok hkk HK hs0 hsp
            go_wp2_with fail
            refine (HP1.out _).mono ?_; rintro e w1 ⟨rfl, he⟩; obtain rfl : wr = w1 := he.symm
            go_wp2_with fail
            refine (HS1.out _).mono ?_; rintro e w1 ⟨rfl, he⟩; obtain rfl : wr = w1 := he.symm
            go_wp2_with fail
            obtain ⟨q0, q1, q2, q3⟩ := storedT (w := wr) (b := w.heap.size) (p := p) ⟨d0, d1, d2, d3⟩ ⟨0, ⟨#[]⟩, 0, 0⟩
            simp only [Nat.zero_add] at q0 q1 q2 q3
            refine bodyPost_ret (v := .tuple #[.agg #[.int .i64 0, .string ⟨#[]⟩, .int .i64 0, .int .i64 0], .int .i64 0, .int .i64 5]) (by simp [results, Tryd.results51, go_sem, q0, q1, q2, q3]) rfl ⟨GivesQ.bad HV.out (by decide) rfl, storedT_below HBB.out (Nat.le_refl _) _ _ _ _⟩
          · rw [hsp] at hs0
            have HS1 := Lib.hid hs0
            have hq : s[k].toNat = 34 ∨ s[k].toNat = 92 := of_decide_eq_true hsp
            by_cases h64 : t.length = 64
            · have HV : Hid (R = ([], [], 2)) := by show _ = _; rw [← hkk, litb_full hsp h64]
              obtain ⟨gg, cc, hvv⟩ := Go.Joins.ownsRow_form HO.out (by omega)
              rw [h64] at hvv
              subst hvv
              obtain ⟨⟨p, d0, d1, d2, d3⟩, g0, g1, g2, g3⟩ := HM.out.below HB.out (by omega)
              simp only [Nat.zero_add] at d0 d1 d2 d3
              rcases hq with hq | hq
              · have b1 : ((s[k].toNat : Int) == 34) = true := beq_iff_eq.2 (by omega)
                have b2 : ((s[k].toNat : Int) == 92) = false := beq_eq_false_iff_ne.2 (by omega)
                clear hp hok hkk HK hs0 hsp hq
                go_wp2_with fail
                refine (HP1.out _).mono ?_; rintro e w1 ⟨rfl, he⟩; obtain rfl : wr = w1 := he.symm
                go_wp2_with fail
                refine (HS1.out _).mono ?_; rintro e w1 ⟨rfl, he⟩; obtain rfl : wr = w1 := he.symm
                go_wp2_with fail
                obtain ⟨q0, q1, q2, q3⟩ := storedT (w := wr) (b := w.heap.size) (p := p) ⟨d0, d1, d2, d3⟩ ⟨0, ⟨#[]⟩, 0, 0⟩
                simp only [Nat.zero_add] at q0 q1 q2 q3
                refine bodyPost_ret (v := .tuple #[.agg #[.int .i64 0, .string ⟨#[]⟩, .int .i64 0, .int .i64 0], .int .i64 0, .int .i64 2]) (by simp [results, Tryd.results51, go_sem, q0, q1, q2, q3]) rfl ⟨GivesQ.bad HV.out (by decide) rfl, storedT_below HBB.out (Nat.le_refl _) _ _ _ _⟩
              · have b1 : ((s[k].toNat : Int) == 34) = false := beq_eq_false_iff_ne.2 (by omega)
                have b2 : ((s[k].toNat : Int) == 92) = true := beq_iff_eq.2 (by omega)
                clear hp hok hkk HK hs0 hsp hq
                go_wp2_with fail
                refine (HP1.out _).mono ?_; rintro e w1 ⟨rfl, he⟩; obtain rfl : wr = w1 := he.symm
                go_wp2_with fail
                refine (HS1.out _).mono ?_; rintro e w1 ⟨rfl, he⟩; obtain rfl : wr = w1 := he.symm
                go_wp2_with fail
                obtain ⟨q0, q1, q2, q3⟩ := storedT (w := wr) (b := w.heap.size) (p := p) ⟨d0, d1, d2, d3⟩ ⟨0, ⟨#[]⟩, 0, 0⟩
                simp only [Nat.zero_add] at q0 q1 q2 q3
                refine bodyPost_ret (v := .tuple #[.agg #[.int .i64 0, .string ⟨#[]⟩, .int .i64 0, .int .i64 0], .int .i64 0, .int .i64 2]) (by simp [results, Tryd.results51, go_sem, q0, q1, q2, q3]) rfl ⟨GivesQ.bad HV.out (by decide) rfl, storedT_below HBB.out (Nat.le_refl _) _ _ _ _⟩
            · have HN : Hid (litb false (t ++ [s[k]]) (s.data.toList.drop (k + 1)) = R) := by show _ = _; rw [← hkk, litb_more hsp h64]
              have bz : ((t.length : Int) == 64) = false := beq_eq_false_iff_ne.2 (by omega)
              have H64 : Hid (t.length < 64) := by show _ < _; omega
              obtain ⟨a0, c0, hvv⟩ := row_len HO.out
              subst hvv
              rcases hq with hq | hq
              · have b1 : ((s[k].toNat : Int) == 34) = true := beq_iff_eq.2 (by omega)
                have b2 : ((s[k].toNat : Int) == 92) = false := beq_eq_false_iff_ne.2 (by omega)
                clear hp hok hkk HK hs0 hsp hq h64
                go_wp2_with fail
                refine (HP1.out _).mono ?_; rintro e w1 ⟨rfl, he⟩; obtain rfl : wr = w1 := he.symm
                go_wp2_with fail
                refine (HS1.out _).mono ?_; rintro e w1 ⟨rfl, he⟩; obtain rfl : wr = w1 := he.symm
                go_wp2_with (at_builtin; refine wpList_append_byte rfl _ _ rfl (w.heap.size + 1) (.slice a0 t.length c0) t rfl _ HO.out wr.heap.size rfl rfl (by omega) (by omega) s[k] rfl ?_; intro v1 w2 hown1 hgrow1; have hb2 := below_app HB.out (by omega) hgrow1 HO.out.ge)
                go_roundw
                case rel => exact ⟨k + 1, t ++ [s[k]], false, by omega, by omega, by go_num, by first | rfl | trivial, by have := H64.out; rw [List.length_append]; simp; omega, HN, hown1, hb2, by have := hb2.size; simpa using this⟩
                case measure => simp [intOf]; omega
              · have b1 : ((s[k].toNat : Int) == 34) = false := beq_eq_false_iff_ne.2 (by omega)
                have b2 : ((s[k].toNat : Int) == 92) = true := beq_iff_eq.2 (by omega)
                clear hp hok hkk HK hs0 hsp hq h64
                go_wp2_with fail
                refine (HP1.out _).mono ?_; rintro e w1 ⟨rfl, he⟩; obtain rfl : wr = w1 := he.symm
                go_wp2_with fail
                refine (HS1.out _).mono ?_; rintro e w1 ⟨rfl, he⟩; obtain rfl : wr = w1 := he.symm
                go_wp2_with (at_builtin; refine wpList_append_byte rfl _ _ rfl (w.heap.size + 1) (.slice a0 t.length c0) t rfl _ HO.out wr.heap.size rfl rfl (by omega) (by omega) s[k] rfl ?_; intro v1 w2 hown1 hgrow1; have hb2 := below_app HB.out (by omega) hgrow1 HO.out.ge)
                go_roundw
                case rel => exact ⟨k + 1, t ++ [s[k]], false, by omega, by omega, by go_num, by first | rfl | trivial, by have := H64.out; rw [List.length_append]; simp; omega, HN, hown1, hb2, by have := hb2.size; simpa using this⟩
                case measure => simp [intOf]; omega
    · obtain rfl : k = s.size := by omega
      have HV : Hid (R = ([], [], 6)) := by show _ = _; rw [← HK.out, drop_all, litb_end]
      obtain ⟨⟨p, d0, d1, d2, d3⟩, g0, g1, g2, g3⟩ := HM.out.below HB.out (by omega)
      simp only [Nat.zero_add] at d0 d1 d2 d3
      clear HK
      go_wp2_with fail
      obtain ⟨q0, q1, q2, q3⟩ := storedT (w := wr) (b := w.heap.size) (p := p) ⟨d0, d1, d2, d3⟩ ⟨0, ⟨#[]⟩, 0, 0⟩
      simp only [Nat.zero_add] at q0 q1 q2 q3
      refine bodyPost_ret (v := .tuple #[.agg #[.int .i64 0, .string ⟨#[]⟩, .int .i64 0, .int .i64 0], .int .i64 0, .int .i64 6]) (by simp [results, Tryd.results51, go_sem, q0, q1, q2, q3]) rfl ⟨GivesQ.bad HV.out (by decide) rfl, storedT_below HBB.out (Nat.le_refl _) _ _ _ _⟩
end Go.Proofs.YtaimmcibdepejaaDoor.L
