/-
  What the reference of layer 7 returns: Tokenize, Feeds: contracts, one a function.
  What Same returns, of the reference of layer 7: its contract.
  What Join returns, of the reference of layer 7: its contract.
  What the program's own functions of layer 7 must return (Own, over whatever a table asks of the world); the law package's own helpers, over it.
  What the program's own functions of layer 7 return: literalToken.
-/
import Derived.Test.YteglaeopaocilaaGreatDoorM07
import Derived.Deep.RegionHeld3
import Derived.Deep.RegionWith
namespace Go.Proofs.YteglaeopaocilaaGreatDoor.L
open Go.RowKit

/-- a token as the program has it -/
def ofTok (t : Tok) : T := ⟨t.k, ⟨t.t.toArray⟩, t.n, t.line⟩
theorem toks_of (l : List Tok) : toks (l.map ofTok) = l := by
  unfold toks
  rw [List.map_map]
  exact List.map_id l
/-- tokens, a line and an error -/
def GivesT (e : Ending) (w' : World) (r : Res) : Prop := ∃ a c, e = .returned (.tuple #[.slice a (r.1.map ofTok).length c, .int .i64 r.2.1, .int .i64 r.2.2]) ∧ Sl w' a c (r.1.map ofTok)
theorem GivesT.no {e : Ending} {w' : World} {r : Res} {x y : Int} (hr : r = ([], x, y)) (he : e = .returned (.tuple #[.slice none 0 0, .int .i64 x, .int .i64 y])) : GivesT e w' r := by
  rw [hr]; exact ⟨none, 0, he, Sl.empty _⟩
theorem GivesT.ok {e : Ending} {w' : World} {r : Res} {l : List Tok} {xs : List T} {a1 : Option Addr} {c1 : Nat} (hr : r = (l, 0, 0)) (hx : l.map ofTok = xs) (he : e = .returned (.tuple #[.slice a1 xs.length c1, .int .i64 0, .int .i64 0])) (hS : Sl w' a1 c1 xs) : GivesT e w' r := by
  subst hx; rw [hr]; exact ⟨a1, c1, he, hS⟩
theorem rest_drop {s : ByteArray} {k : Nat} (hk : k ≤ s.size) (he : (tok (s.data.toList.drop k)).2.2 = 0) :
    s.data.toList.drop (s.size - (tok (s.data.toList.drop k)).2.1.length) = (tok (s.data.toList.drop k)).2.1 ∧ k < s.size - (tok (s.data.toList.drop k)).2.1.length := by
  obtain ⟨b1, b2, _⟩ := tok_back he
  obtain ⟨c, r, ex, _⟩ := txt_head b1
  have hl := congrArg List.length b2
  rw [List.length_append, List.length_drop, ← size_len] at hl
  have hpos : 1 ≤ (txt (tok (s.data.toList.drop k)).1).length := by rw [ex]; simp
  generalize (tok (s.data.toList.drop k)).2.1 = rest at *
  generalize txt (tok (s.data.toList.drop k)).1 = x at *
  refine ⟨?_, by omega⟩
  rw [show s.size - rest.length = k + x.length from by omega, ← List.drop_drop, b2, List.drop_left]
theorem joinT_err {acc : List Tok} {l : List Tok} {x y : Int} (h : y ≠ 0) : joinT acc (l, x, y) = ([], x, y) := by unfold joinT; rw [if_pos h]
theorem joinT_end (acc : List Tok) : joinT acc ([], 0, 0) = (acc, 0, 0) := by unfold joinT; rw [if_neg (fun h => h rfl), List.append_nil]
theorem joinT_nil {N : Nat} {l : Str} : joinT [] (tkz N l) = tkz N l := by
  have hf := tkz_form _ N l (Nat.le_refl _)
  generalize tkz N l = r at hf
  obtain ⟨r1, r2, r3⟩ := r
  unfold joinT
  simp only at hf ⊢
  by_cases hr : r3 = 0
  · rw [if_neg (fun x => x hr), hr, hf.1 hr]; rfl
  · rw [if_pos hr, hf.2 hr]
end Go.Proofs.YteglaeopaocilaaGreatDoor.L
namespace Go.Proofs.YteglaeopaocilaaGreatDoor.L
open Go.RowKit

def same (xs ys : List T) : Bool := decide (toks xs = toks ys)
end Go.Proofs.YteglaeopaocilaaGreatDoor.L
namespace Go.Proofs.YteglaeopaocilaaGreatDoor.L
open Go.RowKit

theorem txt_o {t : Tok} (h : ¬ t.k = 3) (h2 : ¬ t.k = 4) : txt t = t.t := by unfold txt; rw [if_neg h, if_neg h2]
end Go.Proofs.YteglaeopaocilaaGreatDoor.L
namespace Go.Proofs.YteglaeopaocilaaGreatDoor.L
open Go.RowKit

/-- tokens as arguments may be -/
structure FitsT (xs : List T) : Prop where
  len : xs.length ≤ 1000000000
  each : ∀ j (h : j < xs.length), xs[j].t.size ≤ 1000000000000000 ∧ -9223372036854775808 ≤ xs[j].n ∧ xs[j].n ≤ 9223372036854775807
structure Own (jb : Bool) (Tab : World → Prop) : Prop where
  stays : ∀ w w', Tab w → Below w.heap.size w w' → Tab w'
  kw : ∀ (s : ByteArray), s.size ≤ 1000000000000000 → ∀ w, Tab w → Calls Tryz.prog 69 #[.string s] w fun e w' => e = .returned (.bool (isKw s.data.toList)) ∧ Below w.heap.size w w'
  name : ∀ (s : ByteArray), s.size ≤ 1000000000000000 → ∀ w, Tab w → Calls Tryz.prog 32 #[.string s] w fun e w' => e = .returned (.bool (isName s.data.toList)) ∧ Below w.heap.size w w'
  quote : ∀ (s : ByteArray), s.size ≤ 1000000000000000 → ∀ w, Tab w → Calls Tryz.prog 127 #[.string s] w fun e w' => e = .returned (pairS (qt s.data.toList)) ∧ Below w.heap.size w w'
  tz : ∀ (s : ByteArray), s.size ≤ 1000000000000000 → ∀ w, Tab w → Calls Tryz.prog 29 #[.string s] w fun e w' => GivesT e w' (tz s.data.toList) ∧ Below w.heap.size w w'
  join : jb = true → ∀ (a : Option Addr) (c : Nat) (xs : List T), FitsT xs → ∀ w, Tab w → Tks w a xs → Calls Tryz.prog 30 #[.slice a xs.length c] w fun e w' => e = .returned (pairS (join (toks xs))) ∧ Below w.heap.size w w'

/-! ### small -/

/-! ### the examples -/

theorem GivesT.open {e : Ending} {w' : World} {r : Res} {l : List Tok} {x y : Int} {xs : List T} (h : GivesT e w' r) (hr : r = (l, x, y)) (hl : l.map ofTok = xs) : ∃ a c, e = .returned (.tuple #[.slice a xs.length c, .int .i64 x, .int .i64 y]) ∧ Sl w' a c xs := by
  subst hr hl; exact h
end Go.Proofs.YteglaeopaocilaaGreatDoor.L
namespace Go.Proofs.YteglaeopaocilaaGreatDoor.L
open Go.RowKit

/-- a token, its size and an error; with an error whatever token and size -/
def GivesQ (e : Ending) (s : ByteArray) (r : Tok × Str × Int) : Prop :=
  ∃ (p : T) (E : Int), e = .returned (.tuple #[p.val, .int .i64 E, .int .i64 r.2.2]) ∧ (r.2.2 = 0 → E = ((s.size - r.2.1.length : Nat) : Int) ∧ p = ofTok r.1)
theorem GivesQ.err {e : Ending} {s : ByteArray} {r : Tok × Str × Int} {x : Int} (p : T) (E : Int) (h : r.2.2 = x) (hx : x ≠ 0) (he : e = .returned (.tuple #[p.val, .int .i64 E, .int .i64 x])) : GivesQ e s r := by
  subst h; exact ⟨p, E, he, fun h => absurd h hx⟩
/-- a literal's rest, behind a backslash or not -/
def litb (b : Bool) (out : Str) (l : Str) : Str × Str × Int :=
  if b then (match l with
    | [] => ([], [], 6)
    | d :: r2 => if d.toNat = 34 ∨ d.toNat = 92 then (if out.length = 64 then ([], [], 2) else litr (out ++ [d]) r2) else ([], [], 5)) else litr out l
theorem litb_end (b : Bool) (out : Str) : litb b out [] = ([], [], 6) := by
  cases b
  · exact litr_0 out
  · rfl
theorem litb_slash {out r : Str} {c : UInt8} (h : c.toNat = 92) : litb false out (c :: r) = litb true out r := by
  show litr out (c :: r) = _
  rw [litr.eq_def]; simp only; rw [if_neg (by omega), if_pos h]; rfl
theorem litb_bad {b : Bool} {out r : Str} {c : UInt8} (h : prt c = false) : litb b out (c :: r) = ([], [], 5) := by
  have h2 : ¬ (32 ≤ c.toNat ∧ c.toNat ≤ 126) := fun h3 => by rw [prt_iff.2 h3] at h; cases h
  cases b
  · exact litr_ps (by omega) (by omega) h
  · show (if c.toNat = 34 ∨ c.toNat = 92 then _ else _) = _
    rw [if_neg (by omega)]
theorem litb_esc {out r : Str} {c : UInt8} (h : spc c = false) : litb true out (c :: r) = ([], [], 5) := by
  show (if c.toNat = 34 ∨ c.toNat = 92 then _ else _) = _
  rw [if_neg (of_decide_eq_false h)]
theorem litb_full {out r : Str} {c : UInt8} (h : spc c = true) (h2 : out.length = 64) : litb true out (c :: r) = ([], [], 2) := by
  show (if c.toNat = 34 ∨ c.toNat = 92 then _ else _) = _
  rw [if_pos (of_decide_eq_true h), if_pos h2]
theorem litb_more {out r : Str} {c : UInt8} (h : spc c = true) (h2 : ¬ out.length = 64) : litb true out (c :: r) = litb false (out ++ [c]) r := by
  show (if c.toNat = 34 ∨ c.toNat = 92 then _ else _) = _
  rw [if_pos (of_decide_eq_true h), if_neg h2]; rfl
/-- the token that a literal's rest gives -/
def lt4 (r : Str × Str × Int) : Tok × Str × Int := (⟨4, r.1, 0, 0⟩, r.2.1, r.2.2)
theorem GivesQ.bad {e : Ending} {s : ByteArray} {R : Str × Str × Int} {x : Int} (h : R = ([], [], x)) (hx : x ≠ 0) (he : e = .returned (.tuple #[.agg #[.int .i64 0, .string ⟨#[]⟩, .int .i64 0, .int .i64 0], .int .i64 0, .int .i64 x])) : GivesQ e s (lt4 R) :=
  GivesQ.err zeroT 0 (by subst h; rfl) hx he
theorem GivesQ.lit {e : Ending} {s : ByteArray} {R : Str × Str × Int} {t : Str} {k : Nat} (h : R = (t, s.data.toList.drop (k + 1), 0)) (hk : k < s.size) (he : e = .returned (.tuple #[.agg #[.int .i64 4, .string ⟨t.toArray⟩, .int .i64 0, .int .i64 0], .int .i64 ((k : Int) + 1), .int .i64 0])) : GivesQ e s (lt4 R) := by
  subst h
  refine ⟨⟨4, ⟨t.toArray⟩, 0, 0⟩, (k : Int) + 1, he, fun _ => ⟨?_, rfl⟩⟩
  show (k : Int) + 1 = ((s.size - (s.data.toList.drop (k + 1)).length : Nat) : Int)
  rw [List.length_drop, ← size_len]
  omega
theorem row_len {w : World} {B : Nat} {v : Value} {l : Str} (h : Own8 w B v l) : ∃ a c, v = .slice a l.length c := by
  rcases h.2 with ⟨rfl, h0⟩ | ⟨g, cap, cur, rfl, _⟩
  · exact ⟨none, 0, by rw [h0]⟩
  · exact ⟨_, cap, rfl⟩
set_option maxHeartbeats 4000000 in
set_option maxRecDepth 100000 in
theorem oliteral_any (s : ByteArray) (hs : s.size ≤ 1000000000000000) (h0 : 0 < s.size) (w : World) :
    Calls Tryz.prog 122 #[.string s] w fun e w' => GivesQ e s (lt4 (litr [] (s.data.toList.drop 1))) ∧ Below w.heap.size w w' := by
  obtain ⟨R, hR⟩ : ∃ R, litr [] (s.data.toList.drop 1) = R := ⟨_, rfl⟩
  rw [hR]
  have HR : Hid (litb false [] (s.data.toList.drop 1) = R) := hR
  have HM := Lib.hid (MineT.zero w)
  have HW := Lib.hid (below_box w (.cells #[.int .i64 0, .string ⟨#[]⟩, .int .i64 0, .int .i64 0] 101))
  have HP := Lib.hid oplain_any
  have HS := Lib.hid ospecial_any
  clear hR
  go_enter Tryz.func122, Tryz.ntmps122
  go_wp2_with fail
  go_loopw [5, 6, 7] (fun v b i wr => ∃ (k : Nat) (t : Str) (y : Bool), 1 ≤ k ∧ k ≤ s.size ∧ i = .int .i64 k ∧ b = .bool y ∧ t.length ≤ 64 ∧ Hid (litb y t (s.data.toList.drop k) = R) ∧ Hid (Own8 wr (w.heap.size + 1) v t) ∧ Hid (Below (w.heap.size + 1) (w.alloc (.cells #[.int .i64 0, .string ⟨#[]⟩, .int .i64 0, .int .i64 0] 101)) wr) ∧ w.heap.size + 1 ≤ wr.heap.size) (fun _ _ i _ => s.size - (intOf i).toNat)
  case atStart => exact ⟨1, [], false, Nat.le_refl _, h0, rfl, rfl, Nat.zero_le _, HR, World.ownsRow_nil _ _ _ _, Below.refl _ _, by simp⟩
  case round =>
    obtain ⟨k, t, y, hk1, hk, rfl, rfl, ht, HK, HO, HB, hzr⟩ := hrel
    have HBB : Hid (Below w.heap.size w wr) := below_2 HW.out (HB.out.mono (by simp))
    by_cases hlt : k < s.size
    · have hkk := HK.out
      rw [drop_get s k hlt] at hkk
      have hp := HP.out s[k]
      cases hok : prt s[k]
      · have HV : Hid (R = ([], [], 5)) := by show _ = _; rw [← hkk, litb_bad hok]
        rw [hok] at hp
        have HP1 := Lib.hid hp
        obtain ⟨⟨p, d0, d1, d2, d3⟩, g0, g1, g2, g3⟩ := HM.out.below HB.out (by omega)
        simp only [Nat.zero_add] at d0 d1 d2 d3
        clear hp hok hkk HK
        go_wp2_with fail
        refine (HP1.out _).mono ?_; rintro e w1 ⟨rfl, he⟩; obtain rfl : wr = w1 := he.symm
        go_wp2_with fail
        obtain ⟨q0, q1, q2, q3⟩ := storedT (w := wr) (b := w.heap.size) (p := p) ⟨d0, d1, d2, d3⟩ ⟨0, ⟨#[]⟩, 0, 0⟩
        simp only [Nat.zero_add] at q0 q1 q2 q3
        refine bodyPost_ret (v := .tuple #[.agg #[.int .i64 0, .string ⟨#[]⟩, .int .i64 0, .int .i64 0], .int .i64 0, .int .i64 5]) (by simp [results, Tryz.results122, go_sem, q0, q1, q2, q3]) rfl ⟨GivesQ.bad HV.out (by decide) rfl, storedT_below HBB.out (Nat.le_refl _) _ _ _ _⟩
      · rw [hok] at hp
        have HP1 := Lib.hid hp
        have hs0 := HS.out s[k]
        cases y
        · by_cases h34 : s[k].toNat = 34
          · have HV : Hid (R = (t, s.data.toList.drop (k + 1), 0)) := by show _ = _; rw [← hkk]; exact litr_q h34
            have b1 : ((s[k].toNat : Int) == 34) = true := beq_iff_eq.2 (by omega)
            have hcv := HO.out.back
            obtain ⟨⟨p, d0, d1, d2, d3⟩, g0, g1, g2, g3⟩ := HM.out.below HB.out (by omega)
            simp only [Nat.zero_add] at d0 d1 d2 d3
            clear hp hok hkk HK hs0 h34
            go_wp2_with fail
            refine (HP1.out _).mono ?_; rintro e w1 ⟨rfl, he⟩; obtain rfl : wr = w1 := he.symm
            go_wp2_with fail
            obtain ⟨q0, q1, q2, q3⟩ := storedT (w := wr) (b := w.heap.size) (p := p) ⟨d0, d1, d2, d3⟩ ⟨4, ⟨t.toArray⟩, 0, 0⟩
            simp only [Nat.zero_add] at q0 q1 q2 q3
            refine bodyPost_ret (v := .tuple #[.agg #[.int .i64 4, .string ⟨t.toArray⟩, .int .i64 0, .int .i64 0], .int .i64 ((k : Int) + 1), .int .i64 0]) (by simp [results, Tryz.results122, go_sem, q0, q1, q2, q3]) rfl ⟨GivesQ.lit HV.out hlt rfl, storedT_below HBB.out (Nat.le_refl _) _ _ _ _⟩
          · have b1 : ((s[k].toNat : Int) == 34) = false := beq_eq_false_iff_ne.2 (by omega)
            by_cases h92 : s[k].toNat = 92
            · have HN : Hid (litb true t (s.data.toList.drop (k + 1)) = R) := by show _ = _; rw [← hkk, litb_slash h92]
              have b2 : ((s[k].toNat : Int) == 92) = true := beq_iff_eq.2 (by omega)
              clear hp hok hkk HK hs0 h34 h92
              go_wp2_with fail
              refine (HP1.out _).mono ?_; rintro e w1 ⟨rfl, he⟩; obtain rfl : wr = w1 := he.symm
              go_wp2_with fail
              go_roundw
              case rel => exact ⟨k + 1, t, true, by omega, by omega, by go_num, by first | rfl | trivial, ht, HN, HO, HB, hzr⟩
              case measure => simp [intOf]; omega
            · have b2 : ((s[k].toNat : Int) == 92) = false := beq_eq_false_iff_ne.2 (by omega)
              by_cases h64 : t.length = 64
              · have HV : Hid (R = ([], [], 2)) := by show _ = _; rw [← hkk]; exact litr_pl h34 h92 hok h64
                obtain ⟨⟨p, d0, d1, d2, d3⟩, g0, g1, g2, g3⟩ := HM.out.below HB.out (by omega)
                simp only [Nat.zero_add] at d0 d1 d2 d3
                obtain ⟨gg, cc, hvv⟩ := Go.Joins.ownsRow_form HO.out (by omega)
                rw [h64] at hvv
                subst hvv
                clear hp hok hkk HK hs0 h34 h92
                go_wp2_with fail
                refine (HP1.out _).mono ?_; rintro e w1 ⟨rfl, he⟩; obtain rfl : wr = w1 := he.symm
                go_wp2_with fail
                obtain ⟨q0, q1, q2, q3⟩ := storedT (w := wr) (b := w.heap.size) (p := p) ⟨d0, d1, d2, d3⟩ ⟨0, ⟨#[]⟩, 0, 0⟩
                simp only [Nat.zero_add] at q0 q1 q2 q3
                refine bodyPost_ret (v := .tuple #[.agg #[.int .i64 0, .string ⟨#[]⟩, .int .i64 0, .int .i64 0], .int .i64 0, .int .i64 2]) (by simp [results, Tryz.results122, go_sem, q0, q1, q2, q3]) rfl ⟨GivesQ.bad HV.out (by decide) rfl, storedT_below HBB.out (Nat.le_refl _) _ _ _ _⟩
              · have HN : Hid (litb false (t ++ [s[k]]) (s.data.toList.drop (k + 1)) = R) := by show _ = _; rw [← hkk]; exact (litr_p h34 h92 hok h64).symm
                have bz : ((t.length : Int) == 64) = false := beq_eq_false_iff_ne.2 (by omega)
                have H64 : Hid (t.length < 64) := by show _ < _; omega
                obtain ⟨a0, c0, hvv⟩ := row_len HO.out
                subst hvv
                clear hp hok hkk HK hs0 h34 h92 h64
                go_wp2_with fail
                refine (HP1.out _).mono ?_; rintro e w1 ⟨rfl, he⟩; obtain rfl : wr = w1 := he.symm
                go_wp2_with (at_builtin; refine wpList_append_byte rfl _ _ rfl (w.heap.size + 1) (.slice a0 t.length c0) t rfl _ HO.out wr.heap.size rfl rfl (by omega) (by omega) s[k] rfl ?_; intro v1 w2 hown1 hgrow1; have hb2 := below_app HB.out (by omega) hgrow1 HO.out.ge)
                go_roundw
                case rel => exact ⟨k + 1, t ++ [s[k]], false, by omega, by omega, by go_num, by first | rfl | trivial, by have := H64.out; rw [List.length_append]; simp; omega, HN, hown1, hb2, by have := hb2.size; simpa using this⟩
                case measure => simp [intOf]; omega
        · cases hsp : spc s[k]
          · have HV : Hid (R = ([], [], 5)) := by show _ = _; rw [← hkk, litb_esc hsp]
            rw [hsp] at hs0
            have HS1 := Lib.hid hs0
            obtain ⟨⟨p, d0, d1, d2, d3⟩, g0, g1, g2, g3⟩ := HM.out.below HB.out (by omega)
            simp only [Nat.zero_add] at d0 d1 d2 d3
            clear hp hok hkk HK hs0 hsp
            go_wp2_with fail
            refine (HP1.out _).mono ?_; rintro e w1 ⟨rfl, he⟩; obtain rfl : wr = w1 := he.symm
            go_wp2_with fail
            refine (HS1.out _).mono ?_; rintro e w1 ⟨rfl, he⟩; obtain rfl : wr = w1 := he.symm
            go_wp2_with fail
            obtain ⟨q0, q1, q2, q3⟩ := storedT (w := wr) (b := w.heap.size) (p := p) ⟨d0, d1, d2, d3⟩ ⟨0, ⟨#[]⟩, 0, 0⟩
            simp only [Nat.zero_add] at q0 q1 q2 q3
            refine bodyPost_ret (v := .tuple #[.agg #[.int .i64 0, .string ⟨#[]⟩, .int .i64 0, .int .i64 0], .int .i64 0, .int .i64 5]) (by simp [results, Tryz.results122, go_sem, q0, q1, q2, q3]) rfl ⟨GivesQ.bad HV.out (by decide) rfl, storedT_below HBB.out (Nat.le_refl _) _ _ _ _⟩
          · rw [hsp] at hs0
            have HS1 := Lib.hid hs0
            have hq : s[k].toNat = 34 ∨ s[k].toNat = 92 := of_decide_eq_true hsp
            by_cases h64 : t.length = 64
            · have HV : Hid (R = ([], [], 2)) := by show _ = _; rw [← hkk, litb_full hsp h64]
              obtain ⟨gg, cc, hvv⟩ := Go.Joins.ownsRow_form HO.out (by omega)
              rw [h64] at hvv
              subst hvv
              obtain ⟨⟨p, d0, d1, d2, d3⟩, g0, g1, g2, g3⟩ := HM.out.below HB.out (by omega)
              simp only [Nat.zero_add] at d0 d1 d2 d3
              rcases hq with hq | hq
              · have b1 : ((s[k].toNat : Int) == 34) = true := beq_iff_eq.2 (by omega)
                have b2 : ((s[k].toNat : Int) == 92) = false := beq_eq_false_iff_ne.2 (by omega)
                clear hp hok hkk HK hs0 hsp hq
                go_wp2_with fail
                refine (HP1.out _).mono ?_; rintro e w1 ⟨rfl, he⟩; obtain rfl : wr = w1 := he.symm
                go_wp2_with fail
                refine (HS1.out _).mono ?_; rintro e w1 ⟨rfl, he⟩; obtain rfl : wr = w1 := he.symm
                go_wp2_with fail
                obtain ⟨q0, q1, q2, q3⟩ := storedT (w := wr) (b := w.heap.size) (p := p) ⟨d0, d1, d2, d3⟩ ⟨0, ⟨#[]⟩, 0, 0⟩
                simp only [Nat.zero_add] at q0 q1 q2 q3
                refine bodyPost_ret (v := .tuple #[.agg #[.int .i64 0, .string ⟨#[]⟩, .int .i64 0, .int .i64 0], .int .i64 0, .int .i64 2]) (by simp [results, Tryz.results122, go_sem, q0, q1, q2, q3]) rfl ⟨GivesQ.bad HV.out (by decide) rfl, storedT_below HBB.out (Nat.le_refl _) _ _ _ _⟩
              · have b1 : ((s[k].toNat : Int) == 34) = false := beq_eq_false_iff_ne.2 (by omega)
                have b2 : ((s[k].toNat : Int) == 92) = true := beq_iff_eq.2 (by omega)
                clear hp hok hkk HK hs0 hsp hq
                go_wp2_with fail
                refine (HP1.out _).mono ?_; rintro e w1 ⟨rfl, he⟩; obtain rfl : wr = w1 := he.symm
                go_wp2_with fail
                refine (HS1.out _).mono ?_; rintro e w1 ⟨rfl, he⟩; obtain rfl : wr = w1 := he.symm
                go_wp2_with fail
                obtain ⟨q0, q1, q2, q3⟩ := storedT (w := wr) (b := w.heap.size) (p := p) ⟨d0, d1, d2, d3⟩ ⟨0, ⟨#[]⟩, 0, 0⟩
                simp only [Nat.zero_add] at q0 q1 q2 q3
                refine bodyPost_ret (v := .tuple #[.agg #[.int .i64 0, .string ⟨#[]⟩, .int .i64 0, .int .i64 0], .int .i64 0, .int .i64 2]) (by simp [results, Tryz.results122, go_sem, q0, q1, q2, q3]) rfl ⟨GivesQ.bad HV.out (by decide) rfl, storedT_below HBB.out (Nat.le_refl _) _ _ _ _⟩
            · have HN : Hid (litb false (t ++ [s[k]]) (s.data.toList.drop (k + 1)) = R) := by show _ = _; rw [← hkk, litb_more hsp h64]
              have bz : ((t.length : Int) == 64) = false := beq_eq_false_iff_ne.2 (by omega)
              have H64 : Hid (t.length < 64) := by show _ < _; omega
              obtain ⟨a0, c0, hvv⟩ := row_len HO.out
              subst hvv
              rcases hq with hq | hq
              · have b1 : ((s[k].toNat : Int) == 34) = true := beq_iff_eq.2 (by omega)
                have b2 : ((s[k].toNat : Int) == 92) = false := beq_eq_false_iff_ne.2 (by omega)
                clear hp hok hkk HK hs0 hsp hq h64
                go_wp2_with fail
                refine (HP1.out _).mono ?_; rintro e w1 ⟨rfl, he⟩; obtain rfl : wr = w1 := he.symm
                go_wp2_with fail
                refine (HS1.out _).mono ?_; rintro e w1 ⟨rfl, he⟩; obtain rfl : wr = w1 := he.symm
                go_wp2_with (at_builtin; refine wpList_append_byte rfl _ _ rfl (w.heap.size + 1) (.slice a0 t.length c0) t rfl _ HO.out wr.heap.size rfl rfl (by omega) (by omega) s[k] rfl ?_; intro v1 w2 hown1 hgrow1; have hb2 := below_app HB.out (by omega) hgrow1 HO.out.ge)
                go_roundw
                case rel => exact ⟨k + 1, t ++ [s[k]], false, by omega, by omega, by go_num, by first | rfl | trivial, by have := H64.out; rw [List.length_append]; simp; omega, HN, hown1, hb2, by have := hb2.size; simpa using this⟩
                case measure => simp [intOf]; omega
              · have b1 : ((s[k].toNat : Int) == 34) = false := beq_eq_false_iff_ne.2 (by omega)
                have b2 : ((s[k].toNat : Int) == 92) = true := beq_iff_eq.2 (by omega)
                clear hp hok hkk HK hs0 hsp hq h64
                go_wp2_with fail
                refine (HP1.out _).mono ?_; rintro e w1 ⟨rfl, he⟩; obtain rfl : wr = w1 := he.symm
                go_wp2_with fail
                refine (HS1.out _).mono ?_; rintro e w1 ⟨rfl, he⟩; obtain rfl : wr = w1 := he.symm
                go_wp2_with (at_builtin; refine wpList_append_byte rfl _ _ rfl (w.heap.size + 1) (.slice a0 t.length c0) t rfl _ HO.out wr.heap.size rfl rfl (by omega) (by omega) s[k] rfl ?_; intro v1 w2 hown1 hgrow1; have hb2 := below_app HB.out (by omega) hgrow1 HO.out.ge)
                go_roundw
                case rel => exact ⟨k + 1, t ++ [s[k]], false, by omega, by omega, by go_num, by first | rfl | trivial, by have := H64.out; rw [List.length_append]; simp; omega, HN, hown1, hb2, by have := hb2.size; simpa using this⟩
                case measure => simp [intOf]; omega
    · obtain rfl : k = s.size := by omega
      have HV : Hid (R = ([], [], 6)) := by show _ = _; rw [← HK.out, drop_all, litb_end]
      obtain ⟨⟨p, d0, d1, d2, d3⟩, g0, g1, g2, g3⟩ := HM.out.below HB.out (by omega)
      simp only [Nat.zero_add] at d0 d1 d2 d3
      clear HK
      go_wp2_with fail
      obtain ⟨q0, q1, q2, q3⟩ := storedT (w := wr) (b := w.heap.size) (p := p) ⟨d0, d1, d2, d3⟩ ⟨0, ⟨#[]⟩, 0, 0⟩
      simp only [Nat.zero_add] at q0 q1 q2 q3
      refine bodyPost_ret (v := .tuple #[.agg #[.int .i64 0, .string ⟨#[]⟩, .int .i64 0, .int .i64 0], .int .i64 0, .int .i64 6]) (by simp [results, Tryz.results122, go_sem, q0, q1, q2, q3]) rfl ⟨GivesQ.bad HV.out (by decide) rfl, storedT_below HBB.out (Nat.le_refl _) _ _ _ _⟩
end Go.Proofs.YteglaeopaocilaaGreatDoor.L
