/-
  Declarations of texts that lie merged: what further laws need of LRefs, LRefsB, LMem.
-/
import Derived.Test.YtgjnddjpinhkgaaDoorM01
import Derived.Test.YtgjnddjpinhkgaaDoorM02
import Derived.Test.YtgjnddjpinhkgaaDoorQLFacts
import Derived.Test.YtgjnddjpinhkgaaDoorQLTexts
import Derived.Deep.LoopGhost
import Derived.WalkKit
import Derived.LoopTactic
import Derived.Lib.Walk
import Derived.Lib.Strings
import Derived.Lib.Hide
import Derived.Laws.BitsAllLaws
import Derived.WalkLawsBesides
import Derived.Deep.QuietTactic
import Derived.BigQuiet
import Derived.Lib.QuietBelow
import Derived.Deep.RegionHeld3
import Derived.BigRegion
import Derived.OwnWalk
import Derived.Laws.AppendOwnNone
import Derived.Deep.AppendLies
import Derived.Laws.MakeOwn
namespace Go.Proofs.YtgjnddjpinhkgaaDoor.L
open Go.RowKit
theorem drop_all (s : ByteArray) : s.data.toList.drop s.size = [] := by rw [size_len]; exact List.drop_length
/-! ### lists of strings -/
def kwB : List ByteArray := keywords.map fun l => ⟨l.toArray⟩
theorem keywords_any (w : World) : Calls Tryd.prog 118 #[] w fun e w' => e = .returned (.slice (some ⟨w.heap.size, 0, none⟩) 25 25) ∧ w' = w.alloc (blk kwB) := by
  go_enter Tryd.func118, Tryd.ntmps118
  go_wp2
  go_ret
  exact ⟨rfl, rfl⟩
def anyStr (xs : List ByteArray) (q : ByteArray) : Bool := xs.any fun x => decide (x.data.toList = q.data.toList)
theorem any_hit {xs : List ByteArray} {q : ByteArray} {k : Nat} (h : k < xs.length) (e : xs[k].data.toList = q.data.toList) : anyStr xs q = true := List.any_eq_true.2 ⟨_, List.getElem_mem h, decide_eq_true e⟩
theorem any_miss {xs : List ByteArray} {q : ByteArray} (h : ∀ j (h : j < xs.length), xs[j].data.toList ≠ q.data.toList) : anyStr xs q = false := by
  rw [anyStr, List.any_eq_false]
  intro x hx
  obtain ⟨j, hj, rfl⟩ := List.mem_iff_getElem.1 hx
  rw [decide_eq_false (h j hj)]; decide
set_option maxRecDepth 100000 in
theorem has_any (b c : Nat) (xs : List ByteArray) (q : ByteArray) (hx : xs.length ≤ 1000) (w : World) (hS : Strs w b xs) :
    Calls Tryd.prog 117 #[.slice (some ⟨b, 0, none⟩) xs.length c, .string q] w fun e w' => e = .returned (.bool (anyStr xs q)) ∧ w' = w := by
  have HS := Lib.hid hS
  clear hS
  obtain ⟨n, hn⟩ : ∃ n, xs.length = n := ⟨_, rfl⟩
  have HL := Lib.hid hn
  rw [hn] at hx ⊢
  clear hn
  go_enter Tryd.func117, Tryd.ntmps117
  go_wp2
  go_loopw [5] (fun s5 wr => ∃ k : Nat, k ≤ n ∧ s5 = .int .i64 k ∧ wr = w ∧ Hid (∀ j (h : j < xs.length), j < k → xs[j].data.toList ≠ q.data.toList)) (fun s5 _ => n - (intOf s5).toNat)
  case atStart => exact ⟨0, Nat.zero_le _, rfl, rfl, fun j _ h => absurd h (Nat.not_lt_zero _)⟩
  case round =>
    obtain ⟨k, hk, rfl, rfl, HK⟩ := hrel
    by_cases hlt : k < n
    · have hlx : k < xs.length := by rw [HL.out]; exact hlt
      have c0 := HS.out k hlx
      by_cases hok : xs[k].data.toList = q.data.toList
      · have HV := Lib.hid (any_hit hlx hok)
        have bq : (xs[k].toList == q.toList) = true := by rw [eql_eq]; exact decide_eq_true hok
        generalize xs[k] = p at c0 bq
        clear hok
        go_wp2_with fail
        go_ret
        exact ⟨ret_bool HV.out.symm, rfl⟩
      · have HN : Hid (∀ j (h : j < xs.length), j < k + 1 → xs[j].data.toList ≠ q.data.toList) := by
          intro j h hj
          by_cases e : j = k
          · subst e; exact hok
          · exact HK.out j h (by omega)
        have bq : (xs[k].toList == q.toList) = false := by rw [eql_eq]; exact decide_eq_false hok
        generalize xs[k] = p at c0 bq
        clear hok
        go_wp2_with fail
        go_roundw
        case rel => exact ⟨k + 1, by omega, by go_num, by first | rfl | trivial, HN⟩
        case measure => simp [intOf]; omega
    · obtain rfl : n = k := by omega
      have HV : Hid (anyStr xs q = false) := any_miss fun j h => HK.out j h (by rw [← HL.out]; exact h)
      go_wp2_with fail
      go_ret
      exact ⟨ret_bool HV.out.symm, rfl⟩
theorem any_of (ls : List Str) (q : ByteArray) : anyStr (ls.map fun l => ⟨l.toArray⟩) q = decide (q.data.toList ∈ ls) := by
  rw [anyStr, List.any_map]
  refine Bool.eq_iff_iff.2 ?_
  rw [List.any_eq_true, decide_eq_true_iff]
  constructor
  · rintro ⟨x, hx, e⟩
    have := of_decide_eq_true e
    rw [← this]; exact hx
  · intro h
    exact ⟨_, h, decide_eq_true rfl⟩
theorem isKw_any (q : ByteArray) (w : World) :
    Calls Tryd.prog 80 #[.string q] w fun e w' => e = .returned (.bool (isKw q.data.toList)) ∧ Below w.heap.size w w' := by
  have HK := Lib.hid keywords_any
  have HB := Lib.hid (below_box w (blk kwB))
  have HH := Lib.hid (has_any w.heap.size 25 kwB q (by decide) _ (Strs.new w kwB))
  have HE : Hid (anyStr kwB q = isKw q.data.toList) := any_of keywords q
  rw [HE.out] at HH
  rw [show kwB.length = 25 from rfl] at HH
  clear HE
  generalize isKw q.data.toList = R at HH ⊢
  generalize blk kwB = O at HK HB HH
  go_enter Tryd.func80, Tryd.ntmps80
  go_wp2_with fail
  refine (HK.out _).mono ?_; rintro e w1 ⟨rfl, rfl⟩
  go_wp2_with fail
  refine HH.out.mono ?_; rintro e w2 ⟨rfl, rfl⟩
  go_wp2_with fail
  go_ret
  exact ⟨rfl, HB.out⟩
/-! ### bytes -/
theorem letter_not {c : UInt8} (h : letter c = false) : ¬ (97 ≤ (c.toNat : Int) ∧ (c.toNat : Int) ≤ 122) := fun h2 => by
  rw [letter_iff.2 ⟨by omega, by omega⟩] at h; cases h
theorem digit_not {c : UInt8} (h : digit c = false) : ¬ (48 ≤ (c.toNat : Int) ∧ (c.toNat : Int) ≤ 57) := fun h2 => by
  rw [digit_iff.2 ⟨by omega, by omega⟩] at h; cases h
theorem letter_any (c : UInt8) (w : World) :
    Calls Tryd.prog 78 #[.int .u8 (c.toNat : Int)] w fun e w' => e = .returned (.bool (letter c)) ∧ w' = w := by
  cases hok : letter c
  · have HO := Lib.hid (letter_not hok)
    clear hok
    go_enter Tryd.func78, Tryd.ntmps78
    go_wp2
    all_goals (go_ret; exact ⟨ret_bool (by first | rfl | (refine decide_eq_false fun h => HO.out ⟨by omega, by omega⟩)), rfl⟩)
  · have HO := letter_iff.1 hok
    clear hok
    go_enter Tryd.func78, Tryd.ntmps78
    go_wp2
    all_goals (go_ret; exact ⟨ret_bool (by first | rfl | (refine decide_eq_true (by omega))), rfl⟩)
theorem digit_any (c : UInt8) (w : World) :
    Calls Tryd.prog 131 #[.int .u8 (c.toNat : Int)] w fun e w' => e = .returned (.bool (digit c)) ∧ w' = w := by
  cases hok : digit c
  · have HO := Lib.hid (digit_not hok)
    clear hok
    go_enter Tryd.func131, Tryd.ntmps131
    go_wp2
    all_goals (go_ret; exact ⟨ret_bool (by first | rfl | (refine decide_eq_false fun h => HO.out ⟨by omega, by omega⟩)), rfl⟩)
  · have HO := digit_iff.1 hok
    clear hok
    go_enter Tryd.func131, Tryd.ntmps131
    go_wp2
    all_goals (go_ret; exact ⟨ret_bool (by first | rfl | (refine decide_eq_true (by omega))), rfl⟩)
theorem part_any (c : UInt8) (w : World) :
    Calls Tryd.prog 116 #[.int .u8 (c.toNat : Int)] w fun e w' => e = .returned (.bool (part c)) ∧ w' = w := by
  have h1 := letter_any c
  have h2 := digit_any c
  have h3 : part c = (letter c || digit c || ((c.toNat : Int) == 95)) := by
    unfold part
    congr 1
    refine Bool.eq_iff_iff.2 ?_
    rw [decide_eq_true_iff, beq_iff_eq]
    omega
  have HV := Lib.hid h3
  clear h3
  cases hl : letter c
  · rw [hl] at h1 HV
    have H1 := Lib.hid h1
    cases hd : digit c
    · rw [hd] at h2 HV
      have H2 := Lib.hid h2
      clear h1 h2 hl hd
      go_enter Tryd.func116, Tryd.ntmps116
      go_wp2_with fail
      refine (H1.out _).mono ?_; rintro e w1 ⟨rfl, rfl⟩
      go_wp2_with fail
      refine (H2.out _).mono ?_; rintro e w1 ⟨rfl, rfl⟩
      go_wp2_with fail
      go_ret
      exact ⟨ret_bool (by rw [HV.out]; rfl), rfl⟩
    · rw [hd] at h2 HV
      have H2 := Lib.hid h2
      clear h1 h2 hl hd
      go_enter Tryd.func116, Tryd.ntmps116
      go_wp2_with fail
      refine (H1.out _).mono ?_; rintro e w1 ⟨rfl, rfl⟩
      go_wp2_with fail
      refine (H2.out _).mono ?_; rintro e w1 ⟨rfl, rfl⟩
      go_wp2_with fail
      go_ret
      exact ⟨ret_bool (by rw [HV.out]; rfl), rfl⟩
  · rw [hl] at h1 HV
    have H1 := Lib.hid h1
    clear h1 h2 hl
    go_enter Tryd.func116, Tryd.ntmps116
    go_wp2_with fail
    refine (H1.out _).mono ?_; rintro e w1 ⟨rfl, rfl⟩
    go_wp2_with fail
    go_ret
    exact ⟨ret_bool (by rw [HV.out]; rfl), rfl⟩
/-! ### word, IsName -/
theorem wl_go {s : ByteArray} {k : Nat} (h : k < s.size) (hp : part s[k] = true) : wl s k = 1 + wl s (k + 1) := by
  unfold wl
  rw [drop_get s k h, List.takeWhile_cons, if_pos hp, List.length_cons]; omega
theorem wl_stop {s : ByteArray} {k : Nat} (h : k < s.size) (hp : part s[k] = false) : wl s k = 0 := by
  unfold wl
  rw [drop_get s k h, List.takeWhile_cons, if_neg (by rw [hp]; decide)]; rfl
theorem wl_end (s : ByteArray) : wl s s.size = 0 := by unfold wl; rw [drop_all]; rfl
set_option maxRecDepth 100000 in
theorem word_any (s : ByteArray) (hs : s.size ≤ 9223372036854775800) (k0 : Nat) (h0 : k0 ≤ s.size) (w : World) :
    Calls Tryd.prog 79 #[.string s, .int .i64 (k0 : Int)] w fun e w' => e = .returned (.int .i64 ((k0 + wl s k0 : Nat) : Int)) ∧ w' = w := by
  have HC := Lib.hid part_any
  go_enter Tryd.func79, Tryd.ntmps79
  go_wp2
  go_loopw [1] (fun s1 wr => ∃ k : Nat, k ≤ s.size ∧ s1 = .int .i64 k ∧ wr = w ∧ Hid (k + wl s k = k0 + wl s k0)) (fun s1 _ => s.size - (intOf s1).toNat)
  case atStart => exact ⟨k0, h0, rfl, rfl, rfl⟩
  case round =>
    obtain ⟨k, hk, rfl, rfl, HK⟩ := hrel
    by_cases hlt : k < s.size
    · have hp := HC.out s[k]
      cases hok : part s[k]
      · have HV := Lib.hid (wl_stop hlt hok)
        rw [hok] at hp
        have HP := Lib.hid hp
        clear hok hp
        go_wp2_with fail
        refine (HP.out _).mono ?_; rintro e w1 ⟨rfl, rfl⟩
        go_wp2_with fail
        go_ret
        exact ⟨ret_int (by rw [← HK.out, HV.out]; rfl), rfl⟩
      · have HN : Hid (k + 1 + wl s (k + 1) = k0 + wl s k0) := by show _ = _; rw [← HK.out, wl_go hlt hok]; omega
        rw [hok] at hp
        have HP := Lib.hid hp
        clear hok hp
        go_wp2_with fail
        refine (HP.out _).mono ?_; rintro e w1 ⟨rfl, rfl⟩
        go_wp2_with fail
        go_roundw
        case rel => exact ⟨k + 1, by omega, by go_num, by first | rfl | trivial, HN⟩
        case measure => simp [intOf]; omega
    · obtain rfl : k = s.size := by omega
      have HV := Lib.hid (wl_end s)
      go_wp2_with fail
      go_ret
      exact ⟨ret_int (by rw [← HK.out, HV.out]; rfl), rfl⟩
end Go.Proofs.YtgjnddjpinhkgaaDoor.L
namespace Go.Proofs.YtgjnddjpinhkgaaDoor.L
open Go.RowKit
set_option maxRecDepth 100000 in
theorem isName_any (s : ByteArray) (hs : s.size ≤ 9223372036854775800) (w : World) :
    Calls Tryd.prog 44 #[.string s] w fun e w' => e = .returned (.bool (isName s.data.toList)) ∧ Below w.heap.size w w' := by
  by_cases h0 : 0 < s.size
  · by_cases h16 : s.size ≤ 16
    · have h1 := letter_any s[0]
      have h2 := word_any s hs 0 (Nat.zero_le _)
      rw [Nat.zero_add] at h2
      have h2 : ∀ w, Calls Tryd.prog 79 #[.string s, .int .i64 0] w fun e w' => e = .returned (.int .i64 ((wl s 0 : Nat) : Int)) ∧ w' = w := h2
      have HK := Lib.hid (isKw_any s)
      cases hl : letter s[0]
      · have HV := Lib.hid (name_head h0 hl)
        rw [hl] at h1
        have H1 := Lib.hid h1
        clear h1 h2 hl HK
        go_enter Tryd.func44, Tryd.ntmps44
        go_wp2_with fail
        refine (H1.out _).mono ?_; rintro e w1 ⟨rfl, rfl⟩
        go_wp2_with fail
        go_ret
        exact ⟨ret_bool HV.out.symm, Below.refl _ _⟩
      · rw [hl] at h1
        have H1 := Lib.hid h1
        have H2 := Lib.hid h2
        by_cases hw : wl s 0 = s.size
        · have HV := Lib.hid (name_kw h0 h16 hl hw)
          have bw : ((wl s 0 : Int) == (s.size : Int)) = true := beq_iff_eq.2 (by omega)
          generalize wl s 0 = L at H2 bw
          generalize isKw s.data.toList = K at HK HV
          clear h1 h2 hl hw
          cases K
          all_goals
            go_enter Tryd.func44, Tryd.ntmps44
            go_wp2_with fail
            refine (H1.out _).mono ?_; rintro e w1 ⟨rfl, rfl⟩
            go_wp2_with fail
            refine (H2.out _).mono ?_; rintro e w1 ⟨rfl, rfl⟩
            go_wp2_with fail
            refine (HK.out _).mono ?_; rintro e w2 ⟨rfl, hb2⟩
            go_wp2_with fail
            go_ret
            exact ⟨ret_bool (by rw [HV.out]; rfl), hb2⟩
        · have HV := Lib.hid (name_part hw)
          have bw : ((wl s 0 : Int) == (s.size : Int)) = false := beq_eq_false_iff_ne.2 (by omega)
          generalize wl s 0 = L at H2 bw
          clear h1 h2 hl hw HK
          go_enter Tryd.func44, Tryd.ntmps44
          go_wp2_with fail
          refine (H1.out _).mono ?_; rintro e w1 ⟨rfl, rfl⟩
          go_wp2_with fail
          refine (H2.out _).mono ?_; rintro e w1 ⟨rfl, rfl⟩
          go_wp2_with fail
          go_ret
          exact ⟨ret_bool HV.out.symm, Below.refl _ _⟩
    · have HV := Lib.hid (name_long h16)
      go_enter Tryd.func44, Tryd.ntmps44
      go_wp2_with fail
      go_ret
      exact ⟨ret_bool HV.out.symm, Below.refl _ _⟩
  · have HV := Lib.hid (name_short h0)
    have hz : s.size = 0 := by omega
    go_enter Tryd.func44, Tryd.ntmps44
    go_wp2_with fail
    go_ret
    exact ⟨ret_bool HV.out.symm, Below.refl _ _⟩
/-! ### Printable, Quote -/
/-! ### skip, feeds -/
end Go.Proofs.YtgjnddjpinhkgaaDoor.L
namespace Go.Proofs.YtgjnddjpinhkgaaDoor.L
open Go.RowKit
theorem grownS {f : FuncId} {args : Array Value} {v : Value} {W : World} (h : ∀ w, Calls Tryd.prog f args w fun e w' => e = .returned v ∧ w' = w) (d : Nat) (os : Array Obj) :
    Calls Tryd.prog f args (Sort.grow (redrawn W d) os) fun e w'' => e = .returned v ∧ ∃ p : Regrown, w'' = Sort.grow (redrawn W p.d) p.os :=
  Calls.regrown_of ((h _).mono fun _ _ ⟨a, b⟩ => ⟨a, by rw [b]; exact Below.refl _ _⟩)
end Go.Proofs.YtgjnddjpinhkgaaDoor.L
