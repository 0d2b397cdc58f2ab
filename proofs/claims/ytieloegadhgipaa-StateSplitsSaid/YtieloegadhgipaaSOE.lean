/-
  What merge returns, for the choice of Apply, of Diff and of Union: contracts, one a choice.
-/
import Derived.Test.YtieloegadhgipaaSOD
namespace Go.Proofs.Ytieloegadhgipaa.S
open Go.RowKit
open Go.Proofs.Ytieloegadhgipaa.V (ret_bool ret_int ret_string below_2 below_box below_box2 size_len)

/-- the length in a slot, for a loop's measure -/
def lenV : Value → Nat | .slice _ n _ => n | _ => 0
/-- the first pair of a list cut off -/
theorem cut1 {w : World} {a : Option Addr} {c : Nat} {x : P} {xs : List P} {n : Nat} (h : Sl w a c (x :: xs)) (hn : xs.length = n) :
    (∀ W, (Instr.slice 22 (.slice a (n + 1) c) none (some (.int .i64 1)) none).run Try.prog W = .ok (.slice a 1 c) W) ∧ Sl w a c [x] ∧
    ∃ b d, (∀ W, (Instr.slice 22 (.slice a (n + 1) c) (some (.int .i64 1)) none none).run Try.prog W = .ok (.slice b n d) W) ∧ Sl w b d xs := by
  subst hn
  obtain ⟨h1, h2⟩ := slice_to h (k := 1) (by simp)
  obtain ⟨b, d, h3, h4⟩ := slice_from h (k := 1) (by simp)
  exact ⟨h1, h2, b, d, h3, h4⟩
theorem back_quiet {wr w4 : World} (hw' : ∃ p : Regrown, w4 = Sort.grow (redrawn wr p.d) p.os) : Below wr.heap.size wr w4 := by
  obtain ⟨⟨dq, osq⟩, hw''⟩ := hw'
  rw [hw'']
  exact below_regrown _ dq osq
theorem grownQ {f : FuncId} {args : Array Value} {v : Value} {W : World} (h : ∀ w, Calls Try.prog f args w fun e w' => e = .returned v ∧ Below w.heap.size w w') (d : Nat) (os : Array Obj) :
    Calls Try.prog f args (Sort.grow (redrawn W d) os) fun e w'' => e = .returned v ∧ ∃ p : Regrown, w'' = Sort.grow (redrawn W p.d) p.os := Calls.regrown_of (h _)
theorem nx_one (s : Bool) (x : P) : nx s [x] [] = s := by unfold nx; simp
theorem nx_two (s : Bool) (y : P) : nx s [] [y] = s := by unfold nx; simp
theorem nx_both (s : Bool) (x y : P) : nx s [x] [y] = true := by unfold nx; simp
set_option maxHeartbeats 8000000 in
set_option maxRecDepth 100000 in
theorem mergeA_any (ch : List P → List P → List P) (I : Bool → World → Prop) (w0 : World) (B : Nat) (hN : w0.heap.size ≤ B) 
    (hCh : ∀ (s : Bool) (a b : Option Addr) (c d : Nat) (fa fb : List P) (wr : World), fa.length ≤ 1 → fb.length ≤ 1 → (fa ≠ [] ∨ fb ≠ []) → Sl wr a c fa → Sl wr b d fb → I s wr → B ≤ wr.heap.size →
      Calls Try.prog 39 #[.slice a fa.length c, .slice b fb.length d] wr fun e w' => GivesL e w' (ch fa fb) ∧ I (nx s fa fb) w' ∧ Keeps w0.heap.size B wr w')
    (hI : ∀ s w w', I s w → Below B w w' → I s w')
    (a b : Option Addr) (c d : Nat) (xs ys : List P) (hx : xs.length ≤ 2932031007402) (hy : ys.length ≤ 2932031007402) (hl : (mrg ch xs ys).length ≤ 2932031007402)
    (hA : Sl w0 a c xs) (hB : Sl w0 b d ys) (w1 : World) (hw1 : Below w0.heap.size w0 w1) (hB1 : B ≤ w1.heap.size) (hI1 : I false w1) :
    Calls Try.prog 31 #[.slice a xs.length c, .slice b ys.length d, .func (Fn.func 32) #[] #[], .func (Fn.func 39) #[] #[]] w1 fun e w' => GivesL e w' (mrg ch xs ys) ∧ I (fl xs ys) w' ∧ Below w0.heap.size w0 w' := by
  have HA := Lib.hid hA
  have HB := Lib.hid hB
  have HCh := Lib.hid hCh
  have HI := Lib.hid hI
  have HLim := Lib.hid hl
  have HW1 := Lib.hid hw1
  have HI1 := Lib.hid hI1
  have HCI := Lib.hid V.cmpI_any
  have HBK := Lib.hid byKey_any
  clear hA hB hCh hI hl hw1 hI1
  obtain ⟨n, hn⟩ : ∃ n, xs.length = n := ⟨_, rfl⟩
  obtain ⟨m, hm⟩ : ∃ m, ys.length = m := ⟨_, rfl⟩
  have HL := Lib.hid hn
  have HM := Lib.hid hm
  have hxn : xs.length ≤ 2932031007402 := hx
  have hyn : ys.length ≤ 2932031007402 := hy
  rw [hn] at hxn ⊢
  rw [hm] at hyn ⊢
  clear hn hm hx hy
  go_enter Try.func31, Try.ntmps31
  go_wp2
  go_loopw [0, 1, 9] (fun va vb vo wr => ∃ (a1 : Option Addr) (c1 : Nat) (xs1 : List P) (b1 : Option Addr) (d1 : Nat) (ys1 : List P) (L : List P) (sg : Bool), va = .slice a1 xs1.length c1 ∧ vb = .slice b1 ys1.length d1 ∧ Hid (Sl w0 a1 c1 xs1) ∧ Hid (Sl w0 b1 d1 ys1) ∧ xs1.length ≤ n ∧ ys1.length ≤ m ∧ Hid (L ++ mrg ch xs1 ys1 = mrg ch xs ys) ∧ Hid ((sg || fl xs1 ys1) = fl xs ys) ∧ Hid (wr.ownsRow B 33 4 vo L.length (pc L)) ∧ Hid (I sg wr) ∧ Below w0.heap.size w0 wr ∧ B ≤ wr.heap.size) (fun va vb _ _ => lenV va + lenV vb)
  case atStart => exact ⟨a, c, xs, b, d, ys, [], false, by rw [HL.out], by rw [HM.out], HA, HB, by rw [HL.out]; exact Nat.le_refl _, by rw [HM.out]; exact Nat.le_refl _, rfl, rfl, World.ownsRow_nil _ _ _ _, HI1.out, HW1.out, hB1⟩
  case round =>
    obtain ⟨a1, c1, xs1, b1, d1, ys1, L, sg, rfl, rfl, HSA, HSB, hxl, hyl, HEQ0, HFQ0, HO0, HI0, hb0, hz0⟩ := hrel
    have HB0 := Lib.hid hb0
    have HSz0 := Lib.hid hz0
    have HEQ := HEQ0.out
    have hFQ := HFQ0.out
    clear hb0 hz0 HEQ0 HFQ0
    cases xs1 with
    | nil =>
      simp only [List.length_nil] at hxl
      cases ys1 with
      | nil =>
        rw [mrg_00, List.append_nil] at HEQ
        rw [fl_00, Bool.or_false] at hFQ
        subst HEQ
        subst hFQ
        obtain ⟨ra, rc, rfl, hSr⟩ := own_sl HO0.out
        have HSr := Lib.hid hSr
        clear hSr HO0
        go_wp2_with fail
        go_ret
        exact ⟨⟨ra, rc, rfl, HSr.out⟩, HI0.out, HB0.out⟩
      | cons y ys2 =>
        obtain ⟨m1, hm1⟩ : ∃ m1, ys2.length = m1 := ⟨_, rfl⟩
        have HM1 := Lib.hid hm1
        simp only [List.length_cons, hm1] at hyl ⊢
        obtain ⟨hr1, hS1, b2, d2, hr2, hS2⟩ := cut1 HSB.out hm1
        have HS1 := Lib.hid hS1
        have HS2 := Lib.hid hS2
        have hC := HCI.out ((m1 : Int) + 1) 0
        rw [show V.ci ((m1 : Int) + 1) 0 = 1 from by unfold V.ci; rw [if_neg (by omega), if_pos (by omega)]] at hC
        have HC := Lib.hid hC
        clear hS1 hS2 hm1 hC
        go_wp2_with fail
        refine (HC.out _).mono ?_; rintro e wx ⟨rfl, he⟩; obtain rfl : wr = wx := he.symm
        go_wp2_with fail
        refine wp_region_quiet_below (by kernel_rfl) (by kernel_rfl) ?_
        repeat (go_big_quiet_step (fail))
        refine wpQuiet_nil ?_
        intro w4 hw'
        have hbw4 := back_quiet hw'
        clear hw'
        have HB4 := Lib.hid (HB0.out.trans (hbw4.mono (Nat.le_trans hN HSz0.out)))
        have HO4 := Lib.hid (own_belowO HO0.out hbw4)
        have HI4 := Lib.hid (HI.out _ _ _ HI0.out (hbw4.mono HSz0.out))
        have HSz4 := Lib.hid (Nat.le_trans HSz0.out hbw4.size)
        clear hbw4
        have HBl := HB4
        have HOl := HO4
        have HIl := HI4
        have HSz := HSz4
        have HCC := Lib.hid (HCh.out sg none b1 0 d1 [] [y] w4 (by simp) (by simp) (by simp) (Sl.empty _) (HS1.out.below HBl.out) HIl.out HSz.out)
        have HE := Lib.hid HEQ
        have hlen : L.length + (ch [] [y]).length ≤ 2932031007402 := by
          have h := congrArg List.length HEQ
          rw [mrg_01, List.length_append, List.length_append, ← List.length_append, List.length_append] at h
          have := HLim.out
          omega
        have HE2 : Hid ((L ++ ch [] [y]) ++ mrg ch [] ys2 = mrg ch xs ys) := by show _ = _; rw [List.append_assoc, ← mrg_01]; exact HEQ
        have HF2 : Hid ((nx sg [] [y] || fl [] ys2) = fl xs ys) := by show _ = _; rw [nx_two]; rw [fl_01] at hFQ; exact hFQ
        clear HEQ hFQ
        go_wp2_with fail
        refine HCC.out.mono ?_; rintro e wc ⟨⟨ra, rc, rfl, hSr⟩, hIc, hKc⟩
        have HOc := Lib.hid (own_keeps HOl.out hKc)
        have HIc := Lib.hid hIc
        have HSr := Lib.hid hSr
        have hzc : B ≤ wc.heap.size := Nat.le_trans HSz.out hKc.below.size
        have HBc := Lib.hid (HBl.out.trans hKc.below)
        clear hIc hSr hKc
        go_wp2_with (at_builtin; refine wpList_append_pairs rfl (.tmp 54) (.tmp 58) rfl B u9 L rfl HOc.out ra rc (ch [] [y]) rfl HSr.out hlen hzc ?_; intro v1 w7 hown1 hgrow1; have hb7 := below_grown (Below.refl B wc) hzc hgrow1 (own_ge HOc.out))
        go_roundw
        case rel => exact ⟨a1, c1, [], b2, d2, ys2, L ++ (ch [] [y]), nx sg [] [y], rfl, by rw [HM1.out], HSA, HS2, by simp, by rw [HM1.out]; omega, HE2, HF2, hown1, HI.out _ _ _ HIc.out hb7, HBc.out.trans (hb7.mono hN), Nat.le_trans hzc hb7.size⟩
        case measure => simp [lenV] <;> omega
    | cons x xs2 =>
      obtain ⟨n1, hn1⟩ : ∃ n1, xs2.length = n1 := ⟨_, rfl⟩
      have HN1 := Lib.hid hn1
      simp only [List.length_cons, hn1] at hxl ⊢
      obtain ⟨hr1, hS1, a2, c2, hr2, hS2⟩ := cut1 HSA.out hn1
      have HS1 := Lib.hid hS1
      have HS2 := Lib.hid hS2
      clear hS1 hS2 hn1
      cases ys1 with
      | nil =>
        have hC := HCI.out 0 ((n1 : Int) + 1)
        rw [show V.ci 0 ((n1 : Int) + 1) = -1 from by unfold V.ci; rw [if_pos (by omega)]] at hC
        have HC := Lib.hid hC
        clear hC
        go_wp2_with fail
        refine (HC.out _).mono ?_; rintro e wx ⟨rfl, he⟩; obtain rfl : wr = wx := he.symm
        go_wp2_with fail
        refine wp_region_quiet_below (by kernel_rfl) (by kernel_rfl) ?_
        repeat (go_big_quiet_step (fail))
        refine wpQuiet_nil ?_
        intro w4 hw'
        have hbw4 := back_quiet hw'
        clear hw'
        have HB4 := Lib.hid (HB0.out.trans (hbw4.mono (Nat.le_trans hN HSz0.out)))
        have HO4 := Lib.hid (own_belowO HO0.out hbw4)
        have HI4 := Lib.hid (HI.out _ _ _ HI0.out (hbw4.mono HSz0.out))
        have HSz4 := Lib.hid (Nat.le_trans HSz0.out hbw4.size)
        clear hbw4
        have HBl := HB4
        have HOl := HO4
        have HIl := HI4
        have HSz := HSz4
        have HCC := Lib.hid (HCh.out sg a1 none c1 0 [x] [] w4 (by simp) (by simp) (by simp) (HS1.out.below HBl.out) (Sl.empty _) HIl.out HSz.out)
        have HE := Lib.hid HEQ
        have hlen : L.length + (ch [x] []).length ≤ 2932031007402 := by
          have h := congrArg List.length HEQ
          rw [mrg_10, List.length_append, List.length_append, ← List.length_append, List.length_append] at h
          have := HLim.out
          omega
        have HE2 : Hid ((L ++ ch [x] []) ++ mrg ch xs2 [] = mrg ch xs ys) := by show _ = _; rw [List.append_assoc, ← mrg_10]; exact HEQ
        have HF2 : Hid ((nx sg [x] [] || fl xs2 []) = fl xs ys) := by show _ = _; rw [nx_one]; rw [fl_10] at hFQ; exact hFQ
        clear HEQ hFQ
        go_wp2_with fail
        refine HCC.out.mono ?_; rintro e wc ⟨⟨ra, rc, rfl, hSr⟩, hIc, hKc⟩
        have HOc := Lib.hid (own_keeps HOl.out hKc)
        have HIc := Lib.hid hIc
        have HSr := Lib.hid hSr
        have hzc : B ≤ wc.heap.size := Nat.le_trans HSz.out hKc.below.size
        have HBc := Lib.hid (HBl.out.trans hKc.below)
        clear hIc hSr hKc
        go_wp2_with (at_builtin; refine wpList_append_pairs rfl (.tmp 54) (.tmp 58) rfl B u9 L rfl HOc.out ra rc (ch [x] []) rfl HSr.out hlen hzc ?_; intro v1 w7 hown1 hgrow1; have hb7 := below_grown (Below.refl B wc) hzc hgrow1 (own_ge HOc.out))
        go_roundw
        case rel => exact ⟨a2, c2, xs2, b1, d1, [], L ++ (ch [x] []), nx sg [x] [], by rw [HN1.out], rfl, HS2, HSB, by rw [HN1.out]; omega, by simp, HE2, HF2, hown1, HI.out _ _ _ HIc.out hb7, HBc.out.trans (hb7.mono hN), Nat.le_trans hzc hb7.size⟩
        case measure => simp [lenV] <;> omega
      | cons y ys2 =>
        obtain ⟨m1, hm1⟩ : ∃ m1, ys2.length = m1 := ⟨_, rfl⟩
        have HM1 := Lib.hid hm1
        simp only [List.length_cons, hm1] at hyl ⊢
        obtain ⟨hq1, hT1, b2, d2, hq2, hT2⟩ := cut1 HSB.out hm1
        have HT1 := Lib.hid hT1
        have HT2 := Lib.hid hT2
        obtain ⟨ba, oa, rfl, hca⟩ := at_head (HSA.out.below HB0.out)
        obtain ⟨bb, ob, rfl, hcb⟩ := at_head (HSB.out.below HB0.out)
        obtain ⟨ea0, ea1, ea2, ea3⟩ := hca.grown
        obtain ⟨eb0, eb1, eb2, eb3⟩ := hcb.grown
        have hK := HBK.out x y
        clear hT1 hT2 hm1 hca hcb
        by_cases hlt : x.key.data.toList < y.key.data.toList
        · rw [show V.cs x.key.data.toList y.key.data.toList = -1 from by unfold V.cs; rw [if_pos hlt]] at hK
          have HK := Lib.hid (grownQ (W := wr) hK)
          have HLT := Lib.hid hlt
          clear hK hlt
          go_wp2_with fail
          refine (HCI.out _ _ _).mono ?_; rintro e wx ⟨rfl, he⟩; obtain rfl : wr = wx := he.symm
          go_wp2_with fail
          refine wp_region_quiet_below (by kernel_rfl) (by kernel_rfl) ?_
          repeat (go_big_quiet_step (with_reducible exact HK.out _ _))
          refine wpQuiet_nil ?_
          intro w3 hw'
          have hbw3 := back_quiet hw'
          clear hw'
          clear ea0 ea1 ea2 ea3 eb0 eb1 eb2 eb3
          have HB3 := Lib.hid (HB0.out.trans (hbw3.mono (Nat.le_trans hN HSz0.out)))
          have HO3 := Lib.hid (own_belowO HO0.out hbw3)
          have HI3 := Lib.hid (HI.out _ _ _ HI0.out (hbw3.mono HSz0.out))
          have HSz3 := Lib.hid (Nat.le_trans HSz0.out hbw3.size)
          clear hbw3
          go_wp2_with fail
          refine wp_region_quiet_below (by kernel_rfl) (by kernel_rfl) ?_
          repeat (go_big_quiet_step (fail))
          refine wpQuiet_nil ?_
          intro w4 hw'
          have hbw4 := back_quiet hw'
          clear hw'
          have HB4 := Lib.hid (HB3.out.trans (hbw4.mono (Nat.le_trans hN HSz3.out)))
          have HO4 := Lib.hid (own_belowO HO3.out hbw4)
          have HI4 := Lib.hid (HI.out _ _ _ HI3.out (hbw4.mono HSz3.out))
          have HSz4 := Lib.hid (Nat.le_trans HSz3.out hbw4.size)
          clear hbw4
          have HBl := HB4
          have HOl := HO4
          have HIl := HI4
          have HSz := HSz4
          have HCC := Lib.hid (HCh.out sg _ none c1 0 [x] [] w4 (by simp) (by simp) (by simp) (HS1.out.below HBl.out) (Sl.empty _) HIl.out HSz.out)
          have HE := Lib.hid HEQ
          have hlen : L.length + (ch [x] []).length ≤ 2932031007402 := by
            have h := congrArg List.length HEQ
            rw [mrg_lt ch xs2 ys2 HLT.out, List.length_append, List.length_append, ← List.length_append, List.length_append] at h
            have := HLim.out
            omega
          have HE2 : Hid ((L ++ ch [x] []) ++ mrg ch xs2 (y :: ys2) = mrg ch xs ys) := by show _ = _; rw [List.append_assoc, ← mrg_lt ch xs2 ys2 HLT.out]; exact HEQ
          have HF2 : Hid ((nx sg [x] [] || fl xs2 (y :: ys2)) = fl xs ys) := by show _ = _; rw [nx_one]; rw [fl_lt xs2 ys2 HLT.out] at hFQ; exact hFQ
          clear HEQ hFQ
          go_wp2_with fail
          refine HCC.out.mono ?_; rintro e wc ⟨⟨ra, rc, rfl, hSr⟩, hIc, hKc⟩
          have HOc := Lib.hid (own_keeps HOl.out hKc)
          have HIc := Lib.hid hIc
          have HSr := Lib.hid hSr
          have hzc : B ≤ wc.heap.size := Nat.le_trans HSz.out hKc.below.size
          have HBc := Lib.hid (HBl.out.trans hKc.below)
          clear hIc hSr hKc
          go_wp2_with (at_builtin; refine wpList_append_pairs rfl (.tmp 54) (.tmp 58) rfl B u9 L rfl HOc.out ra rc (ch [x] []) rfl HSr.out hlen hzc ?_; intro v1 w7 hown1 hgrow1; have hb7 := below_grown (Below.refl B wc) hzc hgrow1 (own_ge HOc.out))
          go_roundw
          case rel => exact ⟨a2, c2, xs2, _, d1, (y :: ys2), L ++ (ch [x] []), nx sg [x] [], by rw [HN1.out], by rw [List.length_cons, HM1.out], HS2, HSB, by rw [HN1.out]; omega, by rw [List.length_cons, HM1.out]; omega, HE2, HF2, hown1, HI.out _ _ _ HIc.out hb7, HBc.out.trans (hb7.mono hN), Nat.le_trans hzc hb7.size⟩
          case measure => simp [lenV] <;> omega
        · by_cases hgt : y.key.data.toList < x.key.data.toList
          · rw [show V.cs x.key.data.toList y.key.data.toList = 1 from by unfold V.cs; rw [if_neg hlt, if_pos hgt]] at hK
            have HK := Lib.hid (grownQ (W := wr) hK)
            have HLT := Lib.hid hlt
            have HGT := Lib.hid hgt
            clear hK hlt hgt
            go_wp2_with fail
            refine (HCI.out _ _ _).mono ?_; rintro e wx ⟨rfl, he⟩; obtain rfl : wr = wx := he.symm
            go_wp2_with fail
            refine wp_region_quiet_below (by kernel_rfl) (by kernel_rfl) ?_
            repeat (go_big_quiet_step (with_reducible exact HK.out _ _))
            refine wpQuiet_nil ?_
            intro w3 hw'
            have hbw3 := back_quiet hw'
            clear hw'
            clear ea0 ea1 ea2 ea3 eb0 eb1 eb2 eb3
            have HB3 := Lib.hid (HB0.out.trans (hbw3.mono (Nat.le_trans hN HSz0.out)))
            have HO3 := Lib.hid (own_belowO HO0.out hbw3)
            have HI3 := Lib.hid (HI.out _ _ _ HI0.out (hbw3.mono HSz0.out))
            have HSz3 := Lib.hid (Nat.le_trans HSz0.out hbw3.size)
            clear hbw3
            go_wp2_with fail
            refine wp_region_quiet_below (by kernel_rfl) (by kernel_rfl) ?_
            repeat (go_big_quiet_step (fail))
            refine wpQuiet_nil ?_
            intro w4 hw'
            have hbw4 := back_quiet hw'
            clear hw'
            have HB4 := Lib.hid (HB3.out.trans (hbw4.mono (Nat.le_trans hN HSz3.out)))
            have HO4 := Lib.hid (own_belowO HO3.out hbw4)
            have HI4 := Lib.hid (HI.out _ _ _ HI3.out (hbw4.mono HSz3.out))
            have HSz4 := Lib.hid (Nat.le_trans HSz3.out hbw4.size)
            clear hbw4
            have HBl := HB4
            have HOl := HO4
            have HIl := HI4
            have HSz := HSz4
            have HCC := Lib.hid (HCh.out sg none _ 0 d1 [] [y] w4 (by simp) (by simp) (by simp) (Sl.empty _) (HT1.out.below HBl.out) HIl.out HSz.out)
            have HE := Lib.hid HEQ
            have hlen : L.length + (ch [] [y]).length ≤ 2932031007402 := by
              have h := congrArg List.length HEQ
              rw [mrg_gt ch xs2 ys2 HLT.out HGT.out, List.length_append, List.length_append, ← List.length_append, List.length_append] at h
              have := HLim.out
              omega
            have HE2 : Hid ((L ++ ch [] [y]) ++ mrg ch (x :: xs2) ys2 = mrg ch xs ys) := by show _ = _; rw [List.append_assoc, ← mrg_gt ch xs2 ys2 HLT.out HGT.out]; exact HEQ
            have HF2 : Hid ((nx sg [] [y] || fl (x :: xs2) ys2) = fl xs ys) := by show _ = _; rw [nx_two]; rw [fl_gt xs2 ys2 HLT.out HGT.out] at hFQ; exact hFQ
            clear HEQ hFQ
            go_wp2_with fail
            refine HCC.out.mono ?_; rintro e wc ⟨⟨ra, rc, rfl, hSr⟩, hIc, hKc⟩
            have HOc := Lib.hid (own_keeps HOl.out hKc)
            have HIc := Lib.hid hIc
            have HSr := Lib.hid hSr
            have hzc : B ≤ wc.heap.size := Nat.le_trans HSz.out hKc.below.size
            have HBc := Lib.hid (HBl.out.trans hKc.below)
            clear hIc hSr hKc
            go_wp2_with (at_builtin; refine wpList_append_pairs rfl (.tmp 54) (.tmp 58) rfl B u9 L rfl HOc.out ra rc (ch [] [y]) rfl HSr.out hlen hzc ?_; intro v1 w7 hown1 hgrow1; have hb7 := below_grown (Below.refl B wc) hzc hgrow1 (own_ge HOc.out))
            go_roundw
            case rel => exact ⟨_, c1, (x :: xs2), b2, d2, ys2, L ++ (ch [] [y]), nx sg [] [y], by rw [List.length_cons, HN1.out], by rw [HM1.out], HSA, HT2, by rw [List.length_cons, HN1.out]; omega, by rw [HM1.out]; omega, HE2, HF2, hown1, HI.out _ _ _ HIc.out hb7, HBc.out.trans (hb7.mono hN), Nat.le_trans hzc hb7.size⟩
            case measure => simp [lenV] <;> omega
          · rw [show V.cs x.key.data.toList y.key.data.toList = 0 from by unfold V.cs; rw [if_neg hlt, if_neg hgt]] at hK
            have HK := Lib.hid (grownQ (W := wr) hK)
            have HLT := Lib.hid hlt
            have HGT := Lib.hid hgt
            clear hK hlt hgt
            go_wp2_with fail
            refine (HCI.out _ _ _).mono ?_; rintro e wx ⟨rfl, he⟩; obtain rfl : wr = wx := he.symm
            go_wp2_with fail
            refine wp_region_quiet_below (by kernel_rfl) (by kernel_rfl) ?_
            repeat (go_big_quiet_step (with_reducible exact HK.out _ _))
            refine wpQuiet_nil ?_
            intro w3 hw'
            have hbw3 := back_quiet hw'
            clear hw'
            clear ea0 ea1 ea2 ea3 eb0 eb1 eb2 eb3
            have HB3 := Lib.hid (HB0.out.trans (hbw3.mono (Nat.le_trans hN HSz0.out)))
            have HO3 := Lib.hid (own_belowO HO0.out hbw3)
            have HI3 := Lib.hid (HI.out _ _ _ HI0.out (hbw3.mono HSz0.out))
            have HSz3 := Lib.hid (Nat.le_trans HSz0.out hbw3.size)
            clear hbw3
            go_wp2_with fail
            refine wp_region_quiet_below (by kernel_rfl) (by kernel_rfl) ?_
            repeat (go_big_quiet_step (fail))
            refine wpQuiet_nil ?_
            intro w4 hw'
            have hbw4 := back_quiet hw'
            clear hw'
            have HB4 := Lib.hid (HB3.out.trans (hbw4.mono (Nat.le_trans hN HSz3.out)))
            have HO4 := Lib.hid (own_belowO HO3.out hbw4)
            have HI4 := Lib.hid (HI.out _ _ _ HI3.out (hbw4.mono HSz3.out))
            have HSz4 := Lib.hid (Nat.le_trans HSz3.out hbw4.size)
            clear hbw4
            go_wp2_with fail
            refine wp_region_quiet_below (by kernel_rfl) (by kernel_rfl) ?_
            repeat (go_big_quiet_step (fail))
            refine wpQuiet_nil ?_
            intro w5 hw'
            have hbw5 := back_quiet hw'
            clear hw'
            have HB5 := Lib.hid (HB4.out.trans (hbw5.mono (Nat.le_trans hN HSz4.out)))
            have HO5 := Lib.hid (own_belowO HO4.out hbw5)
            have HI5 := Lib.hid (HI.out _ _ _ HI4.out (hbw5.mono HSz4.out))
            have HSz5 := Lib.hid (Nat.le_trans HSz4.out hbw5.size)
            clear hbw5
            have HBl := HB5
            have HOl := HO5
            have HIl := HI5
            have HSz := HSz5
            have HCC := Lib.hid (HCh.out sg _ _ c1 d1 [x] [y] w5 (by simp) (by simp) (by simp) (HS1.out.below HBl.out) (HT1.out.below HBl.out) HIl.out HSz.out)
            have HE := Lib.hid HEQ
            have hlen : L.length + (ch [x] [y]).length ≤ 2932031007402 := by
              have h := congrArg List.length HEQ
              rw [mrg_eq ch xs2 ys2 HLT.out HGT.out, List.length_append, List.length_append, ← List.length_append, List.length_append] at h
              have := HLim.out
              omega
            have HE2 : Hid ((L ++ ch [x] [y]) ++ mrg ch xs2 ys2 = mrg ch xs ys) := by show _ = _; rw [List.append_assoc, ← mrg_eq ch xs2 ys2 HLT.out HGT.out]; exact HEQ
            have HF2 : Hid ((nx sg [x] [y] || fl xs2 ys2) = fl xs ys) := by show _ = _; rw [nx_both]; rw [fl_eq xs2 ys2 HLT.out HGT.out, Bool.or_true] at hFQ; rw [← hFQ]; rfl
            clear HEQ hFQ
            go_wp2_with fail
            refine HCC.out.mono ?_; rintro e wc ⟨⟨ra, rc, rfl, hSr⟩, hIc, hKc⟩
            have HOc := Lib.hid (own_keeps HOl.out hKc)
            have HIc := Lib.hid hIc
            have HSr := Lib.hid hSr
            have hzc : B ≤ wc.heap.size := Nat.le_trans HSz.out hKc.below.size
            have HBc := Lib.hid (HBl.out.trans hKc.below)
            clear hIc hSr hKc
            go_wp2_with (at_builtin; refine wpList_append_pairs rfl (.tmp 54) (.tmp 58) rfl B u9 L rfl HOc.out ra rc (ch [x] [y]) rfl HSr.out hlen hzc ?_; intro v1 w7 hown1 hgrow1; have hb7 := below_grown (Below.refl B wc) hzc hgrow1 (own_ge HOc.out))
            go_roundw
            case rel => exact ⟨a2, c2, xs2, b2, d2, ys2, L ++ (ch [x] [y]), nx sg [x] [y], by rw [HN1.out], by rw [HM1.out], HS2, HT2, by rw [HN1.out]; omega, by rw [HM1.out]; omega, HE2, HF2, hown1, HI.out _ _ _ HIc.out hb7, HBc.out.trans (hb7.mono hN), Nat.le_trans hzc hb7.size⟩
            case measure => simp [lenV] <;> omega
end Go.Proofs.Ytieloegadhgipaa.S
