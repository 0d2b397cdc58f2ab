/-
  The law on Apply and Get of layer 6, walked; what the lists of the laws hold.
-/
import Derived.Test.YtieloegadhgipaaSLawsB
namespace Go.Proofs.Ytieloegadhgipaa.S
open Go.RowKit
open Go.Proofs.Ytieloegadhgipaa.V (ret_bool ret_int ret_string below_2 below_box below_box2 size_len)

theorem prs_inj {xs ys : List P} (h : prs xs = prs ys) : xs = ys := by
  have := congrArg (List.map ofPr) h
  rwa [map_prs, map_prs] at this
theorem grownL {f : FuncId} {args : Array Value} {v : Value} {W : World} {a : Option Addr} {c : Nat} {xs : List P} (hS : Sl W a c xs) (h : ∀ w, Sl w a c xs → Calls Try.prog f args w fun e w' => e = .returned v ∧ Below w.heap.size w w') (d : Nat) (os : Array Obj) :
    Calls Try.prog f args (Sort.grow (redrawn W d) os) fun e w'' => e = .returned v ∧ ∃ p : Regrown, w'' = Sort.grow (redrawn W p.d) p.os := Calls.regrown_of (h _ (hS.below (below_regrown W d os)))
theorem ins_memP {xs : List P} {p q : P} (h : q ∈ insP xs p) : q = p ∨ q ∈ xs := by
  unfold insP at h
  rcases List.mem_append.1 h with h | h
  · exact Or.inr ((List.takeWhile_sublist _).subset h)
  · rcases List.mem_cons.1 h with h | h
    · exact Or.inl h
    · exact Or.inr ((List.dropWhile_sublist _).subset h)
theorem fold_memP {q : P} : ∀ (ys zs : List P), q ∈ ys.foldl insP zs → q ∈ ys ∨ q ∈ zs
  | [], zs, h => Or.inr h
  | p :: ys, zs, h => by
    rw [List.foldl_cons] at h
    rcases fold_memP ys _ h with h | h
    · exact Or.inl (List.mem_cons_of_mem _ h)
    · rcases ins_memP h with rfl | h
      · exact Or.inl List.mem_cons_self
      · exact Or.inr h
theorem app_memP {xs ys : List P} {q : P} (h : q ∈ appP xs ys) : q ∈ ys ∨ q ∈ xs := by
  unfold appP foldP at h
  rcases fold_memP _ _ h with h | h
  · exact Or.inl (List.mem_filter.1 h).1
  · exact Or.inr (List.mem_filter.1 h).1
theorem app_fits {xs ys : List P} (hf : Fits xs) (hg : Fits ys) (hl : xs.length + ys.length ≤ 1000000000000) : Fits (appP xs ys) := by
  refine ⟨by have := appP_len xs ys; omega, fun p hp => ?_, fun p hp => ?_⟩
  · rcases app_memP hp with h | h
    · exact hg.sz p h
    · exact hf.sz p h
  · rcases app_memP hp with h | h
    · exact hg.num p h
    · exact hf.num p h
theorem app_again {xs ys : List P} (h1 : vs (prs xs) = true) (h2 : vw (prs ys) = true) : aplP (appP xs ys) ys = (appP xs ys, 0) := by
  have hv : vs (prs (appP xs ys)) = true := by rw [appP_prs]; exact vs_app h1 h2
  rw [aplP_ok hv h2]
  congr 1
  refine prs_inj ?_
  rw [appP_prs, appP_prs, app_twice h1 h2]
theorem up_of_vw {l : List Pr} (h : vw l = true) : up l := (vw_iff.1 h).2.2
theorem get_writes {xs ys : List P} (h1 : vs (prs xs) = true) (h2 : vw (prs ys) = true) {k : Nat} (hk : k < ys.length) : eqV (getP (appP xs ys) ys[k].key) ys[k] = true := by
  have hu := up_of_vw (vs_iff.1 h1).2
  rw [eqV_iff, getP_val, appP_prs, get_app hu (up_of_vw h2) (vw_iff.1 h2).1]
  have hm := mem_prs hk
  rw [if_pos (show has (prs ys) ys[k].key.data.toList = true from has_iff.2 ⟨_, hm, rfl⟩)]
  exact get_mem (up_of_vw h2) hm
theorem get_rest {xs ys : List P} (h1 : vs (prs xs) = true) (h2 : vw (prs ys) = true) {q : ByteArray} (hq : has (prs ys) q.data.toList = false) : eqV (getP (appP xs ys) q) (getP xs q) = true := by
  have hu := up_of_vw (vs_iff.1 h1).2
  rw [eqV_iff, getP_val, getP_val, appP_prs, get_app hu (up_of_vw h2) (vw_iff.1 h2).1, hq, if_neg (by decide)]
set_option maxHeartbeats 4000000 in
set_option maxRecDepth 100000 in
theorem gets_walk (O : Own) (a b : Option Addr) (c d : Nat) (xs ys : List P) (q : ByteArray) (hf : Fits xs) (hg : Fits ys) (hl : xs.length + ys.length ≤ 1000000000000) (w : World) (hA : Sl w a c xs) (hB : Sl w b d ys) :
    Calls Try.prog 8 #[.slice a xs.length c, .slice b ys.length d, .string q] w fun e w' => e = .returned (.bool true) ∧ Below w.heap.size w w' := by
  have HA := Lib.hid hA
  have HB := Lib.hid hB
  have PE := Lib.hid (examples_any O)
  have p1 := fun w hA hB => O.apply a b c d xs ys hf hg w hA hB
  by_cases hv : vs (prs xs) = true ∧ vw (prs ys) = true
  · obtain ⟨h1, h2⟩ := hv
    have hfz := app_fits hf hg hl
    have hvz : vs (prs (appP xs ys)) = true := by rw [appP_prs]; exact vs_app h1 h2
    have G1 := Lib.hid (fun (k : Nat) (hk : k < ys.length) => get_writes (xs := xs) h1 h2 hk)
    have G2 := Lib.hid (fun hq => get_rest (xs := xs) (ys := ys) (q := q) h1 h2 hq)
    rw [aplP_ok h1 h2] at p1
    have p2 := fun a1 c1 w h h2 => O.apply a1 b c1 d (appP xs ys) ys hfz hg w h h2
    rw [app_again h1 h2] at p2
    have p3 := fun a1 c1 w h => O.valid a1 c1 (appP xs ys) hfz w h
    rw [hvz] at p3
    have P4 := Lib.hid (fun (a1 a2 : Option Addr) (c1 c2 : Nat) (w : World) (h1 : Sl w a1 c1 (appP xs ys)) (h2 : Sl w a2 c2 (appP xs ys)) => rsame_any a1 a2 c1 c2 (appP xs ys) (appP xs ys) hfz.len w h1.prs h2.prs)
    rw [same_self] at P4
    have P5 := Lib.hid (fun a1 c1 k w h => O.get a1 c1 (appP xs ys) k hfz w h)
    have P6 := Lib.hid (fun w h => O.get a c xs q hf w h)
    have P7 := Lib.hid (fun (w : World) (h : Sl w b d ys) => rhas_any b d ys q hg.len w h.prs)
    generalize appP xs ys = zs at p1 p2 p3 P4 P5 G1 G2
    have P1 := Lib.hid p1
    have P2 := Lib.hid p2
    have P3 := Lib.hid p3
    obtain ⟨m, hm⟩ : ∃ m, ys.length = m := ⟨_, rfl⟩
    have HM := Lib.hid hm
    have hy := hg.len
    rw [hm] at P1 P2 P7 hy ⊢
    generalize xs.length = n at P1 P6 ⊢
    clear hA hB hf hg hl h1 h2 hfz hvz O p1 p2 p3 hm
    go_enter Try.func8, Try.ntmps8
    go_wp2_with fail
    refine (P1.out _ HA.out HB.out).mono ?_; rintro e w1 ⟨⟨a1, c1, rfl, hS1⟩, hb1⟩
    have HA1 := Lib.hid (HA.out.below hb1)
    have HB1 := Lib.hid (HB.out.below hb1)
    have H1 := Lib.hid hb1
    have HS1 := Lib.hid hS1
    clear hb1 hS1
    go_wp2_with fail
    refine (P2.out _ _ _ HS1.out HB1.out).mono ?_; rintro e w2 ⟨⟨a2, c2, rfl, hS2⟩, hb2⟩
    have HA2 := Lib.hid (HA1.out.below hb2)
    have HB2 := Lib.hid (HB1.out.below hb2)
    have H2 := Lib.hid (below_2 H1.out hb2)
    have HS2 := Lib.hid hS2
    have HS1 := Lib.hid (HS1.out.below hb2)
    clear hb2 hS2 HA1 HB1 H1
    go_wp2_with fail
    refine (P3.out _ _ _ HS1.out).mono ?_; rintro e w3 ⟨rfl, hb3⟩
    have HA3 := Lib.hid (HA2.out.below hb3)
    have HB3 := Lib.hid (HB2.out.below hb3)
    have H3 := Lib.hid (below_2 H2.out hb3)
    have HS2 := Lib.hid (HS2.out.below hb3)
    have HS1 := Lib.hid (HS1.out.below hb3)
    clear hb3 HA2 HB2 H2
    go_wp2_with fail
    refine (P4.out _ _ _ _ _ HS2.out HS1.out).mono ?_; rintro e w4 ⟨rfl, hb4⟩
    have HA4 := Lib.hid (HA3.out.below hb4)
    have HB4 := Lib.hid (HB3.out.below hb4)
    have H4 := Lib.hid (below_2 H3.out hb4)
    have HS1 := Lib.hid (HS1.out.below hb4)
    clear hb4 HA3 HB3 H3 HS2
    go_wp2_with fail
    go_loopw [11] (fun vi wr => ∃ k : Nat, k ≤ m ∧ vi = .int .i64 k ∧ Below w4.heap.size w4 wr) (fun vi _ => m - (intOf vi).toNat)
    case atStart => exact ⟨0, Nat.zero_le _, rfl, Below.refl _ _⟩
    case round =>
      obtain ⟨k, hk, rfl, hb⟩ := hrel
      by_cases hlt : k < m
      · have hly : k < ys.length := by rw [HM.out]; exact hlt
        have HGt := Lib.hid (grownL (HS1.out.below hb) (P5.out a1 c1 ys[k].key))
        simp only [P.v] at HGt
        obtain ⟨b1, o1, rfl, hc⟩ := (HB4.out.below hb).prs.open hly
        obtain ⟨d0, d1, d2, d3⟩ := (hc k hly).grown
        have he := run_neq_val (getP zs ys[k].key) ys[k]
        rw [G1.out k hly] at he
        generalize getP zs ys[k].key = g at HGt he
        generalize ys[k] = p at d0 d1 d2 d3 HGt he
        clear hc
        go_wp2_with fail
        refine wp_region_quiet_below (by kernel_rfl) (by kernel_rfl) ?_
        repeat (go_big_quiet_step (with_reducible exact HGt.out _ _))
        refine wpQuiet_nil ?_
        intro w6 hw'
        have hb6 : Below wr.heap.size wr w6 := by
          obtain ⟨⟨dq, osq⟩, hw''⟩ := hw'
          rw [hw'']
          exact below_regrown _ dq osq
        clear hw' d0 d1 d2 d3
        go_wp2_with fail
        go_roundw
        case rel => exact ⟨k + 1, by omega, by go_num, below_2 hb hb6⟩
        case measure => simp [intOf]; omega
      · obtain rfl : m = k := by omega
        have HAr := Lib.hid (HA4.out.below hb)
        have HBr := Lib.hid (HB4.out.below hb)
        have HSr := Lib.hid (HS1.out.below hb)
        have Hr := Lib.hid (below_2 H4.out hb)
        clear HA4 HB4 HS1 H4 hb
        cases hq : has (prs ys) q.data.toList
        · have he := run_neq_val (getP zs q) (getP xs q)
          rw [G2.out hq] at he
          rw [hq] at P7
          simp only [P.v] at P5 P6
          go_wp2_with fail
          refine (P7.out _ HBr.out).mono ?_; rintro e w5 ⟨rfl, e5⟩; obtain rfl : wr = w5 := e5.symm
          go_wp2_with fail
          refine (P5.out _ _ _ _ HSr.out).mono ?_; rintro e w6 ⟨rfl, hb6⟩
          go_wp2_with fail
          refine (P6.out _ (HAr.out.below hb6)).mono ?_; rintro e w7 ⟨rfl, hb7⟩
          go_wp2_with fail
          refine (PE.out _).mono ?_; rintro e w8 ⟨rfl, hb8⟩
          go_wp2_with fail
          go_ret
          exact ⟨rfl, below_2 (below_2 (below_2 Hr.out hb6) hb7) hb8⟩
        · rw [hq] at P7
          go_wp2_with fail
          refine (P7.out _ HBr.out).mono ?_; rintro e w5 ⟨rfl, e5⟩; obtain rfl : wr = w5 := e5.symm
          go_wp2_with fail
          refine (PE.out _).mono ?_; rintro e w8 ⟨rfl, hb8⟩
          go_wp2_with fail
          go_ret
          exact ⟨rfl, below_2 Hr.out hb8⟩
  · have hno : aplP xs ys = ([], 1) := by
      cases h1 : vs (prs xs)
      · exact aplP_no (Or.inl h1)
      · cases h2 : vw (prs ys)
        · exact aplP_no (Or.inr h2)
        · exact absurd ⟨h1, h2⟩ hv
    rw [hno] at p1
    have P1 := Lib.hid p1
    generalize xs.length = n at P1 ⊢
    generalize ys.length = m at P1 ⊢
    clear hA hB hf hg hl O p1 hv hno
    go_enter Try.func8, Try.ntmps8
    go_wp2_with fail
    refine (P1.out _ HA.out HB.out).mono ?_; rintro e w1 ⟨⟨a1, c1, rfl, hS1⟩, hb1⟩
    clear hS1
    go_wp2_with fail
    refine (PE.out _).mono ?_; rintro e w8 ⟨rfl, hb8⟩
    go_wp2_with fail
    go_ret
    exact ⟨rfl, below_2 hb1 hb8⟩
end Go.Proofs.Ytieloegadhgipaa.S
