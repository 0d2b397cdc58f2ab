/-
  What the reference of layer 6 returns: Slice, Union, Diff: contracts, one a function.
-/
import Derived.Test.YtieloegadhgipaaSBuilds
namespace Go.Proofs.Ytieloegadhgipaa.S
open Go.RowKit
open Go.Proofs.Ytieloegadhgipaa.V (ret_bool ret_int ret_string below_2 below_box below_box2)

/-! ### Slice -/

def inR (f t : ByteArray) (p : P) : Bool := K.cont f.data.toList t.data.toList p.key.data.toList
def sliP (f t : ByteArray) (xs : List P) : List P := xs.filter (inR f t)
theorem sliP_prs (f t : ByteArray) (xs : List P) : prs (sliP f t xs) = sli f.data.toList t.data.toList (prs xs) := by
  unfold sliP sli
  exact filter_prs (f := inR f t) (g := fun p => K.cont f.data.toList t.data.toList p.1) (fun p => rfl) xs
theorem filter_next {f : P → Bool} {xs : List P} {k : Nat} (h : k < xs.length) : (f xs[k] = true → (xs.take (k + 1)).filter f = (xs.take k).filter f ++ [xs[k]]) ∧ (f xs[k] = false → (xs.take (k + 1)).filter f = (xs.take k).filter f) := by
  rw [List.take_succ_eq_append_getElem h, List.filter_append]
  constructor
  · intro hk; rw [List.filter_cons, if_pos hk]; rfl
  · intro hk; rw [List.filter_cons, if_neg (by rw [hk]; decide)]; simp
theorem filter_len (f : P → Bool) (xs : List P) (k : Nat) : ((xs.take k).filter f).length ≤ xs.length := by
  have h1 := List.length_filter_le f (xs.take k)
  have h2 : (xs.take k).length ≤ xs.length := by rw [List.length_take]; omega
  omega
/-- a list, returned -/
def GivesL (e : Ending) (w' : World) (r : List P) : Prop := ∃ a c, e = .returned (.slice a r.length c) ∧ Sl w' a c r
set_option maxHeartbeats 4000000 in
set_option maxRecDepth 100000 in
theorem rslice_any (a : Option Addr) (c : Nat) (xs : List P) (f t : ByteArray) (hx : xs.length ≤ 2000000000000) (hf : f.size ≤ 9223372036854775807) (ht : t.size ≤ 9223372036854775807) (w : World) (hA : Prs w a xs) :
    Calls Try.prog 24 #[.slice a xs.length c, .agg #[.string f, .string t]] w fun e w' => GivesL e w' (sliP f t xs) ∧ Below w.heap.size w w' := by
  have hbx := below_box w (.cells #[.string f, .string t] 35)
  have HBox := Lib.hid hbx
  have HR := Lib.hid (K.Has.box w f t)
  have HA := Lib.hid (hA.below hbx)
  have HC := Lib.hid (fun k => K.rcontains_any f t k hf ht)
  clear hA hbx
  obtain ⟨n, hn⟩ : ∃ n, xs.length = n := ⟨_, rfl⟩
  have HL := Lib.hid hn
  rw [hn] at hx ⊢
  clear hn
  go_enter Try.func24, Try.ntmps24
  go_wp2
  go_loopw [5, 6] (fun vo vi wr => ∃ k : Nat, k ≤ n ∧ vi = .int .i64 k ∧ Hid (wr.ownsRow (w.heap.size + 1) 33 4 vo ((xs.take k).filter (inR f t)).length (pc ((xs.take k).filter (inR f t)))) ∧ Below (w.heap.size + 1) (w.alloc (.cells #[.string f, .string t] 35)) wr) (fun _ vi _ => n - (intOf vi).toNat)
  case atStart => exact ⟨0, Nat.zero_le _, rfl, World.ownsRow_nil _ _ _ _, Below.refl _ _⟩
  case round =>
    obtain ⟨k, hk, rfl, HO, hb⟩ := hrel
    have hzr := hb.size
    simp at hzr
    by_cases hlt : k < n
    · have hlx : k < xs.length := by rw [HL.out]; exact hlt
      have hbb : Below (w.alloc (.cells #[.string f, .string t] 35)).heap.size (w.alloc (.cells #[.string f, .string t] 35)) wr := by simpa using hb
      obtain ⟨b1, o1, rfl, hc⟩ := (HA.out.below hbb).open hlx
      obtain ⟨c0, c1, c2, c3⟩ := (hc k hlx).grown
      obtain ⟨g0, g1⟩ := HR.out.below hb (Nat.lt_succ_self _)
      have r0 := fun d os => cell_regrown g0 d os
      have r1 := fun d os => cell_regrown g1 d os
      have hl := filter_len (inR f t) xs k
      rw [HL.out] at hl
      obtain ⟨n1, n2⟩ := filter_next (f := inR f t) hlx
      have hC := HC.out xs[k].key
      have hAt := Lib.hid (hc k hlx)
      clear g0 g1 hbb
      cases hq : inR f t xs[k]
      · have HN := Lib.hid (n2 hq)
        rw [show K.cont f.data.toList t.data.toList xs[k].key.data.toList = false from hq] at hC
        have HCC := Lib.hid (grownW (W := wr) hC)
        generalize xs[k] = p at c0 c1 c2 c3 HCC hAt
        clear n1 n2 hc hq hC
        go_wp2_with fail
        refine wp_region_quiet_below (by kernel_rfl) (by kernel_rfl) ?_
        repeat (go_big_quiet_step (with_reducible exact HCC.out _ _))
        refine wpQuiet_nil ?_
        intro w4 hw'
        have hb4 : Below wr.heap.size wr w4 := by
          obtain ⟨⟨dq, osq⟩, hw''⟩ := hw'
          rw [hw'']
          exact below_regrown _ dq osq
        clear hw' c0 c1 c2 c3 r0 r1
        have HB4 := Lib.hid (hb.trans (hb4.mono (by omega)))
        have HO4 := Lib.hid (own_belowO HO.out hb4)
        go_wp2_with fail
        go_roundw
        case rel => exact ⟨k + 1, by omega, by go_num, (by unfold Hid; rw [HN.out]; exact HO4.out), HB4.out⟩
        case measure => simp [intOf]; omega
      · have HN := Lib.hid (n1 hq)
        rw [show K.cont f.data.toList t.data.toList xs[k].key.data.toList = true from hq] at hC
        have HCC := Lib.hid (grownW (W := wr) hC)
        generalize xs[k] = p at c0 c1 c2 c3 HCC HN hAt
        clear n1 n2 hc hq hC
        go_wp2_with fail
        refine wp_region_quiet_below (by kernel_rfl) (by kernel_rfl) ?_
        repeat (go_big_quiet_step (with_reducible exact HCC.out _ _))
        refine wpQuiet_nil ?_
        intro w4 hw'
        have hb4 : Below wr.heap.size wr w4 := by
          obtain ⟨⟨dq, osq⟩, hw''⟩ := hw'
          rw [hw'']
          exact below_regrown _ dq osq
        clear hw' c0 c1 c2 c3 r0 r1
        have hB4 := hb.trans (hb4.mono (by omega))
        have HO4 := Lib.hid (own_belowO HO.out hb4)
        have hz4 := hB4.size
        simp at hz4
        obtain ⟨c0, c1, c2, c3⟩ := hAt.out.below hb4 hAt.out.lt
        go_wp2_with (at_builtin; refine wpList_append_pair rfl _ _ rfl (w.heap.size + 1) u5 ((xs.take k).filter (inR f t)) rfl p HO4.out rfl (by omega) (by omega) ?_; intro v1 w5 hown1 hgrow1; have hb2 := below_app hB4 (by omega) hgrow1 (own_ge HO4.out))
        go_roundw
        case rel => exact ⟨k + 1, by omega, by go_num, (by unfold Hid; rw [HN.out]; exact hown1), hb2⟩
        case measure => simp [intOf]; omega
    · obtain rfl : n = k := by omega
      have hown := HO.out
      rw [List.take_of_length_le (by rw [HL.out]; exact Nat.le_refl _)] at hown
      obtain ⟨a1, c1, rfl, hS1⟩ := own_sl hown
      have HS1 := Lib.hid hS1
      clear hown hS1 HO
      go_wp2_with fail
      go_ret
      exact ⟨⟨a1, c1, rfl, HS1.out⟩, below_2 HBox.out (by simpa using hb)⟩

/-! ### Union -/

/-- what Union returns -/
def uniP (xs ys : List P) : List P × Int := if vs (prs xs) && vs (prs ys) then (if (prs ys).any fun p => has (prs xs) p.1 then ([], 8) else (appP xs ys, 0)) else ([], 1)
theorem uniP_prs (xs ys : List P) : prs (uniP xs ys).1 = (uni (prs xs) (prs ys)).1 ∧ (uniP xs ys).2 = (uni (prs xs) (prs ys)).2 := by
  unfold uniP uni
  split
  · split
    · exact ⟨rfl, rfl⟩
    · exact ⟨appP_prs xs ys, rfl⟩
  · exact ⟨rfl, rfl⟩
theorem uniP_no {xs ys : List P} (h : vs (prs xs) = false ∨ vs (prs ys) = false) : uniP xs ys = ([], 1) := by
  unfold uniP
  rcases h with h | h
  · rw [h]; rfl
  · rw [h, Bool.and_false]; rfl
theorem uniP_dup {xs ys : List P} (h : vs (prs xs) = true) (h2 : vs (prs ys) = true) {k : Nat} (hk : k < ys.length) (hh : has (prs xs) ys[k].key.data.toList = true) : uniP xs ys = ([], 8) := by
  unfold uniP
  rw [h, h2, Bool.and_self, if_pos rfl, if_pos (List.any_eq_true.2 ⟨_, mem_prs hk, hh⟩)]
theorem uniP_ok {xs ys : List P} (h : vs (prs xs) = true) (h2 : vs (prs ys) = true) (hh : ∀ k (h : k < ys.length), has (prs xs) ys[k].key.data.toList = false) : uniP xs ys = aplP xs ys := by
  unfold uniP aplP
  rw [h, h2, (vs_iff.1 h2).2, Bool.and_self, if_pos rfl, if_neg]
  · rfl
  · intro hn
    obtain ⟨p, hp, h3⟩ := List.any_eq_true.1 hn
    obtain ⟨k, hk, rfl⟩ := of_prs hp
    rw [show has (prs xs) ys[k].pr.1 = false from hh k hk] at h3
    cases h3
set_option maxHeartbeats 4000000 in
set_option maxRecDepth 100000 in
theorem runion_any (a b : Option Addr) (c d : Nat) (xs ys : List P) (hf : Fits xs) (hg : Fits ys) (w : World) (hA : Prs w a xs) (hB : Prs w b ys) :
    Calls Try.prog 19 #[.slice a xs.length c, .slice b ys.length d] w fun e w' => Gives e w' (uniP xs ys) ∧ Below w.heap.size w w' := by
  have hvs := rvs_all a c xs hf w hA
  have hvw := fun w1 h => rvs_all b d ys hg w1 h
  cases h1 : vs (prs xs)
  · rw [h1] at hvs
    have HR := Lib.hid (uniP_no (ys := ys) (Or.inl h1))
    have HV := Lib.hid hvs
    clear hvs hvw hA hB h1
    go_enter Try.func19, Try.ntmps19
    go_wp2_with fail
    refine HV.out.mono ?_; rintro e w1 ⟨rfl, hb1⟩
    go_wp2_with fail
    go_ret2
    exact ⟨⟨none, 0, by rw [HR.out]; rfl, by rw [HR.out]; exact Sl.empty _⟩, hb1⟩
  · cases h2 : vs (prs ys)
    · rw [h1] at hvs
      rw [h2] at hvw
      have HR := Lib.hid (uniP_no (xs := xs) (Or.inr h2))
      have HV := Lib.hid hvs
      have HW := Lib.hid hvw
      have HB := Lib.hid hB
      clear hvs hvw hA hB h1 h2
      go_enter Try.func19, Try.ntmps19
      go_wp2_with fail
      refine HV.out.mono ?_; rintro e w1 ⟨rfl, hb1⟩
      go_wp2_with fail
      refine (HW.out _ (HB.out.below hb1)).mono ?_; rintro e w2 ⟨rfl, hb2⟩
      go_wp2_with fail
      go_ret2
      exact ⟨⟨none, 0, by rw [HR.out]; rfl, by rw [HR.out]; exact Sl.empty _⟩, below_2 hb1 hb2⟩
    · rw [h1] at hvs
      rw [h2] at hvw
      have HD := Lib.hid (fun (k : Nat) (hk : k < ys.length) => uniP_dup h1 h2 hk)
      have HR := Lib.hid (uniP_ok h1 h2)
      have HV := Lib.hid hvs
      have HW := Lib.hid hvw
      have HB := Lib.hid hB
      have HA := Lib.hid hA
      have HP := Lib.hid (fun w h h2 => rapply_any a b c d xs ys hf hg w h h2)
      have HG := Lib.hid (fun q w h => rhas_any a c xs q hf.len w h)
      have hy := hg.len
      clear hvs hvw hA hB h1 h2 hf hg
      obtain ⟨n, hn⟩ : ∃ n, xs.length = n := ⟨_, rfl⟩
      obtain ⟨m, hm⟩ : ∃ m, ys.length = m := ⟨_, rfl⟩
      have HL := Lib.hid hn
      have HM := Lib.hid hm
      rw [hn] at HV HG HP ⊢
      rw [hm] at HW hy HP ⊢
      clear hn hm
      go_enter Try.func19, Try.ntmps19
      go_wp2_with fail
      refine HV.out.mono ?_; rintro e w1 ⟨rfl, hb1⟩
      go_wp2_with fail
      refine (HW.out _ (HB.out.below hb1)).mono ?_; rintro e w2 ⟨rfl, hb2⟩
      have HB2 := Lib.hid (below_2 hb1 hb2)
      have HPA := Lib.hid (HA.out.below HB2.out)
      have HPB := Lib.hid (HB.out.below HB2.out)
      clear hb1 hb2
      go_wp2
      go_loopw [6] (fun vi wr => ∃ k : Nat, k ≤ m ∧ vi = .int .i64 k ∧ Hid (∀ j (h : j < ys.length), j < k → has (prs xs) ys[j].key.data.toList = false) ∧ Below w2.heap.size w2 wr) (fun vi _ => m - (intOf vi).toNat)
      case atStart => exact ⟨0, Nat.zero_le _, rfl, fun j _ h => absurd h (Nat.not_lt_zero _), Below.refl _ _⟩
      case round =>
        obtain ⟨k, hk, rfl, HK, hb⟩ := hrel
        by_cases hlt : k < m
        · have hly : k < ys.length := by rw [HM.out]; exact hlt
          have HH := Lib.hid (HG.out ys[k].key wr (HPA.out.below hb))
          obtain ⟨b1, o1, rfl, hc⟩ := (HPB.out.below hb).open hly
          obtain ⟨c0, c1, c2, c3⟩ := hc k hly
          cases hq : has (prs xs) ys[k].key.data.toList
          · have HN : Hid (∀ j (h : j < ys.length), j < k + 1 → has (prs xs) ys[j].key.data.toList = false) := by
              intro j h hj
              by_cases e : j = k
              · subst e; exact hq
              · exact HK.out j h (by omega)
            rw [hq] at HH
            generalize ys[k] = p at c0 HH
            clear hc hq c1 c2 c3
            go_wp2_with fail
            refine HH.out.mono ?_; rintro e w3 ⟨rfl, he⟩; obtain rfl : wr = w3 := he.symm
            go_wp2_with fail
            go_roundw
            case rel => exact ⟨k + 1, by omega, by go_num, HN, hb⟩
            case measure => simp [intOf]; omega
          · have HE := Lib.hid (HD.out k hly hq)
            rw [hq] at HH
            generalize ys[k] = p at c0 HH
            clear hc hq c1 c2 c3
            go_wp2_with fail
            refine HH.out.mono ?_; rintro e w3 ⟨rfl, he⟩; obtain rfl : wr = w3 := he.symm
            go_wp2_with fail
            go_ret2
            exact ⟨⟨none, 0, by rw [HE.out]; rfl, by rw [HE.out]; exact Sl.empty _⟩, below_2 HB2.out hb⟩
        · obtain rfl : m = k := by omega
          have HE := Lib.hid (HR.out fun j h => HK.out j h (by rw [← HM.out]; exact h))
          have HQ := Lib.hid (HP.out wr (HPA.out.below hb) (HPB.out.below hb))
          clear HK
          go_wp2_with fail
          refine HQ.out.mono ?_; rintro e w3 ⟨⟨a3, c3, rfl, hS3⟩, hb3⟩
          go_wp2_with fail
          go_ret2
          exact ⟨⟨a3, c3, by rw [HE.out]; rfl, by rw [HE.out]; exact hS3⟩, below_2 HB2.out (below_2 hb hb3)⟩
end Go.Proofs.Ytieloegadhgipaa.S
