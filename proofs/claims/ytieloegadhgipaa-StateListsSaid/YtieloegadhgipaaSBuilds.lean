/-
  What the reference of layer 6 returns: Apply: its contract.
-/
import Derived.Test.YtieloegadhgipaaSWith
namespace Go.Proofs.Ytieloegadhgipaa.S
open Go.RowKit
open Go.Proofs.Ytieloegadhgipaa.V (ret_bool ret_int ret_string below_2 below_box below_box2)

def keep (ys : List P) (p : P) : Bool := !has (prs ys) p.key.data.toList
def hasVal (p : P) : Bool := decide (p.k ≠ 0)
def goneP (ys xs : List P) : List P := xs.filter (keep ys)
def foldP (ys zs : List P) : List P := (ys.filter hasVal).foldl insP zs
def appP (xs ys : List P) : List P := foldP ys (goneP ys xs)
theorem foldl_prs (ys : List P) : ∀ zs : List P, prs (ys.foldl insP zs) = (prs ys).foldl ins (prs zs) := by
  induction ys with
  | nil => intro zs; rfl
  | cons p ys ih =>
    intro zs
    rw [List.foldl_cons, ih, insP_prs]
    rfl
theorem filter_prs {f : P → Bool} {g : Pr → Bool} (h : ∀ p, f p = g p.pr) (xs : List P) : prs (xs.filter f) = (prs xs).filter g := by
  unfold prs
  rw [List.filter_map]
  congr 1
  congr 1
  funext p
  exact h p
theorem appP_prs (xs ys : List P) : prs (appP xs ys) = app (prs xs) (prs ys) := by
  unfold appP foldP goneP app puts gone
  rw [foldl_prs, filter_prs (f := hasVal) (g := fun p => decide (p.2.k ≠ 0)) (fun p => rfl), filter_prs (f := keep ys) (g := fun p => !has (prs ys) p.1) (fun p => rfl)]
theorem goneP_next {ys xs : List P} {k : Nat} (h : k < xs.length) : (keep ys xs[k] = true → goneP ys (xs.take (k + 1)) = goneP ys (xs.take k) ++ [xs[k]]) ∧ (keep ys xs[k] = false → goneP ys (xs.take (k + 1)) = goneP ys (xs.take k)) := by
  unfold goneP
  rw [List.take_succ_eq_append_getElem h, List.filter_append]
  constructor
  · intro hk; rw [List.filter_cons, if_pos hk]; rfl
  · intro hk; rw [List.filter_cons, if_neg (by rw [hk]; decide)]; simp
theorem foldP_next {ys zs : List P} {k : Nat} (h : k < ys.length) : (ys[k].k ≠ 0 → foldP (ys.take (k + 1)) zs = insP (foldP (ys.take k) zs) ys[k]) ∧ (ys[k].k = 0 → foldP (ys.take (k + 1)) zs = foldP (ys.take k) zs) := by
  unfold foldP
  rw [List.take_succ_eq_append_getElem h, List.filter_append, List.foldl_append]
  constructor
  · intro hk
    rw [List.filter_cons, if_pos (by unfold hasVal; exact decide_eq_true hk)]; rfl
  · intro hk
    rw [List.filter_cons, if_neg (by unfold hasVal; simp [hk])]; rfl
theorem fold_len : ∀ (ys zs : List P), (ys.foldl insP zs).length = zs.length + ys.length := by
  intro ys
  induction ys with
  | nil => intro zs; rfl
  | cons p ys ih => intro zs; rw [List.foldl_cons, ih, insP_len, List.length_cons]; omega
theorem foldP_len (ys zs : List P) : (foldP ys zs).length ≤ zs.length + ys.length := by
  unfold foldP
  rw [fold_len]
  have := List.length_filter_le hasVal ys
  omega
theorem goneP_len (ys xs : List P) (k : Nat) : (goneP ys (xs.take k)).length ≤ xs.length := by
  unfold goneP
  have h1 := List.length_filter_le (keep ys) (xs.take k)
  have h2 : (xs.take k).length ≤ xs.length := by rw [List.length_take]; omega
  omega
/-- what Apply returns -/
def aplP (xs ys : List P) : List P × Int := if vs (prs xs) && vw (prs ys) then (appP xs ys, 0) else ([], 1)
theorem aplP_prs (xs ys : List P) : prs (aplP xs ys).1 = (apl (prs xs) (prs ys)).1 ∧ (aplP xs ys).2 = (apl (prs xs) (prs ys)).2 := by
  unfold aplP apl
  split
  · exact ⟨appP_prs xs ys, rfl⟩
  · exact ⟨rfl, rfl⟩
theorem aplP_ok {xs ys : List P} (h : vs (prs xs) = true) (h2 : vw (prs ys) = true) : aplP xs ys = (appP xs ys, 0) := by unfold aplP; rw [h, h2]; rfl
theorem aplP_no {xs ys : List P} (h : vs (prs xs) = false ∨ vw (prs ys) = false) : aplP xs ys = ([], 1) := by
  unfold aplP
  rcases h with h | h
  · rw [h]; rfl
  · rw [h, Bool.and_false]; rfl
/-- a list and an error, returned -/
def Gives (e : Ending) (w' : World) (r : List P × Int) : Prop := ∃ a c, e = .returned (.tuple #[.slice a r.1.length c, .int .i64 r.2]) ∧ Sl w' a c r.1
set_option maxHeartbeats 4000000 in
set_option maxRecDepth 100000 in
theorem rapply_any (a b : Option Addr) (c d : Nat) (xs ys : List P) (hf : Fits xs) (hg : Fits ys) (w : World) (hA : Prs w a xs) (hB : Prs w b ys) :
    Calls Try.prog 17 #[.slice a xs.length c, .slice b ys.length d] w fun e w' => Gives e w' (aplP xs ys) ∧ Below w.heap.size w w' := by
  have hvs := rvs_all a c xs hf w hA
  have hvw := fun w1 h => rvw_any b d ys hg w1 h
  cases h1 : vs (prs xs)
  · rw [h1] at hvs
    have HR := Lib.hid (aplP_no (ys := ys) (Or.inl h1))
    have HV := Lib.hid hvs
    clear hvs hvw hA hB h1
    go_enter Try.func17, Try.ntmps17
    go_wp2_with fail
    refine HV.out.mono ?_; rintro e w1 ⟨rfl, hb1⟩
    go_wp2_with fail
    go_ret2
    exact ⟨⟨none, 0, by rw [HR.out]; rfl, by rw [HR.out]; exact Sl.empty _⟩, hb1⟩
  · cases h2 : vw (prs ys)
    · rw [h1] at hvs
      rw [h2] at hvw
      have HR := Lib.hid (aplP_no (xs := xs) (Or.inr h2))
      have HV := Lib.hid hvs
      have HW := Lib.hid hvw
      have HB := Lib.hid hB
      clear hvs hvw hA hB h1 h2
      go_enter Try.func17, Try.ntmps17
      go_wp2_with fail
      refine HV.out.mono ?_; rintro e w1 ⟨rfl, hb1⟩
      go_wp2_with fail
      refine (HW.out _ (HB.out.below hb1)).mono ?_; rintro e w2 ⟨rfl, hb2⟩
      go_wp2_with fail
      go_ret2
      exact ⟨⟨none, 0, by rw [HR.out]; rfl, by rw [HR.out]; exact Sl.empty _⟩, below_2 hb1 hb2⟩
    · rw [h1] at hvs
      rw [h2] at hvw
      have HR := Lib.hid (aplP_ok h1 h2)
      have HV := Lib.hid hvs
      have HW := Lib.hid hvw
      have HB := Lib.hid hB
      have HA := Lib.hid hA
      have HF := Lib.hid hf
      have HG := Lib.hid hg
      have hx := hf.len
      have hy := hg.len
      clear hvs hvw hA hB h1 h2 hf hg
      obtain ⟨n, hn⟩ : ∃ n, xs.length = n := ⟨_, rfl⟩
      obtain ⟨m, hm⟩ : ∃ m, ys.length = m := ⟨_, rfl⟩
      have HL := Lib.hid hn
      have HM := Lib.hid hm
      rw [hn] at HV hx ⊢
      rw [hm] at HW hy ⊢
      clear hn hm
      go_enter Try.func17, Try.ntmps17
      go_wp2_with fail
      refine HV.out.mono ?_; rintro e w1 ⟨rfl, hb1⟩
      go_wp2_with fail
      refine (HW.out _ (HB.out.below hb1)).mono ?_; rintro e w2 ⟨rfl, hb2⟩
      have HB2 := Lib.hid (below_2 hb1 hb2)
      have HPA := Lib.hid (HA.out.below HB2.out)
      have HPB := Lib.hid (HB.out.below HB2.out)
      clear hb1 hb2
      go_wp2
      go_loopw [6, 7] (fun vo vi wr => ∃ k : Nat, k ≤ n ∧ vi = .int .i64 k ∧ Hid (wr.ownsRow w2.heap.size 33 4 vo (goneP ys (xs.take k)).length (pc (goneP ys (xs.take k)))) ∧ Below w2.heap.size w2 wr) (fun _ vi _ => n - (intOf vi).toNat)
      case atStart => exact ⟨0, Nat.zero_le _, rfl, World.ownsRow_nil _ _ _ _, Below.refl _ _⟩
      case round =>
        obtain ⟨k, hk, rfl, HO, hb⟩ := hrel
        by_cases hlt : k < n
        · have hlx : k < xs.length := by rw [HL.out]; exact hlt
          have HH := Lib.hid (rhas_any b d ys xs[k].key (by rw [HM.out]; omega) wr (HPB.out.below hb))
          rw [HM.out] at HH
          obtain ⟨b1, o1, rfl, hc⟩ := (HPA.out.below hb).open hlx
          obtain ⟨c0, c1, c2, c3⟩ := hc k hlx
          have hl := goneP_len ys xs k
          rw [HL.out] at hl
          have hzr := hb.size
          obtain ⟨n1, n2⟩ := goneP_next (ys := ys) hlx
          cases hq : has (prs ys) xs[k].key.data.toList
          · have HN := Lib.hid (n1 (by unfold keep; rw [hq]; rfl))
            rw [hq] at HH
            generalize xs[k] = p at c0 c1 c2 c3 HH HN
            clear n1 n2 hc hq
            go_wp2_with fail
            refine HH.out.mono ?_; rintro e w3 ⟨rfl, he⟩; obtain rfl : wr = w3 := he.symm
            go_wp2_with (at_builtin; refine wpList_append_pair rfl _ _ rfl w2.heap.size u6 (goneP ys (xs.take k)) rfl p HO.out rfl (by omega) (by omega) ?_; intro v1 w4 hown1 hgrow1; have hb2 := below_app hb (by omega) hgrow1 (own_ge HO.out))
            go_roundw
            case rel => exact ⟨k + 1, by omega, by go_num, (by unfold Hid; rw [HN.out]; exact hown1), hb2⟩
            case measure => simp [intOf]; omega
          · have HN := Lib.hid (n2 (by unfold keep; rw [hq]; rfl))
            rw [hq] at HH
            generalize xs[k] = p at c0 c1 c2 c3 HH
            clear n1 n2 hc hq
            go_wp2_with fail
            refine HH.out.mono ?_; rintro e w3 ⟨rfl, he⟩; obtain rfl : wr = w3 := he.symm
            go_wp2_with fail
            go_roundw
            case rel => exact ⟨k + 1, by omega, by go_num, (by unfold Hid; rw [HN.out]; exact HO.out), hb⟩
            case measure => simp [intOf]; omega
        · obtain rfl : n = k := by omega
          have hown := HO.out
          rw [List.take_of_length_le (by rw [HL.out]; exact Nat.le_refl _)] at hown
          obtain ⟨a1, c1, rfl, hS1⟩ := own_sl hown
          have HS1 := Lib.hid hS1
          have hl1 := goneP_len ys xs xs.length
          rw [List.take_length, HL.out] at hl1
          have HRR : Hid (appP xs ys = foldP ys (goneP ys xs)) := rfl
          generalize goneP ys xs = zs at HS1 hl1 HRR
          have HBr := Lib.hid hb
          have HPBr := Lib.hid (HPB.out.below hb)
          clear hown hS1 HO hb
          obtain ⟨w5, e5⟩ : ∃ w5, w5 = wr := ⟨_, rfl⟩
          subst e5
          go_wp2_with fail
          go_loopw [6, 8] (fun vo vi wr => ∃ (k : Nat) (a2 : Option Addr) (c2 : Nat), k ≤ m ∧ vi = .int .i64 k ∧ vo = .slice a2 (foldP (ys.take k) zs).length c2 ∧ Hid (Sl wr a2 c2 (foldP (ys.take k) zs)) ∧ Below w5.heap.size w5 wr) (fun _ vi _ => m - (intOf vi).toNat)
          case atStart => exact ⟨0, a1, c1, Nat.zero_le _, rfl, rfl, HS1.out, Below.refl _ _⟩
          case round =>
            obtain ⟨k, a2, c2, hk, rfl, rfl, HS2, hb⟩ := hrel
            have hzr := hb.size
            by_cases hlt : k < m
            · have hly : k < ys.length := by rw [HM.out]; exact hlt
              obtain ⟨b1, o1, rfl, hc⟩ := (HPBr.out.below hb).open hly
              obtain ⟨d0, d1, d2, d3⟩ := hc k hly
              have hl2 := foldP_len (ys.take k) zs
              have hl3 : (ys.take k).length ≤ m := by rw [List.length_take, HM.out]; omega
              obtain ⟨n1, n2⟩ := foldP_next (zs := zs) hly
              by_cases hz : ys[k].k = 0
              · have HN := Lib.hid (n2 hz)
                have bz : (ys[k].k != 0) = false := by rw [hz]; rfl
                generalize ys[k] = p at d0 d1 d2 d3 bz
                clear n1 n2 hc hz
                go_wp2_with fail
                go_roundw
                case rel => exact ⟨k + 1, a2, c2, by omega, by go_num, by rw [HN.out], (by unfold Hid; rw [HN.out]; exact HS2.out), hb⟩
                case measure => simp [intOf]; omega
              · have HN := Lib.hid (n1 hz)
                have bz : (ys[k].k != 0) = true := bne_iff_ne.2 hz
                have HI := Lib.hid (rwith_any a2 c2 (foldP (ys.take k) zs) ys[k] (by omega) wr HS2.out)
                generalize ys[k] = p at d0 d1 d2 d3 bz HN HI
                clear n1 n2 hc hz
                go_wp2_with fail
                refine HI.out.mono ?_; rintro e w4 ⟨a3, c3, rfl, hS3, hb4⟩
                go_wp2_with fail
                go_roundw
                case rel => exact ⟨k + 1, a3, c3, by omega, by go_num, by rw [HN.out], (by unfold Hid; rw [HN.out]; exact hS3), below_2 hb hb4⟩
                case measure => simp [intOf]; omega
            · obtain rfl : m = k := by omega
              have hS3 := HS2.out
              rw [List.take_of_length_le (by rw [HM.out]; exact Nat.le_refl _)] at hS3 ⊢
              rw [← HRR.out] at hS3 ⊢
              have HS3 := Lib.hid hS3
              clear hS3 HS2
              go_wp2_with fail
              go_ret2
              exact ⟨⟨a2, c2, by rw [HR.out]; rfl, by rw [HR.out]; exact HS3.out⟩, below_2 HB2.out (below_2 HBr.out hb)⟩
end Go.Proofs.Ytieloegadhgipaa.S
