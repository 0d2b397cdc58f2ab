/-
  Plain mathematics of layer 10, without the program: printed procedures, one after the other, are read as what was printed.
  What the reference's Same returns on a list and itself: contracts.
  The law ParserProgramRoundTrips, walked over whatever the program's own functions return.
-/
import Derived.Test.YteglaeopaocilaaGreatDoorM31
import Derived.Test.YteglaeopaocilaaGreatDoorM17
import Derived.Deep.RegionWith
import Derived.Test.YteglaeopaocilaaGreatDoorM19
import Derived.Test.YteglaeopaocilaaGreatDoorM15
namespace Go.Proofs.YteglaeopaocilaaGreatDoor.P
open L (Str Tok)
open A

/-- the tokens of procedures -/
def tkL : List Pr → List Tok
  | [] => []
  | p :: r => tkP p ++ tkL r
theorem txLs_lx : ∀ l : List Pr, (∀ p ∈ l, WP p) → P.Lx (10 :: txLs l) (tkL l) [10]
  | [], _ => by rw [txLs, tkL]; exact .nil _
  | p :: r, h => by
    have h1 := txP_lx (h p (List.mem_cons_self ..)) (txLs r)
    have h2 := txLs_lx r fun q hq => h q (List.mem_cons_of_mem _ hq)
    rw [txLs, tkL]
    have h3 : P.Lx (10 :: 10 :: (txP p ++ txLs r)) (tkP p) (10 :: txLs r) := by
      have h4 : ∃ k m, tkP p = k :: m := ⟨_, _, rfl⟩
      obtain ⟨k, m, e⟩ := h4
      rw [e] at h1 ⊢
      exact h1.lf.lf
    exact h3.app h2
theorem txL_lx : ∀ l : List Pr, (∀ p ∈ l, WP p) → ∃ r, P.Lx (txL l) (tkL l) r ∧ L.skp false r = []
  | [], _ => ⟨[], by rw [txL, tkL]; exact .nil _, rfl⟩
  | p :: r, h => by
    refine ⟨[10], ?_, by decide⟩
    rw [txL, tkL]
    exact (txP_lx (h p (List.mem_cons_self ..)) (txLs r)).app (txLs_lx r fun q hq => h q (List.mem_cons_of_mem _ hq))
theorem gP_zr {ts rest : T} {p : Pr} (w : WP p) (h : zl ts = zl (tkP p ++ rest)) : ∃ r, gP ts = .ok p r ∧ zl r = zl rest := by
  obtain ⟨F, hF⟩ := rdP w rest
  obtain ⟨G, hG⟩ := gP_is ts
  have e1 := hG (F + G) (by omega)
  have e2 := hF (F + G) (by omega)
  have e3 : (pP (F + G) ts).z = .ok p (zl rest) := by rw [← pp_z, h, pp_z, e2]; rfl
  rw [e1] at e3
  revert e3
  cases gP ts with
  | no r x => intro e3; cases e3
  | ok b r =>
    intro e3
    have e4 : R.ok b (zl r) = R.ok p (zl rest) := e3
    injection e4 with e5 e6
    exact ⟨r, by rw [e5], e6⟩
theorem gR_zr : ∀ (l acc : List Pr) (ts : T), (∀ p ∈ l, WP p) → zl ts = zl (tkL l) → gR acc ts = .ok (acc ++ l) []
  | [], acc, ts, _, h => by
    have : ts = [] := by
      cases ts with
      | nil => rfl
      | cons t r => cases h
    rw [this, gR_step, if_neg (by decide), List.append_nil]
  | p :: r, acc, ts, hw, h => by
    rw [tkL] at h
    have hk : isW ts kProc = true := by
      rw [← isW_z, h, isW_z]
      rfl
    obtain ⟨r2, h1, h2⟩ := gP_zr (hw p (List.mem_cons_self ..)) h
    rw [gR_step, if_pos hk, h1]
    show gR (acc ++ [p]) r2 = _
    rw [gR_zr r (acc ++ [p]) r2 (fun q hq => hw q (List.mem_cons_of_mem _ hq)) h2, List.append_assoc]
    rfl
theorem prgF_good : ∀ (l : List Pr) (pre : List ByteArray), (∀ p ∈ l, valE p = 0) → (∀ p ∈ l, ∀ x ∈ pre, x ≠ p.name) → l.Pairwise (fun p q => p.name ≠ q.name) → prgF pre l = 0
  | [], _, _, _, _ => rfl
  | p :: r, pre, hv, hn, hd => by
    rw [prgF, if_neg (by rw [hv p (List.mem_cons_self ..)]; simp), if_neg]
    · refine prgF_good r _ (fun q hq => hv q (List.mem_cons_of_mem _ hq)) (fun q hq x hx => ?_) (List.pairwise_cons.1 hd).2
      rcases List.mem_append.1 hx with hx | hx
      · exact hn q (List.mem_cons_of_mem _ hq) x hx
      · rw [List.mem_singleton.1 hx]
        exact (List.pairwise_cons.1 hd).1 q hq
    · rw [List.any_eq_true]
      rintro ⟨x, hx, he⟩
      exact hn p (List.mem_cons_self ..) x hx (of_decide_eq_true he)
theorem prgE_good {l : List Pr} (hl : l.length ≤ 16) (hv : ∀ p ∈ l, valE p = 0) (hd : l.Pairwise (fun p q => p.name ≠ q.name)) : prgE l = 0 := by
  unfold prgE
  rw [if_neg (by omega)]
  exact prgF_good l [] hv (fun _ _ x hx => by cases hx) hd
theorem out_prog {l : List Pr} (hw : ∀ p ∈ l, WP p) (hv : ∀ p ∈ l, valE p = 0) (hd : l.Pairwise (fun p q => p.name ≠ q.name)) (h16 : l.length ≤ 16) {s : ByteArray} (hs : s.data.toList = txL l) (hl : s.size ≤ 16384) : outOf s (gR []) prgE = .ok l := by
  obtain ⟨r, h1, h2⟩ := txL_lx l hw
  exact out_lx (l := tkL l) (r := r) (hs ▸ h1) h2 hl (fun ts hz => gR_zr l [] ts hw hz) (prgE_good h16 hv hd)
end Go.Proofs.YteglaeopaocilaaGreatDoor.P
namespace Go.Proofs.YteglaeopaocilaaGreatDoor.P
open Go.RowKit
open L (Str Tok Tks toks At below_2 below_box ret_bool ret_int ret_string)
open A

theorem eqP_same (p : Pr) : eqP p p = true := (eqP_iff p p).2 rfl
set_option maxHeartbeats 4000000 in
set_option maxRecDepth 100000 in
theorem rsame_any (l : List Pr) (a b : Option Addr) (c d : Nat) (hl : l.length ≤ 1000000000000000) (hok : ∀ p ∈ l, OkP p) (w : World) (hA : Prs w a l) (hB : Prs w b l) :
    Calls Tryz.prog 24 #[.slice a l.length c, .slice b l.length d] w fun e' w' => e' = .returned (.bool true) ∧ Below w.heap.size w w' := by
  have HA := Lib.hid hA
  have HB0 := Lib.hid hB
  have HOK := Lib.hid hok
  obtain ⟨m, hm⟩ : ∃ m, l.length = m := ⟨_, rfl⟩
  have HL := Lib.hid hm
  rw [hm] at hl ⊢
  clear hm hA hB hok
  go_enter Tryz.func24, Tryz.ntmps24
  go_wp2_with fail
  go_loopw [5] (fun v wr => ∃ k : Nat, k ≤ m ∧ v = .int .i64 k ∧ Hid (Below w.heap.size w wr)) (fun v _ => m - (intOf v).toNat)
  case atStart => exact ⟨0, Nat.zero_le _, rfl, Below.refl _ _⟩
  case round =>
    obtain ⟨k, hk, rfl, HB⟩ := hrel
    by_cases hlt : k < m
    · have hlx : k < l.length := by rw [HL.out]; exact hlt
      obtain ⟨b3, i3, rfl, a1, c1, a2, c2, f0, f1, f2, hpc, hpi⟩ := (HA.out.below HB.out).open hlx
      obtain ⟨b4, i4, rfl, e1, d1, e2, d2, g0, g1, g2, hqc, hqi⟩ := (HB0.out.below HB.out).open hlx
      have HCF : Hid (∀ w2, Below wr.heap.size wr w2 → Calls Tryz.prog 21 #[prV l[k] a1 c1 a2 c2, prV l[k] e1 d1 e2 d2] w2 fun e' w' => e' = .returned (.bool true) ∧ Below w2.heap.size w2 w') := fun w2 hb => by
        have hC := requal_any l[k] l[k] a1 a2 e1 e2 c1 c2 d1 d2 (HOK.out _ (List.getElem_mem hlx)) (HOK.out _ (List.getElem_mem hlx)) w2 (hpi.below hb) (hqi.below hb)
        rwa [eqP_same] at hC
      unfold prV at HCF
      generalize l[k] = q at *
      clear hpc hpi hqc hqi
      go_wp2_with fail
      go_region_with (go_at_call 21; refine (HCF.out _ (Below.refl _ _).drew).mono ?_; rintro e w2 ⟨rfl, hb2⟩)
      all_goals
        have HB2 := Lib.hid (below_2 HB.out.drew hb2)
        clear hb2
        go_wp2_with fail
        go_roundw
        case rel => exact ⟨k + 1, by omega, by go_num, HB2⟩
        case measure => simp [intOf]; omega
    · go_wp2_with fail
      go_ret
      exact ⟨rfl, HB.out⟩
end Go.Proofs.YteglaeopaocilaaGreatDoor.P
namespace Go.Proofs.YteglaeopaocilaaGreatDoor.P
open Go.RowKit
open L (Str Tok Tks toks At below_2 below_box ret_bool ret_int ret_string)
open A

/-- what stands while a law about procedures is walked -/
structure Cr (w0 : World) (l : List Pr) (a : Option Addr) (w : World) : Prop where
  below : Below w0.heap.size w0 w
  tab : P.TabT w
  otab : OTab w
  inn : Prs w a l
theorem Cr.on {w0 : World} {l : List Pr} {a : Option Addr} {w w' : World} (h : Cr w0 l a w) (hb : Below w.heap.size w w') : Cr w0 l a w' :=
  ⟨below_2 h.below hb, h.tab.below hb, h.otab.below hb, h.inn.below hb⟩
set_option maxHeartbeats 16000000 in
set_option maxRecDepth 100000 in
theorem lawProgramRoundTrips_any (l : List Pr) (a : Option Addr) (c : Nat) (hok : ∀ j (h : j < l.length), OkP l[j]) (w : World) (h1 : P.TabT w) (h2 : OTab w) (h3 : Prs w a l) :
    Calls Tryz.prog 8 #[.slice a l.length c] w fun e' w' => e' = .returned (.bool true) ∧ Below w.heap.size w w' := by
  have HC0 : Hid (Cr w l a w) := ⟨Below.refl _ _, h1, h2, h3⟩
  have lives : Hid (∀ wr, Cr w l a wr → Calls Tryz.prog 11 #[] wr fun e w' => e = .returned (.bool true) ∧ Below w.heap.size w w') := fun wr h => (olives10_any wr h.otab).mono fun _ _ hq => ⟨hq.1, (h.on hq.2).below⟩
  have HOK := Lib.hid hok
  obtain ⟨m, hm⟩ : ∃ m, l.length = m := ⟨_, rfl⟩
  have HL := Lib.hid hm
  rw [hm]
  clear h1 h2 h3 hok hm
  by_cases h4 : 4 < m
  · have hd : decide (4 < (m : Int)) = true := decide_eq_true (by omega)
    go_enter Tryz.func8, Tryz.ntmps8
    go_wp2_with fail
    refine (lives.out _ HC0.out).mono ?_; rintro e2 w2 ⟨rfl, hb⟩
    have HE := Lib.hid hb
    clear hb
    go_wp2_with fail
    go_ret
    exact ⟨rfl, HE.out⟩
  have hd : decide (4 < (m : Int)) = false := decide_eq_false (by omega)
  go_enter Tryz.func8, Tryz.ntmps8
  go_wp2_with fail
  go_loopw [3] (fun v wr => ∃ k : Nat, k ≤ m ∧ v = .int .i64 k ∧ Hid ((∀ j (h : j < l.length), j < k → valE l[j] = 0) ∧ ∀ i j (hi : i < l.length) (hj : j < l.length), i < j → j < k → l[i].name ≠ l[j].name) ∧ Hid (Cr w l a wr)) (fun v _ => m - (intOf v).toNat)
  case atStart => exact ⟨0, Nat.zero_le _, rfl, ⟨fun _ _ h => absurd h (Nat.not_lt_zero _), fun _ _ _ _ _ h => absurd h (Nat.not_lt_zero _)⟩, HC0⟩
  case round =>
    obtain ⟨k, hk, rfl, HG, HC⟩ := hrel
    by_cases hlt : k < m
    · have hlx : k < l.length := by rw [HL.out]; exact hlt
      obtain ⟨b3, i3, rfl, a1, c1, a2, c2, f0, f1, f2, hpc, hpi⟩ := HC.out.inn.open hlx
      have HS := Lib.hid (rsmall_any l[k] a1 c1 a2 c2 60 (by decide) (HOK.out k hlx) wr hpi)
      have HV : Hid (∀ w2, Below wr.heap.size wr w2 → Calls Tryz.prog 13 #[prV l[k] a1 c1 a2 c2] w2 fun e' w' => e' = .returned (.int .i64 (valE l[k])) ∧ Below w2.heap.size w2 w') := fun w2 hb => ovalidate_any l[k] a1 a2 c1 c2 (HOK.out k hlx) hpc w2 (hpi.below hb)
      unfold prV at HS HV
      clear hpc hpi
      obtain ⟨q, hq⟩ : ∃ q, l[k] = q := ⟨_, rfl⟩
      rw [hq] at HS HV f0 f1 f2
      generalize small q 60 = sm at *
      go_wp2_with fail
      refine HS.out.mono ?_; rintro e w2 ⟨rfl, hb2⟩
      have HC2 := Lib.hid (HC.out.on hb2)
      have HV2 := Lib.hid (HV.out w2 hb2)
      have f0 := (hb2.cell (block_lt_of_cell f0)).trans f0
      have f1 := (hb2.cell (block_lt_of_cell f1)).trans f1
      have f2 := (hb2.cell (block_lt_of_cell f2)).trans f2
      clear hb2 HS HV
      cases sm
      · go_wp2_with fail
        refine (lives.out _ HC2.out).mono ?_; rintro e9 w9 ⟨rfl, hb9⟩
        have HE := Lib.hid hb9
        clear hb9
        go_wp2_with fail
        go_ret
        exact ⟨rfl, HE.out⟩
      go_wp2_with fail
      refine HV2.out.mono ?_; rintro e w3 ⟨rfl, hb3⟩
      have HC3 := Lib.hid (HC2.out.on hb3)
      clear hb3 HV2
      by_cases hv : valE q ≠ 0
      · generalize valE q = v at *
        go_wp2_with fail
        refine (lives.out _ HC3.out).mono ?_; rintro e9 w9 ⟨rfl, hb9⟩
        have HE := Lib.hid hb9
        clear hb9
        go_wp2_with fail
        go_ret
        exact ⟨rfl, HE.out⟩
      have hv : valE q = 0 := Decidable.not_not.1 hv
      rw [hv]
      go_wp2_with fail
      go_loopw [4] (fun v wr2 => ∃ j : Nat, j ≤ k ∧ v = .int .i64 j ∧ Hid (∀ i (hi : i < l.length), i < j → l[i].name ≠ q.name) ∧ Hid (Cr w l (some ⟨b3, i3, none⟩) wr2)) (fun v _ => k - (intOf v).toNat)
      case atStart => exact ⟨0, Nat.zero_le _, rfl, fun _ _ h => absurd h (Nat.not_lt_zero _), HC3⟩
      case round =>
        obtain ⟨j, hj, rfl, HN, HC4⟩ := hrel
        by_cases hjk : j < k
        · have hjx : j < l.length := by omega
          obtain ⟨b4, i4, hbb, e1, d1, e2, d2, g0, g1, g2, _, _⟩ := HC4.out.inn.open hjx
          cases hbb
          obtain ⟨b5, i5, hbb, e3, d3, e4, d4, k0, k1, k2, _, _⟩ := HC4.out.inn.open hlx
          cases hbb
          rw [hq] at k0 k1 k2
          obtain ⟨q2, hq2⟩ : ∃ q2, l[j] = q2 := ⟨_, rfl⟩
          rw [hq2] at g0 g1 g2
          have hbd := bytes_dec q2.name q.name
          obtain ⟨bb, hbe⟩ : ∃ bb, decide (q2.name = q.name) = bb := ⟨_, rfl⟩
          rw [hbe] at hbd
          have HC5 := Lib.hid (HC4.out.on (Below.refl _ _).drew)
          cases bb
          · have HN2 : Hid (∀ i (hi : i < l.length), i < j + 1 → l[i].name ≠ q.name) := fun i hi h => by
              by_cases hij : i < j
              · exact HN.out i hi hij
              · obtain rfl : i = j := by omega
                rw [hq2]
                exact of_decide_eq_false hbe
            clear hbe
            go_wp2_with fail
            go_region
            all_goals
              go_wp2_with fail
              go_roundw
              case rel => exact ⟨j + 1, by omega, by go_num, HN2, HC5⟩
              case measure => simp [intOf]; omega
          · clear hbe
            go_wp2_with fail
            go_region
            all_goals
              go_wp2_with fail
              refine (lives.out _ HC5.out).mono ?_; rintro e9 w9 ⟨rfl, hb9⟩
              have HE := Lib.hid hb9
              clear hb9
              go_wp2_with fail
              go_ret
              exact ⟨rfl, HE.out⟩
        · have HG2 : Hid ((∀ j (h : j < l.length), j < k + 1 → valE l[j] = 0) ∧ ∀ i j (hi : i < l.length) (hj : j < l.length), i < j → j < k + 1 → l[i].name ≠ l[j].name) := by
            refine ⟨fun n hn h => ?_, fun i n hi hn h1 h2 => ?_⟩
            · by_cases hnk : n < k
              · exact HG.out.1 n hn hnk
              · obtain rfl : n = k := by omega
                rw [hq]; exact hv
            · by_cases hnk : n < k
              · exact HG.out.2 i n hi hn h1 hnk
              · obtain rfl : n = k := by omega
                rw [hq]
                exact HN.out i hi (by omega)
          go_wp2_with fail
          refine ⟨⟨k + 1, by omega, by go_num, HG2, HC4⟩, ?_⟩
          simp [intOf]; omega
    · have hkm : k = m := by omega
      have hv0 : ∀ p ∈ l, valE p = 0 := fun p hp => by
        obtain ⟨n, hn, rfl⟩ := List.getElem_of_mem hp
        exact HG.out.1 n hn (by have := HL.out; omega)
      have hpw : l.Pairwise (fun p q => p.name ≠ q.name) := List.pairwise_iff_getElem.2 fun i n hi hn h => HG.out.2 i n hi hn h (by have := HL.out; omega)
      have HP := Lib.hid (oprogram_any l a c ⟨by have := HL.out; omega, HOK.out⟩ wr HC.out.tab HC.out.inn)
      rw [progT_good hv0, HL.out] at HP
      have HX : Hid (∀ s : ByteArray, s = ba (txL l) → s.size ≤ 16384 → ∀ w2, Cr w l a w2 → Calls Tryz.prog 22 #[.string s] w2 fun e' w' => Below w2.heap.size w2 w' ∧ GaveR w2.heap.size (.ok l) e' w') := fun s hs hl w2 h => by
        have := oProgram_any s w2 h.otab
        rwa [out_prog (fun p hp => by obtain ⟨n, hn, rfl⟩ := List.getElem_of_mem hp; exact wp_here (HOK.out n hn) (hv0 _ hp)) hv0 hpw (by have := HL.out; omega) (by rw [hs]; rfl) hl] at this
      have hokm : ∀ p ∈ l, OkP p := fun p hp => by obtain ⟨n, hn, rfl⟩ := List.getElem_of_mem hp; exact HOK.out n hn
      have HSM : Hid (∀ w2 b d, Cr w l a w2 → Prs w2 b l → Calls Tryz.prog 24 #[.slice a m c, .slice b m d] w2 fun e' w' => e' = .returned (.bool true) ∧ Below w2.heap.size w2 w') := fun w2 b d h hb => by
        have := rsame_any l a b c d (by have := HL.out; omega) hokm w2 h.inn hb
        rwa [HL.out] at this
      obtain ⟨s, hs⟩ : ∃ s, ba (txL l) = s := ⟨_, rfl⟩
      rw [hs] at HP
      clear hv0 hpw hokm
      go_wp2_with fail
      refine HP.out.mono ?_; rintro e w2 ⟨rfl, hb⟩
      have HC2 := Lib.hid (HC.out.on hb)
      clear hb HP
      by_cases hl : 16384 < s.size
      · have hd2 : decide (16384 < (s.size : Int)) = true := decide_eq_true (by omega)
        clear hs
        go_wp2_with fail
        refine (lives.out _ HC2.out).mono ?_; rintro e9 w9 ⟨rfl, hb9⟩
        have HE := Lib.hid hb9
        clear hb9
        go_wp2_with fail
        go_ret
        exact ⟨rfl, HE.out⟩
      have hd2 : decide (16384 < (s.size : Int)) = false := decide_eq_false (by omega)
      have HCa := Lib.hid (HX.out s hs.symm (by omega) w2 HC2.out)
      clear hs
      go_wp2_with fail
      refine HCa.out.mono ?_; rintro e3 w4 ⟨hb, a5, c5, rfl, hc5, hK5⟩
      have HC4 := Lib.hid (HC2.out.on hb)
      have HI4 := Lib.hid hK5.now
      rw [HL.out]
      clear hb hK5 hc5 HCa
      go_wp2_with fail
      refine (HSM.out _ a5 c5 HC4.out HI4.out).mono ?_; rintro e4 w5 ⟨rfl, hb⟩
      have HC5 := Lib.hid (HC4.out.on hb)
      clear hb
      go_wp2_with fail
      refine (lives.out _ HC5.out).mono ?_; rintro e9 w9 ⟨rfl, hb9⟩
      have HE := Lib.hid hb9
      clear hb9
      go_wp2_with fail
      go_ret
      exact ⟨rfl, HE.out⟩
end Go.Proofs.YteglaeopaocilaaGreatDoor.P
