/-
  What with returns, of the reference of layer 6: its contract.
-/
import Derived.Test.YtieloegadhgipaaSRows
namespace Go.Proofs.Ytieloegadhgipaa.S
open Go.RowKit
open Go.Proofs.Ytieloegadhgipaa.V (ret_bool ret_int ret_string below_2 below_box below_box2)

/-- a list with one more pair, behind all lesser keys -/
def insP (xs : List P) (p : P) : List P := xs.takeWhile (fun q => decide (q.key.data.toList < p.key.data.toList)) ++ p :: xs.dropWhile (fun q => decide (q.key.data.toList < p.key.data.toList))
theorem insP_prs (xs : List P) (p : P) : prs (insP xs p) = ins (prs xs) p.pr := by
  unfold insP ins prs
  rw [List.map_append, List.map_cons, List.takeWhile_map, List.dropWhile_map]
  rfl
theorem insP_len (xs : List P) (p : P) : (insP xs p).length = xs.length + 1 := by
  unfold insP
  have := congrArg List.length (List.takeWhile_append_dropWhile (p := fun q : P => decide (q.key.data.toList < p.key.data.toList)) (l := xs))
  rw [List.length_append] at this ⊢
  rw [List.length_cons]
  omega
theorem ins_at {xs : List P} {p : P} {k : Nat} (hk : k ≤ xs.length) (h : ∀ j (h : j < xs.length), j < k → xs[j].key.data.toList < p.key.data.toList) (hs : ∀ h : k < xs.length, ¬ xs[k].key.data.toList < p.key.data.toList) :
    insP xs p = xs.take k ++ [p] ++ xs.drop k := by
  have e1 : ∀ (k : Nat) (xs : List P), k ≤ xs.length → (∀ j (h : j < xs.length), j < k → xs[j].key.data.toList < p.key.data.toList) → (∀ h : k < xs.length, ¬ xs[k].key.data.toList < p.key.data.toList) →
      xs.takeWhile (fun q => decide (q.key.data.toList < p.key.data.toList)) = xs.take k ∧ xs.dropWhile (fun q => decide (q.key.data.toList < p.key.data.toList)) = xs.drop k := by
    intro k
    induction k with
    | zero =>
      intro xs _ _ hs
      cases xs with
      | nil => exact ⟨rfl, rfl⟩
      | cons q xs =>
        have := hs (by simp)
        simp only [List.getElem_cons_zero] at this
        rw [List.takeWhile_cons, List.dropWhile_cons, if_neg (by simpa using this), if_neg (by simpa using this)]
        exact ⟨rfl, rfl⟩
    | succ k ih =>
      intro xs hk h hs
      cases xs with
      | nil => simp at hk
      | cons q xs =>
        have h0 := h 0 (by simp) (by omega)
        simp only [List.getElem_cons_zero] at h0
        obtain ⟨g1, g2⟩ := ih xs (by simpa using hk) (fun j hj hjk => by have := h (j + 1) (by simpa using hj) (by omega); simpa using this) (fun hj => by have := hs (by simpa using hj); simpa using this)
        rw [List.takeWhile_cons, List.dropWhile_cons, if_pos (by simpa using h0), if_pos (by simpa using h0), g1, g2]
        exact ⟨rfl, rfl⟩
  obtain ⟨g1, g2⟩ := e1 k xs hk h hs
  unfold insP
  rw [g1, g2]
  simp
theorem slice_to {w : World} {a : Option Addr} {c : Nat} {xs : List P} (h : Sl w a c xs) {k : Nat} (hk : k ≤ xs.length) :
    (∀ W, (Instr.slice 22 (.slice a xs.length c) none (some (.int .i64 (k : Int))) none).run Try.prog W = .ok (.slice a (xs.take k).length c) W) ∧ Sl w a c (xs.take k) := by
  have hlt : (xs.take k).length = k := by rw [List.length_take]; omega
  rw [hlt]
  have hc := h.cap
  refine ⟨fun W => ?_, ⟨by rw [List.length_take]; omega, h.nil, fun h0 => ?_⟩⟩
  · rw [run_slice_h (P := Try.prog) W 22 a xs.length c Try.underlying22 .i64 (k : Int) (by omega) (by omega)]
    by_cases h0 : c = 0
    · go_simp
    · obtain ⟨b, o, rfl, _⟩ := h.pos h0
      go_simp
  · obtain ⟨b, o, e, h1⟩ := h.pos h0
    refine ⟨b, o, e, fun j hj => ?_⟩
    rw [List.length_take] at hj
    rw [List.getElem_take]
    exact h1 j (by omega)
theorem slice_from {w : World} {a : Option Addr} {c : Nat} {xs : List P} (h : Sl w a c xs) {k : Nat} (hk : k ≤ xs.length) :
    ∃ b d, (∀ W, (Instr.slice 22 (.slice a xs.length c) (some (.int .i64 (k : Int))) none none).run Try.prog W = .ok (.slice b (xs.drop k).length d) W) ∧ Sl w b d (xs.drop k) := by
  have hc := h.cap
  by_cases h0 : c = k
  · refine ⟨a, 0, fun W => ?_, ⟨by rw [List.length_drop]; omega, fun _ => rfl, fun h => absurd rfl h⟩⟩
    rw [run_slice_l (P := Try.prog) W 22 a xs.length c Try.underlying22 .i64 (k : Int) (by omega) (by omega)]
    go_simp
  · obtain ⟨b, o, rfl, h1⟩ := h.pos (by omega)
    refine ⟨some ⟨b, o + k * 4, none⟩, c - k, fun W => ?_, ⟨by rw [List.length_drop]; omega, fun h => (by cases h), fun _ => ⟨b, o + k * 4, rfl, fun j hj => ?_⟩⟩⟩
    · rw [run_slice_l (P := Try.prog) W 22 _ xs.length c Try.underlying22 .i64 (k : Int) (by omega) (by omega)]
      go_simp
    · rw [List.length_drop] at hj
      rw [List.getElem_drop]
      have := h1 (k + j) (by omega)
      rw [show o + k * 4 + j * 4 = o + (k + j) * 4 by omega]
      exact this
set_option maxHeartbeats 4000000 in
set_option maxRecDepth 100000 in
theorem rwith_any (a : Option Addr) (c : Nat) (xs : List P) (p : P) (hx : xs.length ≤ 2000000000000) (w : World) (hS : Sl w a c xs) :
    Calls Try.prog 43 #[.slice a xs.length c, .agg #[.string p.key, .int .i64 p.k, .int .i64 p.n, .string p.s]] w fun e w' => ∃ a' c', e = .returned (.slice a' (insP xs p).length c') ∧ Sl w' a' c' (insP xs p) ∧ Below w.heap.size w w' := by
  have hbx := below_box w (.cells #[.string p.key, .int .i64 p.k, .int .i64 p.n, .string p.s] 33)
  have HS := Lib.hid (hS.below hbx)
  have HP : At (w.alloc (.cells #[.string p.key, .int .i64 p.k, .int .i64 p.n, .string p.s] 33)) w.heap.size 0 p := ⟨by go_simp, by go_simp, by go_simp, by go_simp⟩
  have HPP := Lib.hid HP
  have HB := Lib.hid hbx
  clear hS hbx HP
  obtain ⟨n, hn⟩ : ∃ n, xs.length = n := ⟨_, rfl⟩
  have HL := Lib.hid hn
  rw [hn] at hx ⊢
  clear hn
  go_enter Try.func43, Try.ntmps43
  go_wp2
  go_loopw [5] (fun s5 wr => ∃ k : Nat, k ≤ n ∧ s5 = .int .i64 k ∧ Below (w.heap.size + 1) (w.alloc (.cells #[.string p.key, .int .i64 p.k, .int .i64 p.n, .string p.s] 33)) wr ∧ Hid (∀ j (h : j < xs.length), j < k → xs[j].key.data.toList < p.key.data.toList)) (fun s5 _ => n - (intOf s5).toNat)
  case atStart => exact ⟨0, Nat.zero_le _, rfl, Below.refl _ _, fun j _ h => absurd h (Nat.not_lt_zero _)⟩
  case round =>
    obtain ⟨k, hk, rfl, hb, HK⟩ := hrel
    by_cases hgo : ∃ h : k < xs.length, xs[k].key.data.toList < p.key.data.toList
    · obtain ⟨hlx, hless⟩ := hgo
      have hlt : k < n := by rw [← HL.out]; exact hlx
      have HK2 : Hid (∀ j (h : j < xs.length), j < k + 1 → xs[j].key.data.toList < p.key.data.toList) := by
        intro j h hj
        by_cases e : j = k
        · subst e; exact hless
        · exact HK.out j h (by omega)
      obtain ⟨b, o, rfl, hc⟩ := ((HS.out.belowN hb).prs).open hlx
      obtain ⟨c0, c1, c2, c3⟩ := (hc k hlx).grown
      obtain ⟨p0, p1, p2, p3⟩ := (HPP.out.below hb (Nat.lt_succ_self _)).grown
      have bq : Op.bytesLess xs[k].key.toList p.key.toList = true := by rw [K.lss_eq]; exact decide_eq_true hless
      generalize xs[k] = q at c0 bq
      clear hless hc c1 c2 c3 p1 p2 p3
      go_wp2_with fail
      refine wp_region_quiet_below (by kernel_rfl) (by kernel_rfl) ?_
      repeat (go_big_quiet_step (fail))
      refine wpQuiet_nil ?_
      intro w4 hw'
      have hb4 : Below wr.heap.size wr w4 := by
        obtain ⟨⟨dq, osq⟩, hw''⟩ := hw'
        rw [hw'']
        exact below_regrown _ dq osq
      clear hw'
      go_wp2_with fail
      go_roundw
      case rel => exact ⟨k + 1, by omega, by go_num, hb.trans (hb4.mono (by have := hb.size; simp at this; omega)), HK2⟩
      case measure => simp [intOf]; omega
    · by_cases hlx : k < xs.length
      · have hlt : k < n := by rw [← HL.out]; exact hlx
        obtain ⟨b, o, rfl, hc⟩ := ((HS.out.belowN hb).prs).open hlx
        obtain ⟨c0, c1, c2, c3⟩ := (hc k hlx).grown
        obtain ⟨p0, p1, p2, p3⟩ := (HPP.out.below hb (Nat.lt_succ_self _)).grown
        have bq : Op.bytesLess xs[k].key.toList p.key.toList = false := by rw [K.lss_eq]; exact decide_eq_false (fun h => hgo ⟨hlx, h⟩)
        generalize xs[k] = q at c0 bq
        clear hc c1 c2 c3 p1 p2 p3
        have hzr := hb.size
        go_wp2_with fail
        refine wp_region_quiet_below (by kernel_rfl) (by kernel_rfl) ?_
        repeat (go_big_quiet_step (fail))
        refine wpQuiet_nil ?_
        intro w4 hw'
        have hb4 : Below wr.heap.size wr w4 := by
          obtain ⟨⟨dq, osq⟩, hw''⟩ := hw'
          rw [hw'']
          exact below_regrown _ dq osq
        clear hw' c0 p0
        have hsz4 := hb4.size
        have HS4 := Lib.hid ((HS.out.belowN hb).below hb4)
        have HP4 := Lib.hid ((HPP.out.below hb (Nat.lt_succ_self _)).below hb4 (by simp at hzr; omega))
        have HB4 := Lib.hid (hb.trans (hb4.mono (by simp at hzr; omega)))
        obtain ⟨hs1, hT1⟩ := slice_to HS4.out (k := k) (by rw [HL.out]; exact hk)
        obtain ⟨bb, dd, hs2, hT2⟩ := slice_from HS.out (k := k) (by rw [HL.out]; exact hk)
        rw [HL.out] at hs1 hs2
        have HT1 := Lib.hid hT1
        have HT2 := Lib.hid hT2
        have HE := Lib.hid (ins_at (xs := xs) (p := p) (k := k) (by rw [HL.out]; exact hk) (fun j h hj => HK.out j h hj) (fun h h2 => hgo ⟨h, h2⟩))
        have l1 : (xs.take k).length ≤ n := by rw [List.length_take, HL.out]; omega
        have l2 : (xs.drop k).length ≤ n := by rw [List.length_drop, HL.out]; omega
        have l3 : (xs.take k).length + (xs.drop k).length = n := by rw [List.length_take, List.length_drop, HL.out]; omega
        generalize xs.take k = T1 at hs1 HT1 HE l1 hT1 l3
        generalize xs.drop k = T2 at hs2 HT2 HE l2 hT2 l3
        simp at hzr
        clear hT1 hT2 hgo
        go_wp2_with (first
          | (at_builtin; refine wpList_append_pairs rfl _ _ rfl (w.heap.size + 1) (.slice none 0 0) [] rfl (World.ownsRow_nil _ _ _ _) _ _ T1 rfl HT1.out (by simp only [List.length_nil]; omega) (by omega) ?_; intro v1 w5 hown1 hgrow1; have hb5 := below_grown HB4.out (by omega) hgrow1 (fun g hg => by cases hg); have hz5 := hb5.size; obtain ⟨e0, e1, e2, e3⟩ := HPP.out.below hb5 (Nat.lt_succ_self _); simp only [Nat.zero_add] at e0 e1 e2 e3)
          | (at_builtin; refine wpList_append_pair rfl _ _ rfl (w.heap.size + 1) v1 _ rfl p hown1 rfl (by simp only [List.nil_append]; omega) (by simp at hz5; omega) ?_; intro v2 w6 hown2 hgrow2; have hb6 := below_app hb5 (by simp at hz5; omega) hgrow2 (own_ge hown1); have hz6 := hb6.size)
          | (at_builtin; refine wpList_append_pairs rfl _ _ rfl (w.heap.size + 1) v2 _ rfl hown2 _ _ T2 rfl (HT2.out.belowN hb6) (by simp only [List.nil_append, List.length_append, List.length_cons, List.length_nil]; omega) (by simp at hz6; omega) ?_; intro v3 w7 hown3 hgrow3; have hb7 := below_grown hb6 (by simp at hz6; omega) hgrow3 (own_ge hown2)))
        rw [List.nil_append, ← HE.out] at hown3
        obtain ⟨a', c', rfl, hS7⟩ := own_sl hown3
        go_ret
        exact ⟨a', c', rfl, hS7, below_2 HB.out (by simpa using hb7)⟩
      · have hkn : n = k := by rw [← HL.out]; rw [HL.out] at hlx ⊢; omega
        have bk : decide (k < n) = false := decide_eq_false (by omega)
        clear hkn
        have hzr := hb.size
        go_wp2_with fail
        refine wp_region_quiet_below (by kernel_rfl) (by kernel_rfl) ?_
        repeat (go_big_quiet_step (fail))
        refine wpQuiet_nil ?_
        intro w4 hw'
        have hb4 : Below wr.heap.size wr w4 := by
          obtain ⟨⟨dq, osq⟩, hw''⟩ := hw'
          rw [hw'']
          exact below_regrown _ dq osq
        clear hw'
        have hsz4 := hb4.size
        have HS4 := Lib.hid ((HS.out.belowN hb).below hb4)
        have HP4 := Lib.hid ((HPP.out.below hb (Nat.lt_succ_self _)).below hb4 (by simp at hzr; omega))
        have HB4 := Lib.hid (hb.trans (hb4.mono (by simp at hzr; omega)))
        obtain ⟨hs1, hT1⟩ := slice_to HS4.out (k := k) (by rw [HL.out]; exact hk)
        obtain ⟨bb, dd, hs2, hT2⟩ := slice_from HS.out (k := k) (by rw [HL.out]; exact hk)
        rw [HL.out] at hs1 hs2
        have HT1 := Lib.hid hT1
        have HT2 := Lib.hid hT2
        have HE := Lib.hid (ins_at (xs := xs) (p := p) (k := k) (by rw [HL.out]; exact hk) (fun j h hj => HK.out j h hj) (fun h h2 => hgo ⟨h, h2⟩))
        have l1 : (xs.take k).length ≤ n := by rw [List.length_take, HL.out]; omega
        have l2 : (xs.drop k).length ≤ n := by rw [List.length_drop, HL.out]; omega
        have l3 : (xs.take k).length + (xs.drop k).length = n := by rw [List.length_take, List.length_drop, HL.out]; omega
        generalize xs.take k = T1 at hs1 HT1 HE l1 hT1 l3
        generalize xs.drop k = T2 at hs2 HT2 HE l2 hT2 l3
        simp at hzr
        clear hT1 hT2 hgo
        go_wp2_with (first
          | (at_builtin; refine wpList_append_pairs rfl _ _ rfl (w.heap.size + 1) (.slice none 0 0) [] rfl (World.ownsRow_nil _ _ _ _) _ _ T1 rfl HT1.out (by simp only [List.length_nil]; omega) (by omega) ?_; intro v1 w5 hown1 hgrow1; have hb5 := below_grown HB4.out (by omega) hgrow1 (fun g hg => by cases hg); have hz5 := hb5.size; obtain ⟨e0, e1, e2, e3⟩ := HPP.out.below hb5 (Nat.lt_succ_self _); simp only [Nat.zero_add] at e0 e1 e2 e3)
          | (at_builtin; refine wpList_append_pair rfl _ _ rfl (w.heap.size + 1) v1 _ rfl p hown1 rfl (by simp only [List.nil_append]; omega) (by simp at hz5; omega) ?_; intro v2 w6 hown2 hgrow2; have hb6 := below_app hb5 (by simp at hz5; omega) hgrow2 (own_ge hown1); have hz6 := hb6.size)
          | (at_builtin; refine wpList_append_pairs rfl _ _ rfl (w.heap.size + 1) v2 _ rfl hown2 _ _ T2 rfl (HT2.out.belowN hb6) (by simp only [List.nil_append, List.length_append, List.length_cons, List.length_nil]; omega) (by simp at hz6; omega) ?_; intro v3 w7 hown3 hgrow3; have hb7 := below_grown hb6 (by simp at hz6; omega) hgrow3 (own_ge hown2)))
        rw [List.nil_append, ← HE.out] at hown3
        obtain ⟨a', c', rfl, hS7⟩ := own_sl hown3
        go_ret
        exact ⟨a', c', rfl, hS7, below_2 HB.out (by simpa using hb7)⟩
end Go.Proofs.Ytieloegadhgipaa.S
