/-
  What the reference of layer 7 returns: token: its contract.
-/
import Derived.Test.YtaimmcibdepejaaDoorLRefsD
namespace Go.Proofs.YtaimmcibdepejaaDoor.L
open Go.RowKit

/-- a token read, where it ends, the error -/
def GivesK (e : Ending) (s : ByteArray) (r : Tok × Str × Int) : Prop :=
  ∃ E : Int, e = .returned (.tuple #[.agg #[.int .i64 r.1.k, .string ⟨r.1.t.toArray⟩, .int .i64 r.1.n, .int .i64 r.1.line], .int .i64 E, .int .i64 r.2.2]) ∧ (r.2.2 = 0 → E = ((s.size - r.2.1.length : Nat) : Int))
theorem tok_lit {s : ByteArray} {k : Nat} (h : k < s.size) (hq : s[k].toNat = 34) : tok (s.data.toList.drop k) = (⟨4, (litr [] (s.data.toList.drop (k + 1))).1, 0, 0⟩, (litr [] (s.data.toList.drop (k + 1))).2.1, (litr [] (s.data.toList.drop (k + 1))).2.2) := by
  rw [drop_get s k h]; unfold tok; simp only; rw [if_pos hq]
theorem slice_word (s : ByteArray) (k : Nat) (hk : k ≤ s.size) : ∃ d : ByteArray, d.data.toList = (s.data.toList.drop k).takeWhile part ∧ d.size = wl s k ∧ ∀ W, (Instr.slice 9 (.string s) (some (.int .i64 (k : Int))) (some (.int .i64 ((k : Int) + (wl s k : Int)))) none).run Tryd.prog W = .ok (.string d) W := by
  have hle := wl_le hk
  have e : (s.data.toList.drop k).take (wl s k) = (s.data.toList.drop k).takeWhile part := by
    have h := List.takeWhile_append_dropWhile (p := part) (l := s.data.toList.drop k)
    have h2 : ((s.data.toList.drop k).takeWhile part ++ (s.data.toList.drop k).dropWhile part).take (wl s k) = (s.data.toList.drop k).takeWhile part := List.take_left
    rwa [h] at h2
  refine ⟨s.extract k (k + wl s k), ?_, ?_, fun W => ?_⟩
  · simp only [ByteArray.data_extract, Array.toList_extract, List.extract_eq_take_drop]
    rw [show k + wl s k - k = wl s k from by omega, e]
  · rw [ByteArray.size_extract]; omega
  · have := run_slice_string (P := Tryd.prog) W 9 s .i64 .i64 (k : Int) ((k : Int) + (wl s k : Int)) Tryd.underlying9 (by omega) (by omega) (by omega)
    rw [this]
    rfl
theorem tok_w {s d : ByteArray} {k : Nat} (h : k < s.size) (h1 : ¬ s[k].toNat = 34) (h2 : part s[k] = true) (hd : d.data.toList = (s.data.toList.drop k).takeWhile part) :
    tok (s.data.toList.drop k) = ((word d.data.toList).1, (s.data.toList.drop k).dropWhile part, (word d.data.toList).2) := by
  rw [hd, drop_get s k h, tok_word h1 h2]
theorem drop_wl (s : ByteArray) (k : Nat) (hk : k ≤ s.size) : s.size - ((s.data.toList.drop k).dropWhile part).length = k + wl s k := by
  have h := congrArg List.length (List.takeWhile_append_dropWhile (p := part) (l := s.data.toList.drop k))
  rw [List.length_append, List.length_drop, ← size_len] at h
  unfold wl
  omega

/-! ### marks -/

theorem mk_len : mkB.length = 20 := rfl
theorem mk_get {j : Nat} (h : j < mkB.length) : mkB[j].data.toList = marks[j]'(by rw [mk_len] at h; exact h) := by
  have e := List.getElem_map (fun l : Str => (⟨l.toArray⟩ : ByteArray)) (l := marks) (i := j) (h := h)
  exact congrArg (fun b : ByteArray => b.data.toList) e
theorem mk_size {j : Nat} (h : j < mkB.length) : 1 ≤ mkB[j].size ∧ mkB[j].size ≤ 2 := by
  have := marks_all _ (List.getElem_mem (l := marks) (by rw [mk_len] at h; exact h))
  rw [size_len, mk_get h]
  omega
/-- whether mark j begins at k -/
def fits (s : ByteArray) (k j : Nat) : Prop := ∃ h : j < mkB.length, mkB[j].data.toList <+: s.data.toList.drop k
theorem mark_hit {s : ByteArray} {k j : Nat} (h : j < mkB.length) (hf : fits s k j) (hn : ∀ i, i < j → ¬ fits s k i) : mark (s.data.toList.drop k) = some mkB[j].data.toList := by
  obtain ⟨_, hp⟩ := hf
  unfold mark
  rw [List.find?_eq_some_iff_getElem]
  refine ⟨List.isPrefixOf_iff_prefix.2 hp, j, by rw [mk_len] at h; exact h, (mk_get h).symm, fun i hi => ?_⟩
  have hi2 : i < mkB.length := by omega
  have := hn i hi
  rw [Bool.not_eq_true']
  cases hb : List.isPrefixOf (marks[i]'(by rw [mk_len] at hi2; exact hi2)) (s.data.toList.drop k)
  · rfl
  · exact absurd ⟨hi2, by rw [mk_get hi2]; exact List.isPrefixOf_iff_prefix.1 hb⟩ this
theorem mark_miss {s : ByteArray} {k : Nat} (hn : ∀ i, i < 20 → ¬ fits s k i) : mark (s.data.toList.drop k) = none := by
  unfold mark
  rw [List.find?_eq_none]
  intro m hm hb
  obtain ⟨i, hi, rfl⟩ := List.mem_iff_getElem.1 hm
  have hi2 : i < mkB.length := hi
  exact hn i hi ⟨hi2, by rw [mk_get hi2]; exact List.isPrefixOf_iff_prefix.1 hb⟩
theorem fits_cut {s : ByteArray} {k j : Nat} (h : j < mkB.length) (hle : k + mkB[j].size ≤ s.size) :
    ∃ d : ByteArray, (d.toList == mkB[j].toList) = decide (mkB[j].data.toList <+: s.data.toList.drop k) ∧ ∀ W, (Instr.slice 9 (.string s) (some (.int .i64 (k : Int))) (some (.int .i64 ((k : Int) + (mkB[j].size : Int)))) none).run Tryd.prog W = .ok (.string d) W := by
  refine ⟨s.extract k (k + mkB[j].size), ?_, fun W => ?_⟩
  · rw [eql_eq]
    have e : (s.extract k (k + mkB[j].size)).data.toList = (s.data.toList.drop k).take mkB[j].data.toList.length := by
      simp only [ByteArray.data_extract, Array.toList_extract, List.extract_eq_take_drop]
      rw [show k + mkB[j].size - k = mkB[j].size from by omega, size_len]
    rw [e]
    refine Bool.eq_iff_iff.2 ?_
    rw [decide_eq_true_iff, decide_eq_true_iff, List.prefix_iff_eq_take]
    exact ⟨fun h => h.symm, fun h => h.symm⟩
  · have := run_slice_string (P := Tryd.prog) W 9 s .i64 .i64 (k : Int) ((k : Int) + (mkB[j].size : Int)) Tryd.underlying9 (by omega) (by omega) (by omega)
    rw [this]
    rfl
theorem fits_long {s : ByteArray} {k j : Nat} (h : j < mkB.length) (hle : ¬ k + mkB[j].size ≤ s.size) (hk : k ≤ s.size) : ¬ fits s k j := by
  rintro ⟨_, hp⟩
  have := hp.length_le
  rw [List.length_drop, ← size_len, ← size_len] at this
  omega
theorem tok_m {s : ByteArray} {k : Nat} (h : k < s.size) (h1 : ¬ s[k].toNat = 34) (h2 : part s[k] = false) : tok (s.data.toList.drop k) = match mark (s.data.toList.drop k) with
    | some m => (⟨5, m, 0, 0⟩, (s.data.toList.drop k).drop m.length, 0)
    | none => (noTok, [], 5) := by
  rw [drop_get s k h]; unfold tok; simp only; rw [if_neg h1, if_neg (by rw [h2]; decide)]; rfl
set_option maxHeartbeats 4000000 in
set_option maxRecDepth 100000 in
theorem rtoken_any (s : ByteArray) (hs : s.size ≤ 1000000) (k : Nat) (hk : k < s.size) (w : World) :
    Calls Tryd.prog 40 #[.string s, .int .i64 (k : Int)] w fun e w' => GivesK e s (tok (s.data.toList.drop k)) ∧ Below w.heap.size w w' := by
  have HM := Lib.hid (MineT.zero w)
  have HW := Lib.hid (fun x => below_box w (.cells x 31))
  by_cases h34 : s[k].toNat = 34
  · have HL := Lib.hid (literal_any s (by omega) k hk)
    rw [tok_lit hk h34]
    have b1 : ((s[k].toNat : Int) == 34) = true := beq_iff_eq.2 (by omega)
    generalize litr [] (s.data.toList.drop (k + 1)) = r at HL ⊢
    obtain ⟨r1, r2, r3⟩ := r
    clear h34
    go_enter Tryd.func40, Tryd.ntmps40
    go_wp2_with fail
    refine (HL.out _).mono ?_; rintro e w1 ⟨⟨E, rfl, hE⟩, rfl⟩
    simp only at hE
    have HE := Lib.hid hE
    clear hE
    simp only
    go_wp2_with fail
    refine bodyPost_ret (v := .tuple #[.agg #[.int .i64 4, .string ⟨r1.toArray⟩, .int .i64 0, .int .i64 0], .int .i64 E, .int .i64 r3]) (by simp [results, Tryd.results40, go_sem]) rfl ⟨⟨E, rfl, HE.out⟩, HW.out _⟩
  · have b1 : ((s[k].toNat : Int) == 34) = false := beq_eq_false_iff_ne.2 (by omega)
    have hp := part_any s[k]
    cases hpt : part s[k]
    · rw [hpt] at hp
      have HP := Lib.hid hp
      have HT := Lib.hid (tok_m hk h34 hpt)
      have HMk := Lib.hid marks_any
      clear hp hpt h34
      go_enter Tryd.func40, Tryd.ntmps40
      go_wp2_with fail
      refine (HP.out _).mono ?_; rintro e w1 ⟨rfl, rfl⟩
      go_wp2_with fail
      refine (HMk.out _).mono ?_; rintro e w2 ⟨rfl, rfl⟩
      have hst := Strs.new (w.alloc (.cells #[.int .i64 0, .string ⟨#[]⟩, .int .i64 0, .int .i64 0] 31)) mkB
      rw [show (w.alloc (.cells #[.int .i64 0, .string ⟨#[]⟩, .int .i64 0, .int .i64 0] 31)).heap.size = w.heap.size + 1 from by simp] at hst
      have HS := Lib.hid hst
      have HM2 := Lib.hid (HM.out.below (below_box _ (blk mkB)) HM.out.lt)
      have HB2 := Lib.hid (below_2 (HW.out #[.int .i64 0, .string ⟨#[]⟩, .int .i64 0, .int .i64 0]) (below_box _ (blk mkB)))
      have hsz2 : ((w.alloc (.cells #[.int .i64 0, .string ⟨#[]⟩, .int .i64 0, .int .i64 0] 31)).alloc (blk mkB)).heap.size = w.heap.size + 2 := by simp
      have HSz := Lib.hid hsz2
      generalize (w.alloc (.cells #[.int .i64 0, .string ⟨#[]⟩, .int .i64 0, .int .i64 0] 31)).alloc (blk mkB) = w5 at HS HM2 HB2 HSz ⊢
      clear hst hsz2
      go_wp2_with fail
      go_loopw [14] (fun s14 wr => ∃ i : Nat, i ≤ 20 ∧ s14 = .int .i64 i ∧ Below w5.heap.size w5 wr ∧ Hid (∀ j, j < i → ¬ fits s k j)) (fun s14 _ => 20 - (intOf s14).toNat)
      case atStart => exact ⟨0, Nat.zero_le _, rfl, Below.refl _ _, fun j h => absurd h (Nat.not_lt_zero _)⟩
      case round =>
        obtain ⟨i, hi, rfl, hb, HK⟩ := hrel
        by_cases hlt : i < 20
        · have him : i < mkB.length := hlt
          have c0 := (HS.out.below hb (by rw [HSz.out]; omega)) i him
          have hc := fun d os => cell_regrown c0 d os
          obtain ⟨z1, z2⟩ := mk_size him
          by_cases hle : k + mkB[i].size ≤ s.size
          · obtain ⟨d, hd, hsl⟩ := fits_cut (s := s) (k := k) him hle
            have bl : decide ((k : Int) + (mkB[i].size : Int) ≤ (s.size : Int)) = true := decide_eq_true (by omega)
            by_cases hf : mkB[i].data.toList <+: s.data.toList.drop k
            · have HV := Lib.hid (mark_hit him ⟨him, hf⟩ HK.out)
              rw [decide_eq_true hf] at hd
              have hlen : mkB[i].data.toList.length = mkB[i].size := (size_len _).symm
              have HLen := Lib.hid hlen
              generalize mkB[i] = m at c0 hc z1 z2 hle hd hsl bl HV HLen
              clear hf hlen c0
              have HC := Lib.hid hc
              go_wp2_with fail
              refine wp_region_quiet_below (by kernel_rfl) (by kernel_rfl) ?_
              repeat (go_big_quiet_step (fail))
              refine wpQuiet_nil ?_
              intro w6 hw'
              have hb6 : Below wr.heap.size wr w6 := by
                obtain ⟨⟨dq, osq⟩, hw''⟩ := hw'
                rw [hw'']
                exact below_regrown _ dq osq
              have c6 : w6.cell? ⟨w.heap.size + 1, i, none⟩ = some (.string m) := by
                obtain ⟨⟨dq, osq⟩, hw''⟩ := hw'
                rw [hw'']
                exact HC.out dq osq
              clear hw' hc
              obtain ⟨⟨p, d0, d1, d2, d3⟩, g0, g1, g2, g3⟩ := (HM2.out.below hb HM2.out.lt).below hb6 (by have := hb.size; have := HM2.out.lt; omega)
              simp only [Nat.zero_add] at d0 d1 d2 d3
              have HB6 := Lib.hid (below_2 (below_2 HB2.out hb) hb6)
              go_wp2_with fail
              go_region
              go_wp2_with fail
              have hst := storedT (w := w6) (b := w.heap.size) (p := p) ⟨d0, d1, d2, d3⟩ ⟨5, m, 0, 0⟩
              obtain ⟨q0, q1, q2, q3⟩ := hst.below (below_drew _) hst.lt
              simp only [Nat.zero_add] at q0 q1 q2 q3
              refine bodyPost_ret (v := .tuple #[.agg #[.int .i64 5, .string m, .int .i64 0, .int .i64 0], .int .i64 ((k : Int) + (m.size : Int)), .int .i64 0]) (by simp [results, Tryd.results40, go_sem, q0, q1, q2, q3]) rfl ⟨⟨(k : Int) + (m.size : Int), ?_, fun _ => ?_⟩, Below.drew (storedT_below HB6.out (Nat.le_refl _) (.int .i64 5) (.string m) (.int .i64 0) (.int .i64 0))⟩
              · rw [HT.out, HV.out]
              · rw [HT.out, HV.out]
                show (k : Int) + (m.size : Int) = ((s.size - ((s.data.toList.drop k).drop m.data.toList.length).length : Nat) : Int)
                rw [List.length_drop, List.length_drop, ← size_len, ← size_len]
                omega
            · have HN : Hid (∀ j, j < i + 1 → ¬ fits s k j) := by
                intro j hj
                by_cases e : j = i
                · subst e; rintro ⟨_, h2⟩; exact hf h2
                · exact HK.out j (by omega)
              rw [decide_eq_false hf] at hd
              generalize mkB[i] = m at c0 hc z1 z2 hle hd hsl bl
              clear hf c0
              go_wp2_with fail
              refine wp_region_quiet_below (by kernel_rfl) (by kernel_rfl) ?_
              repeat (go_big_quiet_step (fail))
              refine wpQuiet_nil ?_
              intro w6 hw'
              have hb6 : Below wr.heap.size wr w6 := by
                obtain ⟨⟨dq, osq⟩, hw''⟩ := hw'
                rw [hw'']
                exact below_regrown _ dq osq
              clear hw' hc
              go_wp2_with fail
              go_roundw
              case rel => exact ⟨i + 1, by omega, by go_num, below_2 hb hb6, HN⟩
              case measure => simp [intOf]; omega
          · have HN : Hid (∀ j, j < i + 1 → ¬ fits s k j) := by
              intro j hj
              by_cases e : j = i
              · subst e; exact fits_long him hle (by omega)
              · exact HK.out j (by omega)
            have bl : decide ((k : Int) + (mkB[i].size : Int) ≤ (s.size : Int)) = false := decide_eq_false (by omega)
            generalize mkB[i] = m at c0 hc z1 z2 hle bl
            clear c0
            go_wp2_with fail
            refine wp_region_quiet_below (by kernel_rfl) (by kernel_rfl) ?_
            repeat (go_big_quiet_step (fail))
            refine wpQuiet_nil ?_
            intro w6 hw'
            have hb6 : Below wr.heap.size wr w6 := by
              obtain ⟨⟨dq, osq⟩, hw''⟩ := hw'
              rw [hw'']
              exact below_regrown _ dq osq
            clear hw' hc
            go_wp2_with fail
            go_roundw
            case rel => exact ⟨i + 1, by omega, by go_num, below_2 hb hb6, HN⟩
            case measure => simp [intOf]; omega
        · obtain rfl : i = 20 := by omega
          have HV := Lib.hid (mark_miss HK.out)
          obtain ⟨⟨p, d0, d1, d2, d3⟩, g0, g1, g2, g3⟩ := HM2.out.below hb HM2.out.lt
          simp only [Nat.zero_add] at d0 d1 d2 d3
          have HBE := Lib.hid (below_2 HB2.out hb)
          go_wp2_with fail
          obtain ⟨q0, q1, q2, q3⟩ := storedT (w := wr) (b := w.heap.size) (p := p) ⟨d0, d1, d2, d3⟩ ⟨0, ⟨#[]⟩, 0, 0⟩
          simp only [Nat.zero_add] at q0 q1 q2 q3
          refine bodyPost_ret (v := .tuple #[.agg #[.int .i64 0, .string ⟨#[]⟩, .int .i64 0, .int .i64 0], .int .i64 (k : Int), .int .i64 5]) (by simp [results, Tryd.results40, go_sem, q0, q1, q2, q3]) rfl ⟨⟨k, ?_, ?_⟩, storedT_below HBE.out (Nat.le_refl _) _ _ _ _⟩
          · rw [HT.out, HV.out]; rfl
          · rw [HT.out, HV.out]; intro h; simp at h
    · rw [hpt] at hp
      have HP := Lib.hid hp
      obtain ⟨d, hd, hd2, hsl⟩ := slice_word s k (by omega)
      have hwd := word_any s (by omega) k (by omega)
      simp only [Int.natCast_add] at hwd
      have HWd := Lib.hid hwd
      have hpos : 0 < wl s k := by rw [wl_go hk hpt]; omega
      have hle := wl_le (s := s) (k := k) (by omega)
      have HR := Lib.hid (rword_any d (by omega) (by omega))
      have HT := Lib.hid (tok_w hk h34 hpt hd)
      have HD := Lib.hid (drop_wl s k (by omega))
      rw [HT.out]
      generalize (s.data.toList.drop k).dropWhile part = rest at HD ⊢
      generalize word d.data.toList = r at HR ⊢
      obtain ⟨⟨rk, rt, rn, rl⟩, re⟩ := r
      simp only [pairW] at HR
      generalize wl s k = L at HWd hsl hle hpos HD
      clear hp hpt h34 hd hd2 hwd HT
      go_enter Tryd.func40, Tryd.ntmps40
      go_wp2_with fail
      refine (HP.out _).mono ?_; rintro e w1 ⟨rfl, rfl⟩
      go_wp2_with fail
      refine (HWd.out _).mono ?_; rintro e w1 ⟨rfl, rfl⟩
      go_wp2_with fail
      refine (HR.out _).mono ?_; rintro e w2 ⟨rfl, hb2⟩
      have hm2 := HM.out.below hb2 (by simp)
      have hm3 := hm2.below (below_box w2 (.cells #[.int .i64 rk, .string ⟨rt.toArray⟩, .int .i64 rn, .int .i64 rl] 31)) hm2.lt
      obtain ⟨⟨p, d0, d1, d2, d3⟩, g0, g1, g2, g3⟩ := hm3
      simp only [Nat.zero_add] at d0 d1 d2 d3
      have HB := Lib.hid (below_2 (below_2 (HW.out #[.int .i64 0, .string ⟨#[]⟩, .int .i64 0, .int .i64 0]) hb2) (below_box w2 (.cells #[.int .i64 rk, .string ⟨rt.toArray⟩, .int .i64 rn, .int .i64 rl] 31)))
      clear hm2
      go_wp2_with fail
      obtain ⟨q0, q1, q2, q3⟩ := storedT (w := w2.alloc (.cells #[.int .i64 rk, .string ⟨rt.toArray⟩, .int .i64 rn, .int .i64 rl] 31)) (b := w.heap.size) (p := p) ⟨d0, d1, d2, d3⟩ ⟨rk, ⟨rt.toArray⟩, rn, rl⟩
      simp only [Nat.zero_add] at q0 q1 q2 q3
      refine bodyPost_ret (v := .tuple #[.agg #[.int .i64 rk, .string ⟨rt.toArray⟩, .int .i64 rn, .int .i64 rl], .int .i64 ((k : Int) + (L : Int)), .int .i64 re]) (by simp [results, Tryd.results40, go_sem, q0, q1, q2, q3]) rfl ⟨⟨_, rfl, fun _ => ?_⟩, storedT_below HB.out (Nat.le_refl _) _ _ _ _⟩
      show (k : Int) + (L : Int) = ((s.size - rest.length : Nat) : Int)
      rw [HD.out]; omega
end Go.Proofs.YtaimmcibdepejaaDoor.L
