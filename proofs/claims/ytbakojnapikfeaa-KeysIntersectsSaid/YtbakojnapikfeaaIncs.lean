/-
  What Prefix returns, of the program and of the reference: contracts, one a function.
-/
import Derived.Test.YtbakojnapikfeaaNews
import Derived.RegionTactic
import Derived.BigRegion
import Derived.Laws.IdiomStrings
namespace Go.Proofs.Ytbakojnapikfeaa
open Go.RowKit

/-- p with its last byte increased by one -/
def binc (p : ByteArray) : ByteArray := ⟨(inc p.data.toList).toArray⟩
theorem binc_list (p : ByteArray) : (binc p).data.toList = inc p.data.toList := rfl
theorem inc_length {l : List UInt8} (h : l ≠ []) : (inc l).length = l.length := by
  obtain ⟨a, c, rfl⟩ := snoc_of l h
  rw [inc_snoc]
  simp
theorem binc_size {p : ByteArray} (h : p.data.toList ≠ []) : (binc p).size = p.size := by
  rw [size_len, size_len, binc_list, inc_length h]
/-- what Prefix returns -/
def incV (p : ByteArray) : Value :=
  if valid p.data.toList then .tuple #[.agg #[.string p, .string (binc p)], .int .i64 0]
  else .tuple #[.agg #[.string ⟨#[]⟩, .string ⟨#[]⟩], .int .i64 (if p.data.toList = [] then 0 else 1)]
theorem incV_none {p : ByteArray} (h : p.data.toList = []) : incV p = .tuple #[.agg #[.string ⟨#[]⟩, .string ⟨#[]⟩], .int .i64 0] := by
  unfold incV; rw [if_pos h, h]; rfl
theorem incV_no {p : ByteArray} (h : p.data.toList ≠ []) (hv : valid p.data.toList = false) : incV p = .tuple #[.agg #[.string ⟨#[]⟩, .string ⟨#[]⟩], .int .i64 1] := by
  unfold incV; rw [if_neg h, hv]; rfl
theorem incV_yes {p : ByteArray} (hv : valid p.data.toList = true) : incV p = .tuple #[.agg #[.string p, .string (binc p)], .int .i64 0] := by
  unfold incV; rw [hv]; rfl
/-- the last byte of a key -/
theorem last_byte {p : ByteArray} (hv : valid p.data.toList = true) : ∃ (n : Nat) (c : UInt8), p.size = n + 1 ∧ n < 24 ∧ c.toNat ≤ 122 ∧ (∀ h : n < p.size, p[n] = c) ∧ inc p.data.toList = p.data.toList.take n ++ [c + 1] ∧ (c + 1).toNat = c.toNat + 1 ∧ p.data.toList.getD n 0 = c := by
  have hne := valid_ne hv
  obtain ⟨a, c, he⟩ := snoc_of p.data.toList hne
  have hl : p.size = a.length + 1 := by rw [size_len, he]; simp
  unfold valid at hv
  rw [Bool.and_eq_true, decide_eq_true_iff, List.all_eq_true] at hv
  have hc := key_byte (hv.2 c (by rw [he]; simp))
  have hg : p.data.toList.getD a.length 0 = c := by rw [he]; simp [List.getD_eq_getElem?_getD]
  refine ⟨a.length, c, hl, ?_, hc.2, ?_, ?_, succ_nat (by omega), hg⟩
  · have := hv.1.2; rw [← size_len] at this; omega
  · intro h
    have e : p[a.length] = p.data.toList[a.length]'(by rw [← size_len]; exact h) := rfl
    rw [e]
    rw [List.getD_eq_getElem?_getD, List.getElem?_eq_getElem (by rw [← size_len]; exact h)] at hg
    exact hg
  · rw [he, inc_snoc]
    simp
theorem row_cell (p : ByteArray) (cap j : Nat) (h : j < p.size) : (bytesRow p cap)[j]? = some (.int .u8 ((p.data.toList.getD j 0).toNat : Int)) := by
  have hj : j < p.data.size := h
  unfold bytesRow
  rw [Array.getElem?_append_left (by simpa using hj)]
  simp [List.getD_eq_getElem?_getD, Array.getElem?_eq_getElem hj]
theorem row_size (p : ByteArray) (cap : Nat) : p.size ≤ (bytesRow p cap).size := by
  unfold bytesRow
  simp
/-- '[]byte(p)', its last byte increased, and back: behind names. -/
theorem inc_runs (p : ByteArray) (n : Nat) (c : UInt8) (hn : p.size = n + 1) (hi : inc p.data.toList = p.data.toList.take n ++ [c + 1]) (hc : (c + 1).toNat = c.toNat + 1) (hg : p.data.toList.getD n 0 = c) (w : World) :
    ∃ (C : Array Value) (cap : Nat),
      (convert 9 46 (.string p)).run Try.prog w = .ok (.slice (some ⟨w.heap.size, 0, none⟩) p.size cap) (w.drew.alloc (.cells C 5 (C.size, C.size + 1))) ∧
      (w.alloc (.cells C 5 (C.size, C.size + 1))).cell? ⟨w.heap.size, n, none⟩ = some (.int .u8 (c.toNat : Int)) ∧
      (w.alloc (.cells C 5 (C.size, C.size + 1))).frozen? ⟨w.heap.size, n, none⟩ = false ∧
      (convert 46 9 (.slice (some ⟨w.heap.size, 0, none⟩) (n + 1) cap)).run Try.prog ((w.alloc (.cells C 5 (C.size, C.size + 1))).setCell ⟨w.heap.size, n, none⟩ (.int .u8 ((c.toNat : Int) + 1))).drew =
        .ok (.string (binc p)) ((w.alloc (.cells C 5 (C.size, C.size + 1))).setCell ⟨w.heap.size, n, none⟩ (.int .u8 ((c.toNat : Int) + 1))).drew := by
  have hr := run_bytes_of_string (P := Try.prog) w 9 46 5 p Try.underlying9 Try.underlying46 Try.underlying5
  have hcell := fun j (hj : j < p.size) => row_cell p (grownCap w p.size 0 5) j hj
  have hsz := row_size p (grownCap w p.size 0 5)
  generalize bytesRow p (grownCap w p.size 0 5) = C at hr hcell hsz
  generalize grownCap w p.size 0 5 = cap at hr
  have hc0 : ∀ j, j < p.size → (w.alloc (.cells C 5 (C.size, C.size + 1))).cell? ⟨w.heap.size, j, none⟩ = some (.int .u8 ((p.data.toList.getD j 0).toNat : Int)) := fun j hj => by
    rw [World.cell?_alloc_mark]; exact hcell j hj
  refine ⟨C, cap, hr, ?_, ?_, ?_⟩
  · rw [hc0 n (by omega), hg]
  · rw [World.frozen?_alloc_mark, decide_eq_false (show ¬ C.size ≤ n by omega)]; rfl
  · have hne : p.data.toList ≠ [] := by
      intro e
      have := size_len p
      rw [e] at this
      exact absurd (hn.symm.trans this) (by simp)
    have hil := inc_length hne
    rw [← size_len] at hil
    have hb := run_convert_bytes_back (P := Try.prog) ((w.alloc (.cells C 5 (C.size, C.size + 1))).setCell ⟨w.heap.size, n, none⟩ (.int .u8 ((c.toNat : Int) + 1))).drew 46 9 5 ⟨w.heap.size, 0, none⟩ cap (inc p.data.toList) Try.underlying46 Try.underlying5 Try.underlying9 ?_
    · rw [hil, hn] at hb
      exact hb
    · intro j hj
      rw [hil] at hj
      have e : (⟨w.heap.size, 0, none⟩ : Addr).add j = ⟨w.heap.size, j, none⟩ := by unfold Addr.add; simp; exact fun h => h.symm
      rw [e]
      show ((w.alloc (.cells C 5 (C.size, C.size + 1))).setCell ⟨w.heap.size, n, none⟩ (.int .u8 ((c.toNat : Int) + 1))).cell? ⟨w.heap.size, j, none⟩ = _
      by_cases hjn : j = n
      · subst hjn
        rw [World.cell?_setCell_same _ _ _ (hc0 j (by omega))]
        have : (inc p.data.toList)[j]'(by rw [hil]; exact hj) = c + 1 := by
          simp only [hi]
          rw [List.getElem_append_right (by simp; omega)]
          simp
        rw [this, hc]
        rfl
      · rw [World.cell?_setCell_other _ _ _ _ (by intro h; exact hjn (by injection h with _ h2 _; exact h2.symm)), hc0 j hj]
        have : (inc p.data.toList)[j]'(by rw [hil]; exact hj) = p.data.toList.getD j 0 := by
          simp only [hi]
          have hlt : j < p.data.toList.length := by rw [← size_len]; exact hj
          rw [List.getElem_append_left (by simp; have := size_len p; simp at this; omega), List.getElem_take]
          rw [List.getD_eq_getElem?_getD, List.getElem?_eq_getElem hlt]
          rfl
        rw [this]
set_option maxHeartbeats 1000000 in
set_option maxRecDepth 100000 in
theorem prefix_any (p : ByteArray) (hp : p.size ≤ 281474976710656) (w : World) :
    Calls Try.prog 24 #[.string p] w fun e w' => e = .returned (incV p) ∧ Below w.heap.size w w' := by
  have H1 := Lib.hid (valid_any p (by omega))
  have HM := Lib.hid (Mine.new w ⟨#[]⟩ ⟨#[]⟩)
  have HW := Lib.hid (below_box w ⟨#[]⟩ ⟨#[]⟩)
  by_cases hn : p.data.toList = []
  · have he : p.toList.isEmpty = true := by rw [empty_iff]; exact decide_eq_true hn
    have HV := Lib.hid (incV_none hn)
    clear hn
    go_enter Try.func24, Try.ntmps24
    go_wp2_with fail
    refine bodyPost_ret (v := .tuple #[.agg #[.string ⟨#[]⟩, .string ⟨#[]⟩], .int .i64 0]) (by simp [results, Try.results24, go_sem]) rfl ⟨?_, HW.out⟩
    rw [HV.out]
  · have he : p.toList.isEmpty = false := by rw [empty_iff]; exact decide_eq_false hn
    cases hv : valid p.data.toList
    · have HV := Lib.hid (incV_no hn hv)
      rw [hv] at H1
      clear hn hv
      go_enter Try.func24, Try.ntmps24
      go_wp2_with fail
      refine (H1.out _).mono ?_; rintro e w1 ⟨rfl, hb1⟩
      obtain ⟨⟨x, y, c0, c1⟩, d0, d1⟩ := HM.out.below hb1 (by simp)
      go_wp2_with fail
      obtain ⟨q0, q1⟩ := stored c0 c1 ⟨#[]⟩ ⟨#[]⟩
      refine bodyPost_ret (v := .tuple #[.agg #[.string ⟨#[]⟩, .string ⟨#[]⟩], .int .i64 1]) (by simp [results, Try.results24, go_sem, q0, q1]) rfl ⟨?_, ((below_2 HW.out hb1).setCell (by simp) _).setCell (by simp) _⟩
      rw [HV.out]
    · have HV := Lib.hid (incV_yes hv)
      rw [hv] at H1
      obtain ⟨n, c, hsz, hn24, hc, hpn, hi, hcs, hg⟩ := last_byte hv
      have HX := Lib.hid (inc_runs p n c hsz hi hcs hg)
      have H2 := Lib.hid (newRange_any p (binc p) hp (by rw [binc_size hn]; exact hp))
      generalize binc p = q at HX H2 HV
      clear hn hv hi hcs hg hpn
      go_enter Try.func24, Try.ntmps24
      go_wp2_with fail
      refine (H1.out _).mono ?_; rintro e w1 ⟨rfl, hb1⟩
      have HM1 := Lib.hid (HM.out.below hb1 (by simp))
      obtain ⟨C, cap, hconv, hc0, hz0, hback⟩ := HX.out w1
      have HB : Hid (Below w1.heap.size w1 ((w1.alloc (.cells C 5 (C.size, C.size + 1))).setCell ⟨w1.heap.size, n, none⟩ (.int .u8 ((c.toNat : Int) + 1))).drew) := (((Below.refl w1.heap.size w1).alloc (Nat.le_refl _) _).setCell (Nat.le_refl _) _).drew
      go_wp2_with fail
      refine (H2.out _).mono ?_; rintro e w2 ⟨rfl, hb2⟩
      have hb3 := HB.out.trans (hb2.mono HB.out.size)
      obtain ⟨⟨x, y, c0, c1⟩, d0, d1⟩ := HM1.out.below hb3 (by have := hb1.size; simp at this; omega)
      go_wp2_with fail
      obtain ⟨q0, q1⟩ := stored c0 c1 p q
      refine bodyPost_ret (v := .tuple #[.agg #[.string p, .string q], .int .i64 0]) (by simp [results, Try.results24, go_sem, q0, q1]) rfl ⟨?_, ((below_2 (below_2 HW.out hb1) hb3).setCell (by simp) _).setCell (by simp) _⟩
      rw [HV.out]
theorem has_drew {w : World} {b : Nat} {f t : ByteArray} (h : Has w b f t) : Has w.drew b f t := ⟨h.fst, h.snd⟩
theorem one_run (c : UInt8) (x : Int) (hx : x = (c.toNat : Int)) (W : World) (B : Nat) (h : W.cell? ⟨B, 0, none⟩ = some (.int .u8 x)) :
    (convert 46 9 (.slice (some ⟨B, 0, none⟩) 1 1)).run Try.prog W = .ok (.string ⟨#[c]⟩) W := by
  subst hx
  refine run_convert_bytes_back (P := Try.prog) W 46 9 5 _ 1 [c] Try.underlying46 Try.underlying5 Try.underlying9 ?_
  intro j hj
  have hj0 : j = 0 := by simpa using hj
  subst hj0
  exact h
theorem append_list (a b : ByteArray) : (a ++ b).data.toList = a.data.toList ++ b.data.toList := by simp [ByteArray.data_append]
set_option maxHeartbeats 1000000 in
set_option maxRecDepth 100000 in
theorem rprefix_any (p : ByteArray) (hp : p.size ≤ 281474976710656) (w : World) :
    Calls Try.prog 25 #[.string p] w fun e w' => e = .returned (incV p) ∧ Below w.heap.size w w' := by
  have H1 := Lib.hid (rvalid_any p (by omega))
  have HM := Lib.hid (Mine.new w ⟨#[]⟩ ⟨#[]⟩)
  have HW := Lib.hid (below_box w ⟨#[]⟩ ⟨#[]⟩)
  by_cases hn : p.data.toList = []
  · have he : p.toList.isEmpty = true := by rw [empty_iff]; exact decide_eq_true hn
    have HV := Lib.hid (incV_none hn)
    clear hn
    go_enter Try.func25, Try.ntmps25
    go_wp2_with fail
    refine bodyPost_ret (v := .tuple #[.agg #[.string ⟨#[]⟩, .string ⟨#[]⟩], .int .i64 0]) (by simp [results, Try.results25, go_sem]) rfl ⟨?_, HW.out⟩
    rw [HV.out]
  · have he : p.toList.isEmpty = false := by rw [empty_iff]; exact decide_eq_false hn
    cases hv : valid p.data.toList
    · have HV := Lib.hid (incV_no hn hv)
      rw [hv] at H1
      clear hn hv
      go_enter Try.func25, Try.ntmps25
      go_wp2_with fail
      refine (H1.out _).mono ?_; rintro e w1 ⟨rfl, rfl⟩
      go_wp2_with fail
      refine bodyPost_ret (v := .tuple #[.agg #[.string ⟨#[]⟩, .string ⟨#[]⟩], .int .i64 1]) (by simp [results, Try.results25, go_sem]) rfl ⟨?_, HW.out⟩
      rw [HV.out]
    · have HV := Lib.hid (incV_yes hv)
      rw [hv] at H1
      obtain ⟨n, c, hsz, hn24, hc, hpn, hi, hcs, hg⟩ := last_byte hv
      have hlast : p[n]'(by omega) = c := hpn (by omega)
      have r1 := fun (W : World) => run_slice_string_h (P := Try.prog) W 9 p Try.underlying9 .i64 (n : Int) (by omega) (by omega)
      have r2 := one_run (c + 1) ((c.toNat : Int) + 1) (by rw [hcs]; rfl)
      have HQ : Hid (p.extract 0 n ++ ⟨#[c + 1]⟩ = binc p) := by
        refine WideShapes.bytes_inj ?_
        rw [append_list, binc_list, hi]
        simp [ByteArray.data_extract]
      have hz : (p.extract 0 n).size ≤ 24 := by simp; omega
      have hz1 : (ByteArray.mk #[c + 1]).size ≤ 1 := Nat.le_of_eq rfl
      generalize ByteArray.mk #[c + 1] = b at r2 HQ hz1
      generalize binc p = q at HV HQ
      simp only [Int.toNat_natCast] at r1
      generalize p.extract 0 n = a at r1 HQ hz
      clear hn hv hi hcs hg hpn
      go_enter Try.func25, Try.ntmps25
      go_wp2_with fail
      refine (H1.out _).mono ?_; rintro e w1 ⟨rfl, rfl⟩
      go_wp2_with fail
      go_region
      go_wp2_with fail
      obtain ⟨q0, q1⟩ := has_drew ((Has.box w p (a ++ b)).alloc (by simp) (.cells #[.int .u8 ((c.toNat : Int) + 1)] 5))
      refine bodyPost_ret (v := .tuple #[.agg #[.string p, .string (a ++ b)], .int .i64 0]) (by simp [results, Try.results25, go_sem, q0, q1]) rfl ⟨?_, (below_alloc2 _ _ _).drew⟩
      rw [HV.out, HQ.out]
end Go.Proofs.Ytbakojnapikfeaa
