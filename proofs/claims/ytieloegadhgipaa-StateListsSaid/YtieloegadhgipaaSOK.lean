/-
  What the program's own Encode of layer 6 returns: its contract.
-/
import Derived.Test.YtieloegadhgipaaSOJ
namespace Go.Proofs.Ytieloegadhgipaa.S
open Go.RowKit
open Go.Proofs.Ytieloegadhgipaa.V (ret_bool ret_int ret_string below_2 below_box below_box2 size_len)
open Go.Lib (strCells strCells_length strCells_oneCell)

theorem at_far0 {w3 w4 : World} {b o : Nat} {p : P} {r : Option Nat} (h : At w3 b o p) (hg : w3.grownBy w4 r) (hne : r ≠ some b) : At w4 b o p :=
  ⟨(hg.cell_far _ h.lt (fun e => hne e.symm)).trans h.key, (hg.cell_far _ h.lt (fun e => hne e.symm)).trans h.kind, (hg.cell_far _ h.lt (fun e => hne e.symm)).trans h.num, (hg.cell_far _ h.lt (fun e => hne e.symm)).trans h.str⟩
set_option maxHeartbeats 4000000 in
set_option maxRecDepth 100000 in
theorem oencs_any (a : Option Addr) (c : Nat) (xs : List P) (hf : Fits xs) (hsz : (encs (prs xs)).length ≤ 1000000000000) (w : World) (hA : Prs w a xs) :
    Calls Try.prog 27 #[.slice a xs.length c] w fun e w' => e = .returned (.string ⟨(encs (prs xs)).toArray⟩) ∧ Below w.heap.size w w' := by
  have hx := hf.len
  have HA := Lib.hid hA
  have HF := Lib.hid hf
  have h1 := W.uint_any xs.length (by omega)
  have HE := Lib.hid (encT_all xs)
  have HZ := Lib.hid (encT_size xs)
  rw [← encT_none] at h1
  clear hA hf
  obtain ⟨n, hn⟩ : ∃ n, xs.length = n := ⟨_, rfl⟩
  have HL := Lib.hid hn
  rw [hn] at hx h1 HE ⊢
  have H1 := Lib.hid h1
  clear hn h1
  go_enter Try.func27, Try.ntmps27
  go_wp2_with fail
  refine (H1.out _).mono ?_; rintro e w1 ⟨rfl, hb1⟩
  have z0 := HZ.out 0
  obtain ⟨v0, w2, hcv, hr2, hb2⟩ := conv_row8 w1 (encT xs 0) (by omega)
  have HR2 := Lib.hid hr2
  have HB2 := Lib.hid (below_2 hb1 hb2)
  have HB1 := Lib.hid hb1
  clear hb1 hb2 hr2 z0
  go_wp2_with fail
  go_loopw [3, 13] (fun vo vi wr => ∃ k : Nat, k ≤ n ∧ vi = .int .i64 k ∧ Hid (Row8 wr w1.heap.size vo (encT xs k).size (strCells (encT xs k))) ∧ Below w.heap.size w wr) (fun _ vi _ => n - (intOf vi).toNat)
  case atStart => exact ⟨0, Nat.zero_le _, rfl, HR2.out, HB2.out⟩
  case round =>
    obtain ⟨k, hk, rfl, HO, hb⟩ := hrel
    have HB := Lib.hid hb
    by_cases hlt : k < n
    · have hlx : k < xs.length := by rw [HL.out]; exact hlt
      obtain ⟨z0, z1, z2, z3⟩ := HF.out.at hlx
      have g1 := W.text_any xs[k].key z0
      have g2 := V.oenc_any xs[k].k xs[k].n z2 z3 xs[k].s z1
      have HN := Lib.hid (encT_next hlx)
      have y0 := HZ.out k
      have y1 := HZ.out (k + 1)
      rw [← HN.out] at y1
      simp only [ByteArray.size_append] at y1
      obtain ⟨b1, o1, rfl, hc⟩ := (HA.out.below hb).open hlx
      obtain ⟨c0, c1, c2, c3⟩ := hc k hlx
      have hat := at_box wr xs[k]
      have HAT := Lib.hid hat
      obtain ⟨e0, e1, e2, e3⟩ := hat
      simp only [Nat.zero_add] at e0 e1 e2 e3
      have HBX := Lib.hid (below_2 hb (below_box wr (.cells #[.string xs[k].key, .int .i64 xs[k].k, .int .i64 xs[k].n, .string xs[k].s] 33)))
      have HOX := Lib.hid (HO.out.below (below_box wr (.cells #[.string xs[k].key, .int .i64 xs[k].k, .int .i64 xs[k].n, .string xs[k].s] 33)))
      have hge := HO.out.ge
      have HGE := Lib.hid hge
      have C1 := Lib.hid g1
      have C2 := Lib.hid g2
      generalize ByteArray.mk (W.text xs[k].key.data.toList).toArray = T at C1 HN y1
      generalize ByteArray.mk (V.enc ⟨xs[k].k, xs[k].n, xs[k].s.data.toList⟩).toArray = U at C2 HN y1
      generalize hE2 : encT xs (k + 1) = E2 at HN
      have HE2 := Lib.hid hE2
      generalize encT xs k = E1 at HN y0 y1 HO HOX
      generalize xs[k] = p at c0 c1 c2 c3 e0 e1 e2 e3 C1 C2 HAT HBX HOX
      clear g1 g2 hc z0 z1 z2 z3 hE2 hge hb
      have hw1 : w1.heap.size ≤ wr.heap.size := by
        obtain ⟨_, g, _, _, _, _, hbg, hg, _⟩ := HO.out
        have := (Array.getElem?_eq_some_iff.1 hg).1
        omega
      go_wp2_with fail
      refine (C1.out _).mono ?_; rintro e w3 ⟨rfl, hb3⟩
      have hBa := below_2 HBX.out hb3
      have HO3 := Lib.hid (HOX.out.below hb3)
      have HAT3 := Lib.hid (HAT.out.below hb3 HAT.out.lt)
      have hw3 : w1.heap.size ≤ w3.heap.size := Nat.le_trans hw1 (by have := hb3.size; simp at this; omega)
      clear hb3 e0 e1 e2 e3
      go_wp2_with (at_builtin; refine wpList_append_row8 rfl (.tmp 17) (.tmp 20) rfl w1.heap.size u3 E1.size (strCells E1) rfl HO3.out T rfl (by omega) hw3 ?_; intro v4 w4 hr4 hgrow4; have hB4 := below_grown (hBa) (by have := HB1.out.size; omega) hgrow4 (fun g hg => by have := (HO3.out.ge g hg).1; have := HB1.out.size; omega); obtain ⟨f0, f1, f2, f3⟩ := at_far0 HAT3.out hgrow4 (fun e => absurd (HGE.out _ e).2 (Nat.lt_irrefl _)); simp only [Nat.zero_add] at f0 f1 f2 f3; rw [← ByteArray.size_append, ← str_append] at hr4; have HR4 := Lib.hid hr4; have hw4 := Nat.le_trans hw3 hgrow4.size)
      refine (C2.out _).mono ?_; rintro e w5 ⟨rfl, hb5⟩
      have HR5 := Lib.hid (HR4.out.below hb5)
      have hB5 := below_2 hB4 hb5
      have hw5 := Nat.le_trans hw4 hb5.size
      have hsa : (E1 ++ T).size = E1.size + T.size := ByteArray.size_append
      clear hb5 hr4 f0 f1 f2 f3
      go_wp2_with (at_builtin; refine wpList_append_row8 rfl (.tmp 22) (.tmp 25) rfl w1.heap.size v4 (E1 ++ T).size (strCells (E1 ++ T)) rfl HR5.out U rfl (by omega) hw5 ?_; intro v6 w6 hr6 hgrow6; have hB6 := below_grown hB5 (by have := HB1.out.size; omega) hgrow6 (fun g hg => by have := (HR5.out.ge g hg).1; have := HB1.out.size; omega); rw [← ByteArray.size_append, ← str_append] at hr6; have HR6 := Lib.hid hr6)
      go_roundw
      case rel => exact ⟨k + 1, by omega, by go_num, (by unfold Hid; rw [HE2.out, ← HN.out]; exact HR6.out), hB6⟩
      case measure => simp [intOf]; omega
    · obtain rfl : n = k := by omega
      have hbk := back_row8 HO.out
      go_wp2_with fail
      go_ret
      exact ⟨ret_string HE.out, hb⟩
end Go.Proofs.Ytieloegadhgipaa.S
