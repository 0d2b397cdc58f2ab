/-
  The program's writer of layer 9: the methods when and loop, over block's contract.
  The program's writer of layer 9: the methods loop, block, stmt: contracts.
-/
import Derived.Test.YtbmdadhbkdkgmaaDoorQB
namespace Go.Proofs.YtbmdadhbkdkgmaaDoor.P
open Go.RowKit
open L (Str isName prt size_len below_2 below_box ret_bool ret_int ret_string bytes_eq append_list)
open A

/-- what the method block does with statements -/
def OBk (l : List St) (d : Nat) : Prop := ∀ (a : Option Addr) (c : Nat) (w0 : World) (N : Nat) (t : Str) (w : World), Tab w0 → Below w0.heap.size w0 w → Wr w w0.heap.size N t d → t.length + (txB l (d + 1)).length ≤ 1000000000000 → A.Bodies w0 a l →
  Calls Tryd.prog 49 #[.pointer (some ⟨N, 0, none⟩), .slice a l.length c] w fun e w' => e = .returned (.tuple #[]) ∧ Wr w' w0.heap.size N (t ++ txB l (d + 1)) d ∧ Fr w0.heap.size N w w'
theorem Fr.world {B N : Nat} {w0 w w' : World} (hb : Below w0.heap.size w0 w) (hf : Fr w0.heap.size N w w') (hN : w0.heap.size ≤ N) : Below w0.heap.size w0 w' := by
  have _ := B
  exact hb.trans (hf.below hN hb.size)
/-- the first line of a block -/
def ifL (a : Ex) (d : Nat) : Str := ind d ++ (kIf ++ 32 :: (tx a ++ opb))
def elL (d : Nat) : Str := ind d ++ (125 :: 32 :: (kElse ++ opb))
def clL (d : Nat) : Str := ind d ++ [125, 10]
def forL (nm : ByteArray) (a b : Ex) (m : Int) (d : Nat) : Str := ind d ++ (kFor ++ 32 :: (str nm ++ 32 :: 61 :: 32 :: (tx a ++ 32 :: (kTo ++ 32 :: (tx b ++ 32 :: (kMax ++ 32 :: (Go.Lib.itoa m ++ opb)))))))
theorem txS_5a (a : Ex) (bd : List St) (d : Nat) : txS (.mk 5 none8 0 a noE bd []) d = ifL a d ++ (txB bd (d + 1) ++ clL d) := by
  rw [otxS_5]; simp [ifL, clL]
theorem txS_5b (a : Ex) (bd el : List St) (d : Nat) (h : ¬ el.isEmpty = true) : txS (.mk 5 none8 0 a noE bd el) d = ifL a d ++ (txB bd (d + 1) ++ (elL d ++ (txB el (d + 1) ++ clL d))) := by
  rw [otxS_5, if_neg h]; simp [ifL, elL, clL]
theorem txS_6b (nm : ByteArray) (m : Int) (a b : Ex) (bd : List St) (d : Nat) : txS (.mk 6 nm m a b bd []) d = forL nm a b m d ++ (txB bd (d + 1) ++ clL d) := by
  rw [otxS_6]; simp [forL, clL]
set_option maxHeartbeats 4000000 in
set_option maxRecDepth 100000 in
theorem owhen_any (a : Ex) (bd el : List St) (wa : W 12 a) (hel : el.length ≤ 1000000000000000) (d : Nat) (hd : d ≤ 100) (HBD : OBk bd d) (HEL : OBk el d) : OMt 71 (.mk 5 none8 0 a noE bd el) d := by
  intro a1 c1 a2 c2 a3 c3 a4 c4 w0 N l w ht hb0 hW hl hK
  have hbx := below_box w (stO (.mk 5 none8 0 a noE bd el) a1 c1 a2 c2 a3 c3 a4 c4)
  have hb1 := hb0.trans (hbx.mono hb0.size)
  have hz := hb1.size
  have hN := hW.1
  have hne : w.heap.size ≠ N := by have := hW.lt; omega
  have HNe := Lib.hid hne
  have HN := Lib.hid hN
  have HB1 := Lib.hid hb1
  have HBx := Lib.hid (BoxS.new w (.mk 5 none8 0 a noE bd el) a1 c1 a2 c2 a3 c3 a4 c4)
  have HA := Lib.hid (oexprText_any wa (by decide) a1 c1 _ (ht.below hb1) (hK.a.below hb1))
  have HW := Lib.hid (fun w2 (hb : Below _ _ w2) => (hW.later hbx).later hb)
  have HZ := Lib.hid (fun w2 (hb : Below (w.alloc (stO (.mk 5 none8 0 a noE bd el) a1 c1 a2 c2 a3 c3 a4 c4)).heap.size (w.alloc (stO (.mk 5 none8 0 a noE bd el) a1 c1 a2 c2 a3 c3 a4 c4)) w2) => Nat.le_trans hz hb.size)
  have HF1 := Lib.hid (Fr.of (B := w0.heap.size) (N := N) hbx)
  have HB := Lib.hid (fun t w2 hb hW2 hl2 => HBD a3 c3 w0 N t w2 ht hb hW2 hl2 hK.body)
  have HE := Lib.hid (fun t w2 hb hW2 hl2 => HEL a4 c4 w0 N t w2 ht hb hW2 hl2 hK.els)
  have hza := otx_size wa (by decide)
  have HX := Lib.hid (oba_list (tx a))
  have HT1 : Hid (ind d ++ (joinS [⟨#[105, 102, 32]⟩, ba (tx a), ⟨#[32, 123]⟩] ++ [10]) = ifL a d) := by
    show _ = _
    unfold joinS ifL
    simp [HX.out, kIf, opb]
  have HT2 : Hid (ind d ++ (joinS [⟨#[125, 32, 101, 108, 115, 101, 32, 123]⟩] ++ [10]) = elL d) := by
    show _ = _
    unfold joinS elL
    simp [kElse, opb]
  have HT3 : Hid (ind d ++ (joinS [⟨#[125]⟩] ++ [10]) = clL d) := by
    show _ = _
    unfold joinS clL
    simp
  by_cases he : el.isEmpty = true
  · obtain rfl := List.isEmpty_iff.1 he
    rw [txS_5a] at hl ⊢
    simp only [List.length_append] at hl
    have HL1 := Lib.hid (show l.length + (ifL a d).length ≤ 1000000000000 by omega)
    have HL2 := Lib.hid (show (l ++ ifL a d).length + (txB bd (d + 1)).length ≤ 1000000000000 by rw [List.length_append]; omega)
    have HL3 := Lib.hid (show (l ++ ifL a d ++ txB bd (d + 1)).length + (clL d).length ≤ 1000000000000 by rw [List.length_append, List.length_append]; omega)
    generalize ifL a d = t1 at HT1 HL1 HL2 HL3 ⊢
    generalize clL d = t3 at HT3 HL3 ⊢
    generalize ba (tx a) = T at HA hza HX HT1
    generalize txB bd (d + 1) = t2 at HB HL2 HL3 ⊢
    unfold exV at HA
    simp only [ostC_mk, ostO_mk, List.length_nil, onoE_op, onoE_n, onoE_s, onoE_args] at *
    clear hbx hb1 ht hK hl hz wa hW hb0 hne hN he HE HEL HBD hel HT2
    go_enter Tryd.func71, Tryd.ntmps71
    go_wp2_with fail
    refine HA.out.mono ?_; rintro e w2 ⟨rfl, hb2⟩
    have HC := Lib.hid (oline_to [⟨#[105, 102, 32]⟩, T, ⟨#[32, 123]⟩] t1 3 (by omega) (by simp) (HZ.out w2 hb2) (HW.out w2 hb2) HT1.out HL1.out)
    have HF2 := Lib.hid (HF1.out.trans (Fr.of hb2))
    have HB2 := Lib.hid (HBx.out.below hb2)
    have HBw := Lib.hid (HB1.out.trans (hb2.mono (HZ.out _ (Below.refl _ _))))
    clear hb2
    go_wp2_with fail
    refine HC.out.mono ?_; rintro e w3 ⟨rfl, hW3, hF3⟩
    have HW3 := Lib.hid hW3
    have HF3 := Lib.hid (HF2.out.trans hF3)
    have HB3 := Lib.hid (HB2.out.fr hF3 HNe.out)
    have HBw3 := Lib.hid (Fr.world (B := 0) HBw.out hF3 HN.out)
    have k11 := HB3.out.cells.k11
    simp only [Nat.zero_add] at k11
    clear hW3 hF3
    go_wp2_with fail
    refine (HB.out _ w3 HBw3.out HW3.out HL2.out).mono ?_; rintro e w4 ⟨rfl, hW4, hF4⟩
    have HW4 := Lib.hid hW4
    have HF4 := Lib.hid (HF3.out.trans hF4)
    have HB4 := Lib.hid (HB3.out.fr hF4 HNe.out)
    have HBw4 := Lib.hid (Fr.world (B := 0) HBw3.out hF4 HN.out)
    have k12 := HB4.out.cells.k12
    simp only [Nat.zero_add] at k12
    have HC4 := Lib.hid (oline_to [⟨#[125]⟩] t3 1 (by omega) (by simp) HBw4.out.size hW4 HT3.out HL3.out)
    clear hW4 hF4 k11
    go_wp2_with fail
    refine HC4.out.mono ?_; rintro e w5 ⟨rfl, hW5, hF5⟩
    have HW5 := Lib.hid hW5
    have HF5 := Lib.hid (HF4.out.trans hF5)
    clear hW5 hF5 k12
    go_wp2_with fail
    go_end0
    exact ⟨rfl, (by rw [List.append_assoc, List.append_assoc] at HW5; exact HW5.out), HF5.out⟩
  · rw [txS_5b a bd el d he] at hl ⊢
    simp only [List.length_append] at hl
    have HL1 := Lib.hid (show l.length + (ifL a d).length ≤ 1000000000000 by omega)
    have HL2 := Lib.hid (show (l ++ ifL a d).length + (txB bd (d + 1)).length ≤ 1000000000000 by rw [List.length_append]; omega)
    have HL3 := Lib.hid (show (l ++ ifL a d ++ txB bd (d + 1)).length + (elL d).length ≤ 1000000000000 by rw [List.length_append, List.length_append]; omega)
    have HL4 := Lib.hid (show (l ++ ifL a d ++ txB bd (d + 1) ++ elL d).length + (txB el (d + 1)).length ≤ 1000000000000 by rw [List.length_append, List.length_append, List.length_append]; omega)
    have HL5 := Lib.hid (show (l ++ ifL a d ++ txB bd (d + 1) ++ elL d ++ txB el (d + 1)).length + (clL d).length ≤ 1000000000000 by rw [List.length_append, List.length_append, List.length_append, List.length_append]; omega)
    generalize ifL a d = t1 at HT1 HL1 HL2 HL3 HL4 HL5 ⊢
    generalize elL d = te at HT2 HL3 HL4 HL5 ⊢
    generalize clL d = t3 at HT3 HL5 ⊢
    generalize ba (tx a) = T at HA hza HX HT1
    generalize txB bd (d + 1) = t2 at HB HL2 HL3 HL4 HL5 ⊢
    generalize txB el (d + 1) = t4 at HE HL4 HL5 ⊢
    have hl0 : 0 < el.length := List.length_pos_iff.2 (fun e => he (by rw [e]; rfl))
    unfold exV at HA
    simp only [ostC_mk, ostO_mk, List.length_nil, onoE_op, onoE_n, onoE_s, onoE_args] at *
    clear hbx hb1 ht hK hl hz wa hW hb0 hne hN he HEL HBD
    have HBx2 : Hid (∀ w', Below _ _ w' → BoxS w' w.heap.size (.mk 5 none8 0 a noE bd el) a1 c1 a2 c2 a3 c3 a4 c4) := fun w' hb => HBx.out.below hb
    obtain ⟨m, hm⟩ : ∃ m, el.length = m := ⟨_, rfl⟩
    have HM := Lib.hid hm
    rw [hm] at hl0 hel HA HW HZ HF1 HE HB1 ⊢
    have HBx3 : Hid (∀ w', Below (w.alloc (.cells #[.int .i64 5, .string none8, .int .i64 0, .int .i64 a.op, .int .i64 a.n, .string a.s, .slice a1 a.args.length c1, .int .i64 0, .int .i64 0, .string none8, .slice a2 0 c2, .slice a3 bd.length c3, .slice a4 m c4] 35)).heap.size (w.alloc (.cells #[.int .i64 5, .string none8, .int .i64 0, .int .i64 a.op, .int .i64 a.n, .string a.s, .slice a1 a.args.length c1, .int .i64 0, .int .i64 0, .string none8, .slice a2 0 c2, .slice a3 bd.length c3, .slice a4 m c4] 35)) w' → BoxS w' w.heap.size (.mk 5 none8 0 a noE bd el) a1 c1 a2 c2 a3 c3 a4 c4) := by
      rw [← hm]
      exact HBx2.out
    clear hm HBx HBx2
    go_enter Tryd.func71, Tryd.ntmps71
    go_wp2_with fail
    refine HA.out.mono ?_; rintro e w2 ⟨rfl, hb2⟩
    have HC := Lib.hid (oline_to [⟨#[105, 102, 32]⟩, T, ⟨#[32, 123]⟩] t1 3 (by omega) (by simp) (HZ.out w2 hb2) (HW.out w2 hb2) HT1.out HL1.out)
    have HF2 := Lib.hid (HF1.out.trans (Fr.of hb2))
    have HB2 := Lib.hid (HBx3.out _ hb2)
    have HBw := Lib.hid (HB1.out.trans (hb2.mono (HZ.out _ (Below.refl _ _))))
    clear hb2
    go_wp2_with fail
    refine HC.out.mono ?_; rintro e w3 ⟨rfl, hW3, hF3⟩
    have HW3 := Lib.hid hW3
    have HF3 := Lib.hid (HF2.out.trans hF3)
    have HB3 := Lib.hid (HB2.out.fr hF3 HNe.out)
    have HBw3 := Lib.hid (Fr.world (B := 0) HBw.out hF3 HN.out)
    have k11 := HB3.out.cells.k11
    simp only [Nat.zero_add] at k11
    clear hW3 hF3
    go_wp2_with fail
    refine (HB.out _ w3 HBw3.out HW3.out HL2.out).mono ?_; rintro e w4 ⟨rfl, hW4, hF4⟩
    have HW4 := Lib.hid hW4
    have HF4 := Lib.hid (HF3.out.trans hF4)
    have HB4 := Lib.hid (HB3.out.fr hF4 HNe.out)
    have HBw4 := Lib.hid (Fr.world (B := 0) HBw3.out hF4 HN.out)
    have k12 : w4.cell? ⟨w.heap.size, 12, none⟩ = some (.slice a4 m c4) := by have h := HB4.out.cells.k12; rw [← HM.out]; exact h
    have HC4 := Lib.hid (oline_to [⟨#[125, 32, 101, 108, 115, 101, 32, 123]⟩] te 1 (by omega) (by simp) HBw4.out.size hW4 HT2.out HL3.out)
    clear hW4 hF4 k11
    go_wp2_with fail
    refine HC4.out.mono ?_; rintro e w5 ⟨rfl, hW5, hF5⟩
    have HW5 := Lib.hid hW5
    have HF5 := Lib.hid (HF4.out.trans hF5)
    have HB5 := Lib.hid (HB4.out.fr hF5 HNe.out)
    have HBw5 := Lib.hid (Fr.world (B := 0) HBw4.out hF5 HN.out)
    have k12b : w5.cell? ⟨w.heap.size, 12, none⟩ = some (.slice a4 m c4) := by have h := HB5.out.cells.k12; rw [← HM.out]; exact h
    clear hW5 hF5 k12
    go_wp2_with fail
    refine (HE.out _ w5 HBw5.out HW5.out HL4.out).mono ?_; rintro e w6 ⟨rfl, hW6, hF6⟩
    have HF6 := Lib.hid (HF5.out.trans hF6)
    have HBw6 := Lib.hid (Fr.world (B := 0) HBw5.out hF6 HN.out)
    have HC6 := Lib.hid (oline_to [⟨#[125]⟩] t3 1 (by omega) (by simp) HBw6.out.size hW6 HT3.out HL5.out)
    clear hW6 hF6 k12b
    go_wp2_with fail
    refine HC6.out.mono ?_; rintro e w7 ⟨rfl, hW7, hF7⟩
    have HW7 := Lib.hid hW7
    have HF7 := Lib.hid (HF6.out.trans hF7)
    clear hW7 hF7
    go_wp2_with fail
    go_end0
    exact ⟨rfl, (by simp only [List.append_assoc] at HW7; exact HW7.out), HF7.out⟩
end Go.Proofs.YtbmdadhbkdkgmaaDoor.P
namespace Go.Proofs.YtbmdadhbkdkgmaaDoor.P
open Go.RowKit
open L (Str isName prt size_len below_2 below_box ret_bool ret_int ret_string bytes_eq append_list Own8)
open A

set_option maxHeartbeats 4000000 in
set_option maxRecDepth 100000 in
theorem oloop_any (nm : ByteArray) (m : Int) (a b : Ex) (bd : List St) (_hn : nam nm = true) (h0 : 1 ≤ m) (h1 : m ≤ 16) (wa : W 12 a) (wb : W 12 b) (d : Nat) (hd : d ≤ 100) (HBD : OBk bd d) : OMt 72 (.mk 6 nm m a b bd []) d := by
  intro a1 c1 a2 c2 a3 c3 a4 c4 w0 N l w ht hb0 hW hl hK
  have hbx := below_2 (below_box w (stO (.mk 6 nm m a b bd []) a1 c1 a2 c2 a3 c3 a4 c4)) (L.below_drew _)
  have hb1 := hb0.trans (hbx.mono hb0.size)
  have hz := hb1.size
  have hN := hW.1
  have hne : w.heap.size ≠ N := by have := hW.lt; omega
  have HNe := Lib.hid hne
  have HN := Lib.hid hN
  have HB1 := Lib.hid hb1
  have HBx := Lib.hid ((BoxS.new w (.mk 6 nm m a b bd []) a1 c1 a2 c2 a3 c3 a4 c4).below (L.below_drew _))
  have HA := Lib.hid (oexprText_any wa (by decide) a1 c1 _ (ht.below hb1) (hK.a.below hb1))
  have HY := Lib.hid (fun w2 (hb : Below (w.alloc (stO (.mk 6 nm m a b bd []) a1 c1 a2 c2 a3 c3 a4 c4)).drew.heap.size (w.alloc (stO (.mk 6 nm m a b bd []) a1 c1 a2 c2 a3 c3 a4 c4)).drew w2) => oexprText_any wb (by decide) a2 c2 w2 ((ht.below hb1).below hb) ((hK.b.below hb1).below hb))
  have HFm := Lib.hid (fun w2 (hb : Below (w.alloc (stO (.mk 6 nm m a b bd []) a1 c1 a2 c2 a3 c3 a4 c4)).drew.heap.size (w.alloc (stO (.mk 6 nm m a b bd []) a1 c1 a2 c2 a3 c3 a4 c4)).drew w2) => ofmt_any m (by omega) (by omega) w2 ((ht.below hb1).below hb))
  have HW := Lib.hid (fun w2 (hb : Below _ _ w2) => (hW.later hbx).later hb)
  have HZ := Lib.hid (fun w2 (hb : Below (w.alloc (stO (.mk 6 nm m a b bd []) a1 c1 a2 c2 a3 c3 a4 c4)).drew.heap.size (w.alloc (stO (.mk 6 nm m a b bd []) a1 c1 a2 c2 a3 c3 a4 c4)).drew w2) => Nat.le_trans hz hb.size)
  have HF := Lib.hid (fun w2 (hb : Below _ _ w2) => (Fr.of (B := w0.heap.size) (N := N) hbx).trans (Fr.of hb))
  have HBk := Lib.hid (fun t w2 hb hW2 hl2 => HBD a3 c3 w0 N t w2 ht hb hW2 hl2 hK.body)
  have hw64 : IntKind.i64.wrap m = m := IntWalk.i64_in _ (by omega)
  have HX := Lib.hid (oba_list (tx a))
  have HXb := Lib.hid (oba_list (tx b))
  have HXm := Lib.hid (oba_list (Go.Lib.itoa m))
  have HT1 : Hid (ind d ++ (joinS [⟨#[102, 111, 114, 32]⟩, nm, ⟨#[32, 61, 32]⟩, ba (tx a), ⟨#[32, 116, 111, 32]⟩, ba (tx b), ⟨#[32, 109, 97, 120, 32]⟩, ba (Go.Lib.itoa m), ⟨#[32, 123]⟩] ++ [10]) = forL nm a b m d) := by
    show _ = _
    unfold joinS forL
    simp [HX.out, HXb.out, HXm.out, kFor, kTo, kMax, opb, str]
  have HT3 : Hid (ind d ++ (joinS [⟨#[125]⟩] ++ [10]) = clL d) := by
    show _ = _
    unfold joinS clL
    simp
  rw [txS_6b] at hl ⊢
  simp only [List.length_append] at hl
  have HL1 := Lib.hid (show l.length + (forL nm a b m d).length ≤ 1000000000000 by omega)
  have HL2 := Lib.hid (show (l ++ forL nm a b m d).length + (txB bd (d + 1)).length ≤ 1000000000000 by rw [List.length_append]; omega)
  have HL3 := Lib.hid (show (l ++ forL nm a b m d ++ txB bd (d + 1)).length + (clL d).length ≤ 1000000000000 by rw [List.length_append, List.length_append]; omega)
  generalize forL nm a b m d = t1 at HT1 HL1 HL2 HL3 ⊢
  generalize clL d = t3 at HT3 HL3 ⊢
  generalize ba (tx a) = T at HA HX HT1
  generalize ba (tx b) = U at HY HXb HT1
  generalize ba (Go.Lib.itoa m) = V at HFm HXm HT1
  generalize txB bd (d + 1) = t2 at HBk HL2 HL3 ⊢
  unfold exV at HA HY
  simp only [ostC_mk, ostO_mk, List.length_nil] at *
  clear hbx hb1 ht hK hl hz hW hb0 wa wb _hn hne hN HBD
  go_enter Tryd.func72, Tryd.ntmps72
  go_wp2_with fail
  go_region_held3 (fun w' => w'.cell? ⟨w.heap.size, 1, none⟩ = some (.string nm) ∧ w'.cell? ⟨w.heap.size, 2, none⟩ = some (.int .i64 m) ∧ w'.cell? ⟨w.heap.size, 3, none⟩ = some (.int .i64 a.op) ∧ w'.cell? ⟨w.heap.size, 4, none⟩ = some (.int .i64 a.n) ∧ w'.cell? ⟨w.heap.size, 5, none⟩ = some (.string a.s) ∧ w'.cell? ⟨w.heap.size, 6, none⟩ = some (.slice a1 a.args.length c1) ∧ w'.cell? ⟨w.heap.size, 7, none⟩ = some (.int .i64 b.op) ∧ w'.cell? ⟨w.heap.size, 8, none⟩ = some (.int .i64 b.n) ∧ w'.cell? ⟨w.heap.size, 9, none⟩ = some (.string b.s) ∧ w'.cell? ⟨w.heap.size, 10, none⟩ = some (.slice a2 b.args.length c2))
    (first | exact ⟨HBy.out.cells.k1, HBy.out.cells.k2, HBy.out.cells.k3, HBy.out.cells.k4, HBy.out.cells.k5, HBy.out.cells.k6, HBy.out.cells.k7, HBy.out.cells.k8, HBy.out.cells.k9, HBy.out.cells.k10⟩ | exact ⟨HBz.out.cells.k1, HBz.out.cells.k2, HBz.out.cells.k3, HBz.out.cells.k4, HBz.out.cells.k5, HBz.out.cells.k6, HBz.out.cells.k7, HBz.out.cells.k8, HBz.out.cells.k9, HBz.out.cells.k10⟩ | exact ⟨HBu.out.cells.k1, HBu.out.cells.k2, HBu.out.cells.k3, HBu.out.cells.k4, HBu.out.cells.k5, HBu.out.cells.k6, HBu.out.cells.k7, HBu.out.cells.k8, HBu.out.cells.k9, HBu.out.cells.k10⟩ | exact ⟨HBj.out.cells.k1, HBj.out.cells.k2, HBj.out.cells.k3, HBj.out.cells.k4, HBj.out.cells.k5, HBj.out.cells.k6, HBj.out.cells.k7, HBj.out.cells.k8, HBj.out.cells.k9, HBj.out.cells.k10⟩ | exact ⟨(HAl.out _).k1, (HAl.out _).k2, (HAl.out _).k3, (HAl.out _).k4, (HAl.out _).k5, (HAl.out _).k6, (HAl.out _).k7, (HAl.out _).k8, (HAl.out _).k9, (HAl.out _).k10⟩ | go_keep | (refine ⟨?_, ?_, ?_, ?_, ?_, ?_, ?_, ?_, ?_, ?_⟩ <;> go_simp))
    (first
      | (go_at_call 25; (with_reducible refine HA.out.mono ?_); rintro e w1 ⟨rfl, hb1⟩; have HB1x := Lib.hid hb1; have HBy := Lib.hid (HBx.out.below hb1); clear hb1)
      | (go_at_call 25; (with_reducible refine (HY.out _ HB1x.out).mono ?_); rintro e w2 ⟨rfl, hb2⟩; have HB2 := Lib.hid (below_2 HB1x.out hb2); have HBz := Lib.hid (HBy.out.below hb2); clear hb2)
      | (go_at_call 55; (with_reducible refine (HFm.out _ HB2.out).mono ?_); rintro e w3 ⟨rfl, hb3⟩; have HB3 := Lib.hid (below_2 HB2.out hb3); have HBu := Lib.hid (HBz.out.below hb3); have HAl := Lib.hid (fun o => (HBu.out.below (below_box w3 o)).cells); have HC := Lib.hid (oline_to [⟨#[102, 111, 114, 32]⟩, nm, ⟨#[32, 61, 32]⟩, T, ⟨#[32, 116, 111, 32]⟩, U, ⟨#[32, 109, 97, 120, 32]⟩, V, ⟨#[32, 123]⟩] t1 9 (by omega) (by simp) (HZ.out w3 HB3.out) (HW.out w3 HB3.out) HT1.out HL1.out); clear hb3)
      | (go_at_call 28; refine HC.out.mono ?_; rintro e w4 ⟨rfl, hW4, hF4⟩; have HW4 := Lib.hid hW4; have HF4 := Lib.hid ((HF.out w3 HB3.out).trans hF4); have HBj := Lib.hid (HBu.out.fr hF4 HNe.out); have HBw4 := Lib.hid (Fr.world (B := 0) (HB1.out.trans (HB3.out.mono (HZ.out _ (Below.refl _ _)))) hF4 HN.out); clear hW4 hF4))
  have k11 := HBj.out.cells.k11
  simp only [Nat.zero_add] at k11
  go_wp2_with fail
  refine (HBk.out _ w4 HBw4.out HW4.out HL2.out).mono ?_; rintro e w5 ⟨rfl, hW5, hF5⟩
  have HF5 := Lib.hid (HF4.out.trans hF5)
  have HBw5 := Lib.hid (Fr.world (B := 0) HBw4.out hF5 HN.out)
  have HC5 := Lib.hid (oline_to [⟨#[125]⟩] t3 1 (by omega) (by simp) HBw5.out.size hW5 HT3.out HL3.out)
  clear hW5 hF5 k11
  go_wp2_with fail
  refine HC5.out.mono ?_; rintro e w6 ⟨rfl, hW6, hF6⟩
  have HW6 := Lib.hid hW6
  have HF6 := Lib.hid (HF5.out.trans hF6)
  clear hW6 hF6
  go_wp2_with fail
  go_end0
  exact ⟨rfl, (by simp only [List.append_assoc] at HW6; exact HW6.out), HF6.out⟩
/-- the count of blocks is stored -/
theorem Wr.blocks {w : World} {B N : Nat} {l : Str} {d : Nat} (h : Wr w B N l d) (e : Nat) : Wr (w.setCell ⟨N, 1, none⟩ (.int .i64 (e : Int))) B N l e ∧ Fr B N w (w.setCell ⟨N, 1, none⟩ (.int .i64 (e : Int))) := by
  obtain ⟨hB, v, hN, ho⟩ := h
  have hs : w.grownBy (w.setCell ⟨N, 1, none⟩ (.int .i64 (e : Int))) (some N) := ⟨rfl, rfl, rfl, by simp [World.setCell], fun k _ hk => Below.heap_setCell _ _ _ k (fun e => hk (by rw [e]))⟩
  refine ⟨⟨hB, v, by simp [World.setCell, Array.getElem?_modify, hN], ?_⟩, ?_⟩
  · refine World.ownsRow.kept ho hs ?_
    by_cases hn : v.ownBlock = none
    · exact Or.inl hn
    · exact Or.inr (fun e => own_apart ho hN wt_ne e.symm)
  · exact ⟨rfl, rfl, rfl, hs.size, fun k _ hn _ => Below.heap_setCell _ _ _ k hn⟩
theorem otxB_snoc {l : List St} {k : Nat} (h : k < l.length) (d : Nat) : txB (l.take (k + 1)) d = txB (l.take k) d ++ txS l[k] d := by
  have app : ∀ a b : List St, txB (a ++ b) d = txB a d ++ txB b d := by
    intro a b
    induction a with
    | nil => simp [txB]
    | cons s r ih => rw [List.cons_append, txB, txB, ih, List.append_assoc]
  rw [List.take_succ_eq_append_getElem h, app, txB, txB, List.append_nil]
theorem otxB_take (l : List St) (k : Nat) (d : Nat) : (txB (l.take k) d).length ≤ (txB l d).length := by
  induction l generalizing k with
  | nil => simp
  | cons s r ih =>
    cases k with
    | zero => simp [txB]
    | succ k => rw [List.take_succ_cons, txB, txB, List.length_append, List.length_append]; have := ih k; omega
set_option maxHeartbeats 4000000 in
set_option maxRecDepth 100000 in
theorem oblock_any (l : List St) (d : Nat) (hd : d ≤ 1000) (hl : l.length ≤ 1000000000000000) (H : ∀ s ∈ l, OMt 60 s (d + 1)) : OBk l d := by
  intro a c w0 N t w ht hb0 hW hlen hK
  have hN := hW.1
  have HN := Lib.hid hN
  have HB0 := Lib.hid hb0
  have HH := Lib.hid (fun (k : Nat) (hk : k < l.length) => H l[k] (List.getElem_mem hk))
  have HK := Lib.hid hK
  have HTb := Lib.hid ht
  have HJ := Lib.hid (fun k => Nat.le_trans (Nat.add_le_add_left (otxB_take l k (d + 1)) t.length) hlen)
  obtain ⟨v, _, _, c0, c1, f0, f1⟩ := hW.open
  have HW1 := Lib.hid (hW.blocks (d + 1))
  have he : ((d + 1 : Nat) : Int) = (d : Int) + 1 := by omega
  rw [he] at HW1
  obtain ⟨m, hm⟩ : ∃ m, l.length = m := ⟨_, rfl⟩
  have HL := Lib.hid hm
  have HE := Lib.hid he
  rw [hm] at hl ⊢
  clear hm H hK hW hb0 ht hlen he c0 f0 hN
  go_enter Tryd.func49, Tryd.ntmps49
  go_wp2_with fail
  clear c1 f1
  go_loopw [15] (fun s15 wr => ∃ k : Nat, k ≤ m ∧ s15 = .int .i64 k ∧ Hid (Wr wr w0.heap.size N (t ++ txB (l.take k) (d + 1)) (d + 1)) ∧ Hid (Fr w0.heap.size N w wr)) (fun s15 _ => m - (intOf s15).toNat)
  case atStart => exact ⟨0, Nat.zero_le _, rfl, (by rw [List.take_zero, txB, List.append_nil]; exact HW1.out.1), HW1.out.2⟩
  case round =>
    obtain ⟨k, hk, rfl, HWr, HF⟩ := hrel
    have HBw := Lib.hid (Fr.world (B := 0) HB0.out HF.out HN.out)
    by_cases hlt : k < m
    · have hlx : k < l.length := by rw [HL.out]; exact hlt
      obtain ⟨b2, i2, rfl, hat⟩ := (HK.out.below HBw.out).open hlx
      obtain ⟨b2', i2', heq, hat0⟩ := HK.out.open hlx
      have hsn := otxB_snoc hlx (d + 1)
      have hj := HJ.out (k + 1)
      rw [hsn, List.length_append] at hj
      have hS := HH.out k hlx
      generalize l[k] = s at hat hat0 hsn hj hS
      obtain ⟨a1, c1, a2, c2, a3, c3, a4, c4, hcs, hks⟩ := hat0.open
      have hcs2 := hcs.below HBw.out
      simp only [Option.some.injEq, Addr.mk.injEq] at heq
      obtain ⟨rfl, rfl, _⟩ := heq
      have hbb := below_box wr (stO s a1 c1 a2 c2 a3 c3 a4 c4)
      have hlS : (t ++ txB (l.take k) (d + 1)).length + (txS s (d + 1)).length ≤ 1000000000000 := by rw [List.length_append]; omega
      have HS := Lib.hid (hS a1 c1 a2 c2 a3 c3 a4 c4 w0 N (t ++ txB (l.take k) (d + 1)) _ HTb.out (HBw.out.trans (hbb.mono HBw.out.size)) (HWr.out.later hbb) hlS hks)
      have HFb := Lib.hid (HF.out.trans (Fr.of hbb))
      have HSn := Lib.hid hsn
      obtain ⟨k0, k1, k2, k3, k4, k5, k6, k7, k8, k9, k10, k11, k12⟩ := hcs2
      unfold stC stO at HS
      unfold stO at HFb
      clear hat hat0 hsn hj hS hcs hks hbb hlS
      go_wp2_with fail
      refine HS.out.mono ?_; rintro e w2 ⟨rfl, hW2, hF2⟩
      have HW2 := Lib.hid hW2
      have HF2 := Lib.hid (HFb.out.trans hF2)
      clear hW2 hF2
      go_wp2_with fail
      go_roundw
      case rel => exact ⟨k + 1, by omega, by go_num, (by rw [HSn.out, ← List.append_assoc]; exact HW2.out), HF2.out⟩
      case measure => simp [intOf]; omega
    · have HWe : Hid (txB (l.take k) (d + 1) = txB l (d + 1)) := by show _ = _; rw [List.take_of_length_le (by rw [HL.out]; omega)]
      obtain ⟨v, _, _, c0, c1, f0, f1⟩ := HWr.out.open
      have HW3 := Lib.hid (HWr.out.blocks d)
      rw [HE.out] at c1
      clear c0 f0
      go_wp2_with fail
      go_end0
      exact ⟨rfl, (by rw [HWe.out] at HW3; exact HW3.out.1), HF.out.trans HW3.out.2⟩
end Go.Proofs.YtbmdadhbkdkgmaaDoor.P
