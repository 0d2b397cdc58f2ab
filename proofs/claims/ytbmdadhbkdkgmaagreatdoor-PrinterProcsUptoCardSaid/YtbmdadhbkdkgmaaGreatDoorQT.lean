/-
  What the reference of layer 9 returns: stmt of conditions, of whatever valid statement; Proc: contracts.
  What the reference of layer 9 returns: Proc: a contract.
  What the reference of layer 9 returns: Program: a contract; lists of procedures in memory.
-/
import Derived.Test.YtbmdadhbkdkgmaaGreatDoorQS
import Derived.Test.YtbmdadhbkdkgmaaGreatDoorHE
import Derived.Test.YtbmdadhbkdkgmaaGreatDoorPMem
namespace Go.Proofs.YtbmdadhbkdkgmaaGreatDoor.P
open Go.RowKit
open L (Str isName prt size_len below_2 below_box ret_bool ret_int ret_string bytes_eq append_list)
open A

set_option maxHeartbeats 4000000 in
set_option maxRecDepth 100000 in
theorem rst_cond (a : Ex) (bd el : List St) (wa : W 12 a) (hel : el.length ≤ 1000000000000000) (d : Nat) (hd : d ≤ 100) (HBD : RBk bd (d + 1)) (HEL : RBk el (d + 1)) : RSt (.mk 5 none8 0 a noE bd el) d := by
  intro hlen a1 c1 a2 c2 a3 c3 a4 c4 w hK
  have hb := below_box w (stO (.mk 5 none8 0 a noE bd el) a1 c1 a2 c2 a3 c3 a4 c4)
  have HB := Lib.hid hb
  have HK := Lib.hid (hK.below hb)
  have HG := Lib.hid (StG.new w 5 none8 0 a noE bd el a1 c1 a2 c2 a3 c3 a4 c4)
  have HCs := Lib.hid (stO_cells w (.mk 5 none8 0 a noE bd el) a1 c1 a2 c2 a3 c3 a4 c4)
  have HI := Lib.hid (fun w => rindent_any d (by omega) w)
  have zi := ind_size d
  have HII := Lib.hid (ba_list (ind d))
  rw [txS_5] at hlen ⊢
  simp only [List.length_append, List.length_cons] at hlen
  have hlb : (txB bd (d + 1)).length ≤ 1000000000 := by omega
  have HA := Lib.hid (fun (d : Nat) (os : Array Obj) => Calls.regrown_of (d := d) (os := os) (rtext_any wa (by decide) a1 c1 _ (HK.out.a.below (below_regrown _ d os))))
  have HD := Lib.hid (fun (d' : Nat) (os : Array Obj) => Calls.regrown_of (d := d') (os := os) (HBD hlb a3 c3 _ (HK.out.body.below (below_regrown _ d' os))))
  have za := tx_size wa (by decide)
  have HAA := Lib.hid (ba_list (tx a))
  have zD : (ba (txB bd (d + 1))).size ≤ 1000000000 := by rw [ba_size]; exact hlb
  have HDD := Lib.hid (ba_list (txB bd (d + 1)))
  generalize ba (ind d) = I at HI zi HII
  unfold exV at HA
  generalize ba (tx a) = X at HA HAA za
  generalize ba (txB bd (d + 1)) = D at HD HDD zD
  obtain ⟨g0, g1, g2, g3, g4, g5, g6, g7, g8, g9, g10, g11, g12⟩ := HG.out
  have HC2 := Lib.hid (fun w' hb => HCs.out.below (w' := w') hb)
  by_cases he : el.isEmpty = true
  · obtain rfl := List.isEmpty_iff.1 he
    simp only [stC_mk, stO_mk, List.length_nil, noE_op, noE_n, noE_s, noE_args, Int.natCast_add, Int.natCast_one] at *
    clear hb hK hlen HG wa hlb HCs he hel
    go_enter Tryz.func29, Tryz.ntmps29
    go_wp2_with fail
    refine (HI.out _).mono ?_; rintro e w1 ⟨rfl, rfl⟩
    go_wp2_with fail
    refine wp_region_quiet_below (by kernel_rfl) (by kernel_rfl) ?_
    repeat (go_big_quiet_step (with_reducible first | exact HA.out _ _ | exact HD.out _ _))
    refine wpQuiet_nil ?_
    intro w4 hw'
    obtain ⟨⟨dq, osq⟩, hw2⟩ := hw'
    have hb4 := below_of hw2
    have HB4 := Lib.hid (below_2 HB.out hb4)
    have k12 := (HC2.out _ hb4).k12
    clear hw2 hb4 g0 g1 g2 g3 g4 g5 g6 g7 g8 g9 g10 g11 g12
    go_wp2_with fail
    go_ret
    exact ⟨ret_string (ba_eq (by simp only [append_list, HII.out, HAA.out, HDD.out]; simp [kIf, opb])), HB4.out⟩
  · rw [if_neg he] at hlen ⊢
    have hle : (txB el (d + 1)).length ≤ 1000000000 := by simp only [List.length_append, List.length_cons] at hlen; omega
    have HE := Lib.hid (fun w' (hb : Below (w.alloc (stO (.mk 5 none8 0 a noE bd el) a1 c1 a2 c2 a3 c3 a4 c4)).heap.size (w.alloc (stO (.mk 5 none8 0 a noE bd el) a1 c1 a2 c2 a3 c3 a4 c4)) w') => HEL hle a4 c4 w' (HK.out.els.below hb))
    have zE : (ba (txB el (d + 1))).size ≤ 1000000000 := by rw [ba_size]; exact hle
    have HEE := Lib.hid (ba_list (txB el (d + 1)))
    generalize ba (txB el (d + 1)) = E at HE HEE zE
    have hl0 : 0 < el.length := List.length_pos_iff.2 (fun e => he (by rw [e]; rfl))
    have HC3 : Hid (∀ w', Below (w.alloc (stO (.mk 5 none8 0 a noE bd el) a1 c1 a2 c2 a3 c3 a4 c4)).heap.size (w.alloc (stO (.mk 5 none8 0 a noE bd el) a1 c1 a2 c2 a3 c3 a4 c4)) w' → w'.cell? ⟨w.heap.size, 12, none⟩ = some (.slice a4 el.length c4)) := fun w' hb => (HC2.out w' hb).k12
    simp only [stC_mk, stO_mk, noE_op, noE_n, noE_s, noE_args, List.length_nil, Int.natCast_add, Int.natCast_one] at *
    clear hb hK hlen HG wa hlb HCs hle he HC2 HK HEL HBD
    generalize el.length = m at *
    go_enter Tryz.func29, Tryz.ntmps29
    go_wp2_with fail
    refine (HI.out _).mono ?_; rintro e w1 ⟨rfl, rfl⟩
    go_wp2_with fail
    refine wp_region_quiet_below (by kernel_rfl) (by kernel_rfl) ?_
    repeat (go_big_quiet_step (with_reducible first | exact HA.out _ _ | exact HD.out _ _))
    refine wpQuiet_nil ?_
    intro w4 hw'
    obtain ⟨⟨dq, osq⟩, hw2⟩ := hw'
    have hb4 := below_of hw2
    have HB4 := Lib.hid hb4
    have k12 := HC3.out _ hb4
    clear hw2 hb4 g0 g1 g2 g3 g4 g5 g6 g7 g8 g9 g10 g11 g12
    go_wp2_with fail
    refine (HE.out _ HB4.out).mono ?_; rintro e w5 ⟨rfl, hb5⟩
    have HB5 := Lib.hid (below_2 (below_2 HB.out HB4.out) hb5)
    clear hb5
    go_wp2_with fail
    go_ret
    exact ⟨ret_string (ba_eq (by simp only [append_list, HII.out, HAA.out, HDD.out, HEE.out]; simp [kIf, kElse, opb])), HB5.out⟩
/-- stmt of whatever valid statement -/
theorem rstmt_any : ∀ (h : Nat) (s : St) (d : Nat), d + h ≤ 100 → WS h s → okS s → RSt s d := by
  intro h
  induction h with
  | zero => intro s d _ ws; cases ws
  | succ h ih =>
    intro s d hd ws hok
    have blk : ∀ l : List St, (∀ s ∈ l, WS h s) → okB l → l.length ≤ 1000000000000000 → RBk l (d + 1) := fun l hl ho hz =>
      rblock_any l (d + 1) (by omega) hz fun s hs => by
        obtain ⟨j, hj, rfl⟩ := List.getElem_of_mem hs
        exact ih l[j] (d + 1) (by omega) (hl _ hs) (ho.get j hj)
    have ho := okS_open hok
    cases ws with
    | dec _ nm a hn wa => exact rst_dec nm a hn wa d (by omega)
    | set _ nm a hn wa => exact rst_set nm a hn wa d (by omega)
    | put _ a b wa wb => exact rst_put a b wa wb d (by omega)
    | del _ a wa => exact rst_del a wa d (by omega)
    | emit _ a wa => exact rst_emit a wa d (by omega)
    | abort _ m h0 h1 => exact rst_abort m h0 h1 d (by omega)
    | loop _ nm m a b bd hn h0 h1 wa wb hb => exact rst_loop nm m a b bd hn h0 h1 wa wb d (by omega) (blk bd hb ho.body ho.bodyLen)
    | cond _ a bd el wa hb he => exact rst_cond a bd el wa ho.elsLen d (by omega) (blk bd hb ho.body ho.bodyLen) (blk el he ho.els ho.elsLen)
end Go.Proofs.YtbmdadhbkdkgmaaGreatDoor.P
namespace Go.Proofs.YtbmdadhbkdkgmaaGreatDoor.P
open Go.RowKit
open L (Str isName prt size_len below_2 below_box ret_bool ret_int ret_string bytes_eq append_list)
open A

theorem headP_len {p : Pr} (w : WP p) (h6 : p.params.length ≤ 6) (k : Nat) : (headP p k).length ≤ 300 := by
  have h1 := par_len w.params k
  have h2 := nam_len w.name
  unfold headP kProc
  simp only [List.length_append, List.length_cons, List.length_nil]
  omega
theorem headP_next {p : Pr} {k : Nat} (h : k < p.params.length) : headP p (k + 1) = headP p k ++ (if k = 0 then [] else [44, 32]) ++ txQ p.params[k] := by
  unfold headP
  rw [txPm_snoc h]
  by_cases hk : k = 0
  · subst hk; simp [txPm]
  · rw [if_neg hk, if_neg hk]; simp
theorem txP_parts (p : Pr) : txP p = headP p p.params.length ++ (41 :: (opb ++ (txB p.body 1 ++ [125, 10]))) := by
  unfold txP headP
  rw [List.take_length]
  simp
theorem rtypeWord_flip (t : Int) (h : 1 ≤ t) (h2 : t ≤ 3) (w : World) : Calls Tryz.prog 13 #[.int .i64 t] w fun e w' => e = .returned (.string (ba (tyW t))) ∧ w' = w := (rtypeWord_any t h h2 w).mono fun _ _ ⟨p, q⟩ => ⟨p, q.symm⟩
set_option maxHeartbeats 8000000 in
set_option maxRecDepth 100000 in
theorem rproc_any (p : Pr) (a1 a2 : Option Addr) (c1 c2 : Nat) (hok : OkP p) (w : World) (hK : PrIn w p a1 a2) :
    Calls Tryz.prog 6 #[prV p a1 c1 a2 c2] w fun e' w' => e' = .returned (.string (ba (procT p))) ∧ Below w.heap.size w w' := by
  have hw := below_box w (prO p a1 c1 a2 c2)
  have HBL := Lib.hid (fun w' hb => proc_later (w := w) (w' := w') (p := p) (a1 := a1) (a2 := a2) (c1 := c1) (c2 := c2) hb)
  have HC := Lib.hid (rvalidate_any rstmt p a1 a2 c1 c2 hok _ (hK.below hw))
  have HW := Lib.hid hw
  have HKp := Lib.hid (hK.below hw)
  by_cases hv : valE p = 0
  · have wp := wp_here hok hv
    have h6 := six_of hv
    have hlen := txP_lenN hv wp
    have hbl : (txB p.body 1).length ≤ 1000000000 := by
      rw [txP_parts] at hlen
      simp only [List.length_append, List.length_cons] at hlen
      omega
    have HBk := Lib.hid (fun w' hb => rblock_any p.body 1 (by decide) hok.bodyLen (fun s hs => by
      obtain ⟨j, hj, rfl⟩ := List.getElem_of_mem hs
      exact rstmt_any 12 _ 1 (by decide) (wp.body _ hs) (hok.body.get j hj)) hbl a2 c2 w' (HKp.out.body.below hb))
    have HBl := Lib.hid (ba_list (txB p.body 1))
    have zB : (ba (txB p.body 1)).size ≤ 1000000000 := by rw [ba_size]; exact hbl
    have HV : Hid (procT p = headP p p.params.length ++ (41 :: (opb ++ (txB p.body 1 ++ [125, 10])))) := by show _ = _; unfold procT; rw [if_pos hv, txP_parts]
    rw [HV.out]
    rw [hv] at HC
    have HPm := Lib.hid (fun (k : Nat) (hk : k < p.params.length) => wp.params p.params[k] (List.getElem_mem hk))
    have HLn := Lib.hid (fun k => headP_len wp h6 k)
    have HNx := Lib.hid (fun k (hk : k < p.params.length) => headP_next hk)
    have zn := nam_len wp.name
    have zn2 : p.name.size ≤ 16 := zn
    have HH0 : Hid ((⟨#[112, 114, 111, 99, 32]⟩ ++ p.name ++ ⟨#[40]⟩ : ByteArray).data.toList = headP p 0) := by
      show _ = _
      simp only [append_list]
      simp [headP, kProc, str, txPm]
    have zH0 : (⟨#[112, 114, 111, 99, 32]⟩ ++ p.name ++ ⟨#[40]⟩ : ByteArray).size ≤ 300 := by rw [size_len, HH0.out]; exact HLn.out 0
    generalize ba (txB p.body 1) = D at HBk HBl zB
    unfold prO at HC HW HBL HKp HBk
    unfold prV at *
    simp only [show ((1 : Nat) : Int) = 1 from rfl] at HBk
    clear hv wp hlen hbl HV hw hK hok zn
    go_enter Tryz.func6, Tryz.ntmps6
    go_wp2_with fail
    refine HC.out.mono ?_; rintro e' w1 ⟨rfl, hb1⟩
    have HB1 := Lib.hid hb1
    obtain ⟨j0, j1, j2⟩ := HBL.out _ hb1
    clear hb1
    go_wp2_with fail
    go_loopw [3, 4] (fun s i wr => ∃ (k : Nat) (t : ByteArray), k ≤ p.params.length ∧ i = .int .i64 k ∧ s = .string t ∧ t.size ≤ 300 ∧ Hid (t.data.toList = headP p k) ∧ Below w1.heap.size w1 wr) (fun _ i _ => p.params.length - (intOf i).toNat)
    case atStart => exact ⟨0, _, Nat.zero_le _, rfl, rfl, zH0, HH0, Below.refl _ _⟩
    case round =>
      obtain ⟨k, t, hk, rfl, rfl, hz, HT, hbr⟩ := hrel
      have HBr := Lib.hid (below_2 HB1.out hbr)
      have HBw := Lib.hid hbr
      clear hbr
      obtain ⟨i0, i1, i2⟩ := HBL.out _ HBr.out
      by_cases hlt : k < p.params.length
      · have hlx := hlt
        obtain ⟨b2, q2, rfl, hcc⟩ := (HKp.out.params.below HBr.out).open hlx
        obtain ⟨f0, f1⟩ := hcc k hlx
        obtain ⟨n1, t1, t3⟩ := HPm.out k hlx
        have hnx := HNx.out k hlx
        have hln := HLn.out (k + 1)
        have HTy := Lib.hid (grownS (W := wr) (fun w => rtypeWord_flip p.params[k].ty t1 t3 w))
        have zy : (ba (tyW p.params[k].ty)).size ≤ 4 := by rw [ba_size]; exact tyW_len _
        have HYl := Lib.hid (ba_list (tyW p.params[k].ty))
        have zq : p.params[k].name.size ≤ 16 := nam_len n1
        generalize ba (tyW p.params[k].ty) = Y at HTy zy HYl
        unfold txQ at hnx
        rw [← HYl.out] at hnx
        generalize p.params[k] = q at *
        have HN := Lib.hid hnx
        have HLN := Lib.hid hln
        have f0g := fun d os => cell_regrown f0 d os
        have f1g := fun d os => cell_regrown f1 d os
        have i1g := fun d os => cell_regrown i1 d os
        clear hcc hnx hln j0 j1 j2 n1 t1 t3
        by_cases hk0 : k = 0
        · have bk : decide (0 < k) = false := decide_eq_false (by omega)
          have HN2 : Hid ((t ++ q.name ++ ⟨#[58, 32]⟩ ++ Y).data.toList = headP p (k + 1)) := by
            show _ = _
            rw [HN.out, if_pos hk0]
            simp only [append_list, HT.out]
            simp [str]
          have hz2 : (t ++ q.name ++ ⟨#[58, 32]⟩ ++ Y : ByteArray).size ≤ 300 := by rw [size_len, HN2.out]; exact HLN.out
          clear hk0
          go_wp2_with fail
          refine wp_region_quiet_below (by kernel_rfl) (by kernel_rfl) ?_
          repeat (go_big_quiet_step (with_reducible exact HTy.out _ _))
          refine wpQuiet_nil ?_
          intro w4 hw'
          obtain ⟨⟨dq, osq⟩, hw2⟩ := hw'
          have hb4 := below_of hw2
          have HB4 := Lib.hid (below_2 HBw.out hb4)
          clear hw2 hb4 f0g f1g i1g
          go_wp2_with fail
          go_roundw
          case rel => exact ⟨k + 1, _, by omega, by go_num, rfl, hz2, HN2, HB4.out⟩
          case measure => simp [intOf]; omega
        · have bk : decide (0 < k) = true := decide_eq_true (by omega)
          have HN2 : Hid ((t ++ ⟨#[44, 32]⟩ ++ q.name ++ ⟨#[58, 32]⟩ ++ Y).data.toList = headP p (k + 1)) := by
            show _ = _
            rw [HN.out, if_neg hk0]
            simp only [append_list, HT.out]
            simp [str]
          have hz2 : (t ++ ⟨#[44, 32]⟩ ++ q.name ++ ⟨#[58, 32]⟩ ++ Y : ByteArray).size ≤ 300 := by rw [size_len, HN2.out]; exact HLN.out
          clear hk0
          go_wp2_with fail
          refine wp_region_quiet_below (by kernel_rfl) (by kernel_rfl) ?_
          repeat (go_big_quiet_step (with_reducible exact HTy.out _ _))
          refine wpQuiet_nil ?_
          intro w4 hw'
          obtain ⟨⟨dq, osq⟩, hw2⟩ := hw'
          have hb4 := below_of hw2
          have HB4 := Lib.hid (below_2 HBw.out hb4)
          clear hw2 hb4 f0g f1g i1g
          go_wp2_with fail
          go_roundw
          case rel => exact ⟨k + 1, _, by omega, by go_num, rfl, hz2, HN2, HB4.out⟩
          case measure => simp [intOf]; omega
      · have HTm : Hid (t.data.toList = headP p p.params.length) := by show _ = _; rw [HT.out, show k = p.params.length by omega]
        clear j0 j1 j2
        go_wp2_with fail
        refine (HBk.out _ HBr.out).mono ?_; rintro e' w5 ⟨rfl, hb5⟩
        have HB5 := Lib.hid (below_2 (below_2 HW.out HBr.out) hb5)
        clear hb5
        go_wp2_with fail
        go_ret
        exact ⟨ret_string (ba_eq (by simp only [append_list, HTm.out, HBl.out]; simp [opb])), HB5.out⟩
  · have HV : Hid (procT p = []) := by show _ = _; unfold procT; rw [if_neg hv]
    rw [HV.out]
    have bx : (valE p != 0) = true := bne_iff_ne.2 hv
    generalize valE p = x at HC bx
    unfold prO at HC HW
    unfold prV at *
    clear hv hw hK hok HV HBL HKp
    go_enter Tryz.func6, Tryz.ntmps6
    go_wp2_with fail
    refine HC.out.mono ?_; rintro e' w1 ⟨rfl, hb1⟩
    have HB1 := Lib.hid (below_2 HW.out hb1)
    clear hb1
    go_wp2_with fail
    go_ret
    exact ⟨rfl, HB1.out⟩
end Go.Proofs.YtbmdadhbkdkgmaaGreatDoor.P
namespace Go.Proofs.YtbmdadhbkdkgmaaGreatDoor.P
open Go.RowKit
open L (Str isName prt size_len below_2 below_box ret_bool ret_int ret_string bytes_eq append_list)
open A

set_option maxHeartbeats 4000000 in
set_option maxRecDepth 100000 in
theorem rprogram_any (l : List Pr) (a : Option Addr) (c : Nat) (hok : OkL l) (w : World) (hK : Prs w a l) :
    Calls Tryz.prog 8 #[.slice a l.length c] w fun e' w' => e' = .returned (.string (ba (progT l))) ∧ Below w.heap.size w w' := by
  have HK := Lib.hid hK
  have HO := Lib.hid hok.each
  have HTl := Lib.hid (fun (k : Nat) (hk : ∀ p ∈ l.take k, valE p = 0) => txL_len (l := l.take k) ⟨by rw [List.length_take]; have := hok.len; omega, fun j hj => by
    rw [List.getElem_take]
    exact hok.each j (by rw [List.length_take] at hj; omega)⟩ hk (l.take k).length)
  have hlen := hok.len
  obtain ⟨m, hm⟩ : ∃ m, l.length = m := ⟨_, rfl⟩
  have HL := Lib.hid hm
  rw [hm] at hlen ⊢
  clear hm hK hok
  go_enter Tryz.func8, Tryz.ntmps8
  go_wp2_with fail
  go_loopw [3, 4] (fun s i wr => ∃ (k : Nat) (t : ByteArray), k ≤ m ∧ i = .int .i64 k ∧ s = .string t ∧ t.size ≤ 260000000000 ∧ Hid (t.data.toList = txL (l.take k)) ∧ Hid (∀ p ∈ l.take k, valE p = 0) ∧ Below w.heap.size w wr) (fun _ i _ => m - (intOf i).toNat)
  case atStart => exact ⟨0, ⟨#[]⟩, Nat.zero_le _, rfl, rfl, Nat.zero_le _, rfl, (fun p hp => by rw [List.take_zero] at hp; cases hp), Below.refl _ _⟩
  case round =>
    obtain ⟨k, t, hk, rfl, rfl, hz, HT, HG, hb⟩ := hrel
    by_cases hlt : k < m
    · have hlx : k < l.length := by rw [HL.out]; exact hlt
      obtain ⟨b2, i2, rfl, hat⟩ := (HK.out.below hb).open hlx
      obtain ⟨p1, q1, p2, q2, e0, e1, e2, _, hin⟩ := hat
      have hop := HO.out k hlx
      have HC := Lib.hid (rproc_any l[k] p1 p2 q1 q2 hop wr hin)
      have HB := Lib.hid hb
      by_cases hv : valE l[k] = 0
      · have hPT : procT l[k] = txP l[k] := by unfold procT; rw [if_pos hv]
        rw [hPT] at HC
        have hzp : (ba (txP l[k])).size ≤ 240200 := by rw [ba_size]; exact txP_lenN hv (wp_here hop hv)
        have hne : txP l[k] ≠ [] := txP_ne _
        have HX := Lib.hid (ba_list (txP l[k]))
        have hsn : txL (l.take (k + 1)) = if k = 0 then txP l[k] else txL (l.take k) ++ 10 :: txP l[k] := by
          rw [List.take_succ_eq_append_getElem hlx, txL_snoc, List.length_take]
          by_cases h0 : k = 0
          · rw [if_pos (by omega), if_pos h0]
          · rw [if_neg (by omega), if_neg h0]
        have HG2 : Hid (∀ p ∈ l.take (k + 1), valE p = 0) := by
          intro p hp
          rw [List.take_succ_eq_append_getElem hlx, List.mem_append] at hp
          rcases hp with hp | hp
          · exact HG.out p hp
          · rw [List.mem_singleton] at hp; rw [hp]; exact hv
        have hln := HTl.out (k + 1) HG2.out
        rw [List.take_length] at hln
        have hbe : ((ba (txP l[k])).toList == []) = false := by
          rw [nil_of, ba_size]
          exact decide_eq_false (fun h => hne (List.length_eq_zero_iff.1 h))
        have hbe2 : (ba (txP l[k])).toList.isEmpty = false := by
          rw [empty_of, ba_size]
          exact decide_eq_false (fun h => hne (List.length_eq_zero_iff.1 h))
        have HSn := Lib.hid hsn
        have HLn := Lib.hid hln
        generalize ba (txP l[k]) = T at HC hzp HX hbe hbe2
        unfold prV at HC
        generalize l[k] = p at e0 e1 e2 HC HX HSn
        clear hop hin hv hPT hne hsn hln hb
        by_cases hk0 : k = 0
        · have bk : decide (0 < k) = false := decide_eq_false (by omega)
          have HN2 : Hid ((t ++ T).data.toList = txL (l.take (k + 1))) := by
            show _ = _
            rw [append_list, HT.out, HSn.out, if_pos hk0, HX.out, hk0]; rfl
          have hz2 : (t ++ T).size ≤ 260000000000 := by rw [size_len, HN2.out]; exact HLn.out
          clear hk0
          go_wp2_with fail
          refine HC.out.mono ?_; rintro e w2 ⟨rfl, hb2⟩
          have HB2 := Lib.hid (below_2 HB.out hb2)
          clear hb2 e0 e1 e2
          go_wp2_with fail
          go_roundw
          case rel => exact ⟨k + 1, _, by omega, by go_num, rfl, hz2, HN2, HG2, HB2.out⟩
          case measure => simp [intOf]; omega
        · have bk : decide (0 < k) = true := decide_eq_true (by omega)
          have HN2 : Hid ((t ++ ⟨#[10]⟩ ++ T).data.toList = txL (l.take (k + 1))) := by
            show _ = _
            rw [append_list, append_list, HT.out, HSn.out, if_neg hk0, HX.out]; simp
          have hz2 : (t ++ ⟨#[10]⟩ ++ T : ByteArray).size ≤ 260000000000 := by rw [size_len, HN2.out]; exact HLn.out
          clear hk0
          go_wp2_with fail
          refine HC.out.mono ?_; rintro e w2 ⟨rfl, hb2⟩
          have HB2 := Lib.hid (below_2 HB.out hb2)
          clear hb2 e0 e1 e2
          go_wp2_with fail
          go_roundw
          case rel => exact ⟨k + 1, _, by omega, by go_num, rfl, hz2, HN2, HG2, HB2.out⟩
          case measure => simp [intOf]; omega
      · have hPT : procT l[k] = [] := by unfold procT; rw [if_neg hv]
        rw [hPT] at HC
        have HV : Hid (progT l = []) := progT_bad (List.getElem_mem hlx) hv
        have HT0 : Hid (ba [] = ⟨#[]⟩) := rfl
        rw [HT0.out] at HC
        unfold prV at HC
        generalize l[k] = p at e0 e1 e2 HC
        clear hop hin hv hPT hb
        go_wp2_with fail
        refine HC.out.mono ?_; rintro e w2 ⟨rfl, hb2⟩
        have HB2 := Lib.hid (below_2 HB.out hb2)
        clear hb2 e0 e1 e2
        go_wp2_with fail
        go_ret
        exact ⟨ret_string (ba_eq (by rw [HV.out])), HB2.out⟩
    · have hall : l.take k = l := List.take_of_length_le (by rw [HL.out]; omega)
      have HV : Hid (t.data.toList = progT l) := by
        show _ = _
        rw [HT.out, hall, progT_good (fun p hp => HG.out p (by rw [hall]; exact hp))]
      clear hall
      go_wp2_with fail
      go_ret
      exact ⟨ret_string (ba_eq HV.out), hb⟩
end Go.Proofs.YtbmdadhbkdkgmaaGreatDoor.P
