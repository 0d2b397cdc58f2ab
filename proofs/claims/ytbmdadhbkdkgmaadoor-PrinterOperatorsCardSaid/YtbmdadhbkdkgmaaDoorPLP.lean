/-
  The laws of layer 9: PrinterOperators: the walk.
-/
import Derived.Test.YtbmdadhbkdkgmaaDoorPLO
import Derived.Test.YtbmdadhbkdkgmaaDoorPLQa
import Derived.Test.YtbmdadhbkdkgmaaDoorPLQb
import Derived.Deep.CutRange
namespace Go.Proofs.YtbmdadhbkdkgmaaDoor.P
open Go.RowKit
open L (Str isName prt size_len below_2 below_box ret_bool ret_int ret_string bytes_eq append_list Own8)
open A

set_option maxHeartbeats 16000000 in
set_option maxRecDepth 100000 in
theorem operators_walk (ea : Ex) (m1 : Option Addr) (n1 : Nat) (ok1 : okE ea) (eb : Ex) (m2 : Option Addr) (n2 : Nat) (ok2 : okE eb) (ec : Ex) (m3 : Option Addr) (n3 : Nat) (ok3 : okE ec) (w : World) (ht : Tab w) (hE1 : A.Kids w m1 ea.args) (hE2 : A.Kids w m2 eb.args) (hE3 : A.Kids w m3 ec.args) :
    Calls Tryd.prog 5 #[exV ea m1 n1, exV eb m2 n2, exV ec m3 n3] w fun e' w' => e' = .returned (.bool true) ∧ Below w.heap.size w w' := by
  have HAp := Lib.hid apply_any
  have HB := Lib.hid (below_2 (below_2 (below_box w (.cells #[.int .i64 ea.op, .int .i64 ea.n, .string ea.s, .slice m1 ea.args.length n1] 28)) (below_box _ (.cells #[.int .i64 eb.op, .int .i64 eb.n, .string eb.s, .slice m2 eb.args.length n2] 28))) (below_box _ (.cells #[.int .i64 ec.op, .int .i64 ec.n, .string ec.s, .slice m3 ec.args.length n3] 28)))
  have HX1 : Hid (Bx (((w.alloc (.cells #[.int .i64 ea.op, .int .i64 ea.n, .string ea.s, .slice m1 ea.args.length n1] 28)).alloc (.cells #[.int .i64 eb.op, .int .i64 eb.n, .string eb.s, .slice m2 eb.args.length n2] 28)).alloc (.cells #[.int .i64 ec.op, .int .i64 ec.n, .string ec.s, .slice m3 ec.args.length n3] 28)) w.heap.size #[.int .i64 ea.op, .int .i64 ea.n, .string ea.s, .slice m1 ea.args.length n1] 28) := ((Bx.new w _ _).below (below_box _ _)).below (below_box _ _)
  have HX2 : Hid (Bx (((w.alloc (.cells #[.int .i64 ea.op, .int .i64 ea.n, .string ea.s, .slice m1 ea.args.length n1] 28)).alloc (.cells #[.int .i64 eb.op, .int .i64 eb.n, .string eb.s, .slice m2 eb.args.length n2] 28)).alloc (.cells #[.int .i64 ec.op, .int .i64 ec.n, .string ec.s, .slice m3 ec.args.length n3] 28)) (w.heap.size + 1) #[.int .i64 eb.op, .int .i64 eb.n, .string eb.s, .slice m2 eb.args.length n2] 28) := by
    have := (Bx.new (w.alloc (.cells #[.int .i64 ea.op, .int .i64 ea.n, .string ea.s, .slice m1 ea.args.length n1] 28)) #[.int .i64 eb.op, .int .i64 eb.n, .string eb.s, .slice m2 eb.args.length n2] 28).below (below_box _ (.cells #[.int .i64 ec.op, .int .i64 ec.n, .string ec.s, .slice m3 ec.args.length n3] 28))
    unfold Hid; simpa using this
  have HX3 : Hid (Bx (((w.alloc (.cells #[.int .i64 ea.op, .int .i64 ea.n, .string ea.s, .slice m1 ea.args.length n1] 28)).alloc (.cells #[.int .i64 eb.op, .int .i64 eb.n, .string eb.s, .slice m2 eb.args.length n2] 28)).alloc (.cells #[.int .i64 ec.op, .int .i64 ec.n, .string ec.s, .slice m3 ec.args.length n3] 28)) (w.heap.size + 1 + 1) #[.int .i64 ec.op, .int .i64 ec.n, .string ec.s, .slice m3 ec.args.length n3] 28) := by
    have := Bx.new ((w.alloc (.cells #[.int .i64 ea.op, .int .i64 ea.n, .string ea.s, .slice m1 ea.args.length n1] 28)).alloc (.cells #[.int .i64 eb.op, .int .i64 eb.n, .string eb.s, .slice m2 eb.args.length n2] 28)) #[.int .i64 ec.op, .int .i64 ec.n, .string ec.s, .slice m3 ec.args.length n3] 28
    unfold Hid; simpa using this
  have HT := Lib.hid (ht.below HB.out)
  have HK1 := Lib.hid (hE1.below HB.out)
  have HK2 := Lib.hid (hE2.below HB.out)
  have HK3 := Lib.hid (hE3.below HB.out)
  unfold exV
  clear ht hE1 hE2 hE3
  go_enter Tryd.func5, Tryd.ntmps5
  go_upto_region 1 with fail
  generalize (((w.alloc (.cells #[.int .i64 ea.op, .int .i64 ea.n, .string ea.s, .slice m1 ea.args.length n1] 28)).alloc (.cells #[.int .i64 eb.op, .int .i64 eb.n, .string eb.s, .slice m2 eb.args.length n2] 28)).alloc (.cells #[.int .i64 ec.op, .int .i64 ec.n, .string ec.s, .slice m3 ec.args.length n3] 28)) = W0 at *
  generalize w.heap.size + 1 + 1 = p5 at *
  generalize w.heap.size + 1 = p4 at *
  generalize hp3 : w.heap.size = p3 at HX1 ⊢
  go_cut [43] from 19 to 43 (fun c wx => (c = .bool true ∨ (c = .bool false ∧ vE ea 3 = 0 ∧ vE eb 3 = 0 ∧ vE ec 3 = 0)) ∧ Hid (Below W0.heap.size W0 wx))
  case first =>
    have HB0 := Lib.hid (Below.refl W0.heap.size W0)
    by_cases hea : vE ea 3 = 0
    case neg =>
      have bx : (vE ea 3 != 0) = true := bne_iff_ne.2 hea
      clear hea
      have x := HX1.out.below HB0.out
      have c0 := x.cell 0
      have c1 := x.cell 1
      have c2 := x.cell 2
      have c3 := x.cell 3
      simp at c0 c1 c2 c3
      clear x
      go_wp2_with fail
      have HBa := Lib.hid (below_box W0 (.cells #[.int .i64 ea.op, .int .i64 ea.n, .string ea.s, .slice m1 ea.args.length n1] 28))
      have HKa : Hid (A.Kids (W0.alloc (.cells #[.int .i64 ea.op, .int .i64 ea.n, .string ea.s, .slice m1 ea.args.length n1] 28)) (some ⟨W0.heap.size, 0, none⟩) [ea]) := kids_1 (e := ea) (Bx.new _ _ _) ((HK1.out.below HB0.out).below (below_box _ _))
      refine (HAp.out _ _ _ _ _).mono ?_; rintro e' wa ⟨rfl, hba⟩
      have HKb := Lib.hid (HKa.out.below hba)
      have HBb := Lib.hid (HB0.out.trans ((below_2 HBa.out hba).mono HB0.out.size))
      clear hba HKa HBa c0 c1 c2 c3
      go_wp2_with fail
      have HKc : Hid (A.Kids (wa.alloc (.cells #[.int .i64 18, .int .i64 0, .string ⟨#[]⟩, .slice (some ⟨W0.heap.size, 0, none⟩) 1 1] 28)) (some ⟨wa.heap.size, 0, none⟩) [u1 18 ea]) := kids_1 (e := u1 18 ea) (Bx.new _ _ _) (HKb.out.below (below_box _ _))
      have HBc := Lib.hid (HBb.out.trans ((below_box wa (.cells #[.int .i64 18, .int .i64 0, .string ⟨#[]⟩, .slice (some ⟨W0.heap.size, 0, none⟩) 1 1] 28)).mono HBb.out.size))
      clear HKb HBb
      refine (HAp.out _ _ _ _ _).mono ?_; rintro e' wb ⟨rfl, hbb⟩
      have HC := Lib.hid (ovalidExpr_any (u1 18 (u1 18 ea)) (some ⟨wa.heap.size, 0, none⟩) 1 (ok_un 18 (by decide) (by decide) (ok_un 18 (by decide) (by decide) ok1)) wb (HKc.out.below hbb))
      have HBd := Lib.hid (HBc.out.trans (hbb.mono HBc.out.size))
      rw [v_not] at HC
      clear hbb HKc HBc
      generalize vE ea 3 = x at HC bx
      go_wp2_with fail
      refine HC.out.mono ?_; rintro e' w1 ⟨rfl, hbe⟩
      have HBw1 := Lib.hid (HBd.out.trans (hbe.mono HBd.out.size))
      clear hbe HBd HC
      go_wp2_with fail
      go_meet
      case rel => exact ⟨Or.inl rfl, HBw1⟩
    by_cases heb : vE eb 3 = 0
    case neg =>
      have bx : (vE eb 3 != 0) = true := bne_iff_ne.2 heb
      clear heb
      have x := HX1.out.below HB0.out
      have c0 := x.cell 0
      have c1 := x.cell 1
      have c2 := x.cell 2
      have c3 := x.cell 3
      simp at c0 c1 c2 c3
      clear x
      go_wp2_with fail
      have HBa := Lib.hid (below_box W0 (.cells #[.int .i64 ea.op, .int .i64 ea.n, .string ea.s, .slice m1 ea.args.length n1] 28))
      have HKa : Hid (A.Kids (W0.alloc (.cells #[.int .i64 ea.op, .int .i64 ea.n, .string ea.s, .slice m1 ea.args.length n1] 28)) (some ⟨W0.heap.size, 0, none⟩) [ea]) := kids_1 (e := ea) (Bx.new _ _ _) ((HK1.out.below HB0.out).below (below_box _ _))
      refine (HAp.out _ _ _ _ _).mono ?_; rintro e' wa ⟨rfl, hba⟩
      have HKb := Lib.hid (HKa.out.below hba)
      have HBb := Lib.hid (HB0.out.trans ((below_2 HBa.out hba).mono HB0.out.size))
      clear hba HKa HBa c0 c1 c2 c3
      go_wp2_with fail
      have HKc : Hid (A.Kids (wa.alloc (.cells #[.int .i64 18, .int .i64 0, .string ⟨#[]⟩, .slice (some ⟨W0.heap.size, 0, none⟩) 1 1] 28)) (some ⟨wa.heap.size, 0, none⟩) [u1 18 ea]) := kids_1 (e := u1 18 ea) (Bx.new _ _ _) (HKb.out.below (below_box _ _))
      have HBc := Lib.hid (HBb.out.trans ((below_box wa (.cells #[.int .i64 18, .int .i64 0, .string ⟨#[]⟩, .slice (some ⟨W0.heap.size, 0, none⟩) 1 1] 28)).mono HBb.out.size))
      clear HKb HBb
      refine (HAp.out _ _ _ _ _).mono ?_; rintro e' wb ⟨rfl, hbb⟩
      have HC := Lib.hid (ovalidExpr_any (u1 18 (u1 18 ea)) (some ⟨wa.heap.size, 0, none⟩) 1 (ok_un 18 (by decide) (by decide) (ok_un 18 (by decide) (by decide) ok1)) wb (HKc.out.below hbb))
      have HBd := Lib.hid (HBc.out.trans (hbb.mono HBc.out.size))
      rw [v_not] at HC
      clear hbb HKc HBc
      rw [hea] at HC
      go_wp2_with fail
      refine HC.out.mono ?_; rintro e' w1 ⟨rfl, hbe⟩
      have HBw1 := Lib.hid (HBd.out.trans (hbe.mono HBd.out.size))
      clear hbe HBd HC
      have x := HX2.out.below HBw1.out
      have c0 := x.cell 0
      have c1 := x.cell 1
      have c2 := x.cell 2
      have c3 := x.cell 3
      simp at c0 c1 c2 c3
      clear x
      go_wp2_with fail
      have HBa := Lib.hid (below_box w1 (.cells #[.int .i64 eb.op, .int .i64 eb.n, .string eb.s, .slice m2 eb.args.length n2] 28))
      have HKa : Hid (A.Kids (w1.alloc (.cells #[.int .i64 eb.op, .int .i64 eb.n, .string eb.s, .slice m2 eb.args.length n2] 28)) (some ⟨w1.heap.size, 0, none⟩) [eb]) := kids_1 (e := eb) (Bx.new _ _ _) ((HK2.out.below HBw1.out).below (below_box _ _))
      refine (HAp.out _ _ _ _ _).mono ?_; rintro e' wa ⟨rfl, hba⟩
      have HKb := Lib.hid (HKa.out.below hba)
      have HBb := Lib.hid (HBw1.out.trans ((below_2 HBa.out hba).mono HBw1.out.size))
      clear hba HKa HBa c0 c1 c2 c3
      go_wp2_with fail
      have HKc : Hid (A.Kids (wa.alloc (.cells #[.int .i64 18, .int .i64 0, .string ⟨#[]⟩, .slice (some ⟨w1.heap.size, 0, none⟩) 1 1] 28)) (some ⟨wa.heap.size, 0, none⟩) [u1 18 eb]) := kids_1 (e := u1 18 eb) (Bx.new _ _ _) (HKb.out.below (below_box _ _))
      have HBc := Lib.hid (HBb.out.trans ((below_box wa (.cells #[.int .i64 18, .int .i64 0, .string ⟨#[]⟩, .slice (some ⟨w1.heap.size, 0, none⟩) 1 1] 28)).mono HBb.out.size))
      clear HKb HBb
      refine (HAp.out _ _ _ _ _).mono ?_; rintro e' wb ⟨rfl, hbb⟩
      have HC := Lib.hid (ovalidExpr_any (u1 18 (u1 18 eb)) (some ⟨wa.heap.size, 0, none⟩) 1 (ok_un 18 (by decide) (by decide) (ok_un 18 (by decide) (by decide) ok2)) wb (HKc.out.below hbb))
      have HBd := Lib.hid (HBc.out.trans (hbb.mono HBc.out.size))
      rw [v_not] at HC
      clear hbb HKc HBc
      generalize vE eb 3 = x at HC bx
      go_wp2_with fail
      refine HC.out.mono ?_; rintro e' w2 ⟨rfl, hbe⟩
      have HBw2 := Lib.hid (HBd.out.trans (hbe.mono HBd.out.size))
      clear hbe HBd HC
      go_wp2_with fail
      go_meet
      case rel => exact ⟨Or.inl rfl, HBw2⟩
    by_cases hec : vE ec 3 = 0
    case neg =>
      have bx : (vE ec 3 != 0) = true := bne_iff_ne.2 hec
      clear hec
      have x := HX1.out.below HB0.out
      have c0 := x.cell 0
      have c1 := x.cell 1
      have c2 := x.cell 2
      have c3 := x.cell 3
      simp at c0 c1 c2 c3
      clear x
      go_wp2_with fail
      have HBa := Lib.hid (below_box W0 (.cells #[.int .i64 ea.op, .int .i64 ea.n, .string ea.s, .slice m1 ea.args.length n1] 28))
      have HKa : Hid (A.Kids (W0.alloc (.cells #[.int .i64 ea.op, .int .i64 ea.n, .string ea.s, .slice m1 ea.args.length n1] 28)) (some ⟨W0.heap.size, 0, none⟩) [ea]) := kids_1 (e := ea) (Bx.new _ _ _) ((HK1.out.below HB0.out).below (below_box _ _))
      refine (HAp.out _ _ _ _ _).mono ?_; rintro e' wa ⟨rfl, hba⟩
      have HKb := Lib.hid (HKa.out.below hba)
      have HBb := Lib.hid (HB0.out.trans ((below_2 HBa.out hba).mono HB0.out.size))
      clear hba HKa HBa c0 c1 c2 c3
      go_wp2_with fail
      have HKc : Hid (A.Kids (wa.alloc (.cells #[.int .i64 18, .int .i64 0, .string ⟨#[]⟩, .slice (some ⟨W0.heap.size, 0, none⟩) 1 1] 28)) (some ⟨wa.heap.size, 0, none⟩) [u1 18 ea]) := kids_1 (e := u1 18 ea) (Bx.new _ _ _) (HKb.out.below (below_box _ _))
      have HBc := Lib.hid (HBb.out.trans ((below_box wa (.cells #[.int .i64 18, .int .i64 0, .string ⟨#[]⟩, .slice (some ⟨W0.heap.size, 0, none⟩) 1 1] 28)).mono HBb.out.size))
      clear HKb HBb
      refine (HAp.out _ _ _ _ _).mono ?_; rintro e' wb ⟨rfl, hbb⟩
      have HC := Lib.hid (ovalidExpr_any (u1 18 (u1 18 ea)) (some ⟨wa.heap.size, 0, none⟩) 1 (ok_un 18 (by decide) (by decide) (ok_un 18 (by decide) (by decide) ok1)) wb (HKc.out.below hbb))
      have HBd := Lib.hid (HBc.out.trans (hbb.mono HBc.out.size))
      rw [v_not] at HC
      clear hbb HKc HBc
      rw [hea] at HC
      go_wp2_with fail
      refine HC.out.mono ?_; rintro e' w1 ⟨rfl, hbe⟩
      have HBw1 := Lib.hid (HBd.out.trans (hbe.mono HBd.out.size))
      clear hbe HBd HC
      have x := HX2.out.below HBw1.out
      have c0 := x.cell 0
      have c1 := x.cell 1
      have c2 := x.cell 2
      have c3 := x.cell 3
      simp at c0 c1 c2 c3
      clear x
      go_wp2_with fail
      have HBa := Lib.hid (below_box w1 (.cells #[.int .i64 eb.op, .int .i64 eb.n, .string eb.s, .slice m2 eb.args.length n2] 28))
      have HKa : Hid (A.Kids (w1.alloc (.cells #[.int .i64 eb.op, .int .i64 eb.n, .string eb.s, .slice m2 eb.args.length n2] 28)) (some ⟨w1.heap.size, 0, none⟩) [eb]) := kids_1 (e := eb) (Bx.new _ _ _) ((HK2.out.below HBw1.out).below (below_box _ _))
      refine (HAp.out _ _ _ _ _).mono ?_; rintro e' wa ⟨rfl, hba⟩
      have HKb := Lib.hid (HKa.out.below hba)
      have HBb := Lib.hid (HBw1.out.trans ((below_2 HBa.out hba).mono HBw1.out.size))
      clear hba HKa HBa c0 c1 c2 c3
      go_wp2_with fail
      have HKc : Hid (A.Kids (wa.alloc (.cells #[.int .i64 18, .int .i64 0, .string ⟨#[]⟩, .slice (some ⟨w1.heap.size, 0, none⟩) 1 1] 28)) (some ⟨wa.heap.size, 0, none⟩) [u1 18 eb]) := kids_1 (e := u1 18 eb) (Bx.new _ _ _) (HKb.out.below (below_box _ _))
      have HBc := Lib.hid (HBb.out.trans ((below_box wa (.cells #[.int .i64 18, .int .i64 0, .string ⟨#[]⟩, .slice (some ⟨w1.heap.size, 0, none⟩) 1 1] 28)).mono HBb.out.size))
      clear HKb HBb
      refine (HAp.out _ _ _ _ _).mono ?_; rintro e' wb ⟨rfl, hbb⟩
      have HC := Lib.hid (ovalidExpr_any (u1 18 (u1 18 eb)) (some ⟨wa.heap.size, 0, none⟩) 1 (ok_un 18 (by decide) (by decide) (ok_un 18 (by decide) (by decide) ok2)) wb (HKc.out.below hbb))
      have HBd := Lib.hid (HBc.out.trans (hbb.mono HBc.out.size))
      rw [v_not] at HC
      clear hbb HKc HBc
      rw [heb] at HC
      go_wp2_with fail
      refine HC.out.mono ?_; rintro e' w2 ⟨rfl, hbe⟩
      have HBw2 := Lib.hid (HBd.out.trans (hbe.mono HBd.out.size))
      clear hbe HBd HC
      have x := HX3.out.below HBw2.out
      have c0 := x.cell 0
      have c1 := x.cell 1
      have c2 := x.cell 2
      have c3 := x.cell 3
      simp at c0 c1 c2 c3
      clear x
      go_wp2_with fail
      have HBa := Lib.hid (below_box w2 (.cells #[.int .i64 ec.op, .int .i64 ec.n, .string ec.s, .slice m3 ec.args.length n3] 28))
      have HKa : Hid (A.Kids (w2.alloc (.cells #[.int .i64 ec.op, .int .i64 ec.n, .string ec.s, .slice m3 ec.args.length n3] 28)) (some ⟨w2.heap.size, 0, none⟩) [ec]) := kids_1 (e := ec) (Bx.new _ _ _) ((HK3.out.below HBw2.out).below (below_box _ _))
      refine (HAp.out _ _ _ _ _).mono ?_; rintro e' wa ⟨rfl, hba⟩
      have HKb := Lib.hid (HKa.out.below hba)
      have HBb := Lib.hid (HBw2.out.trans ((below_2 HBa.out hba).mono HBw2.out.size))
      clear hba HKa HBa c0 c1 c2 c3
      go_wp2_with fail
      have HKc : Hid (A.Kids (wa.alloc (.cells #[.int .i64 18, .int .i64 0, .string ⟨#[]⟩, .slice (some ⟨w2.heap.size, 0, none⟩) 1 1] 28)) (some ⟨wa.heap.size, 0, none⟩) [u1 18 ec]) := kids_1 (e := u1 18 ec) (Bx.new _ _ _) (HKb.out.below (below_box _ _))
      have HBc := Lib.hid (HBb.out.trans ((below_box wa (.cells #[.int .i64 18, .int .i64 0, .string ⟨#[]⟩, .slice (some ⟨w2.heap.size, 0, none⟩) 1 1] 28)).mono HBb.out.size))
      clear HKb HBb
      refine (HAp.out _ _ _ _ _).mono ?_; rintro e' wb ⟨rfl, hbb⟩
      have HC := Lib.hid (ovalidExpr_any (u1 18 (u1 18 ec)) (some ⟨wa.heap.size, 0, none⟩) 1 (ok_un 18 (by decide) (by decide) (ok_un 18 (by decide) (by decide) ok3)) wb (HKc.out.below hbb))
      have HBd := Lib.hid (HBc.out.trans (hbb.mono HBc.out.size))
      rw [v_not] at HC
      clear hbb HKc HBc
      generalize vE ec 3 = x at HC bx
      go_wp2_with fail
      refine HC.out.mono ?_; rintro e' w3 ⟨rfl, hbe⟩
      have HBw3 := Lib.hid (HBd.out.trans (hbe.mono HBd.out.size))
      clear hbe HBd HC
      go_wp2_with fail
      go_meet
      case rel => exact ⟨Or.inl rfl, HBw3⟩
    have x := HX1.out.below HB0.out
    have c0 := x.cell 0
    have c1 := x.cell 1
    have c2 := x.cell 2
    have c3 := x.cell 3
    simp at c0 c1 c2 c3
    clear x
    go_wp2_with fail
    have HBa := Lib.hid (below_box W0 (.cells #[.int .i64 ea.op, .int .i64 ea.n, .string ea.s, .slice m1 ea.args.length n1] 28))
    have HKa : Hid (A.Kids (W0.alloc (.cells #[.int .i64 ea.op, .int .i64 ea.n, .string ea.s, .slice m1 ea.args.length n1] 28)) (some ⟨W0.heap.size, 0, none⟩) [ea]) := kids_1 (e := ea) (Bx.new _ _ _) ((HK1.out.below HB0.out).below (below_box _ _))
    refine (HAp.out _ _ _ _ _).mono ?_; rintro e' wa ⟨rfl, hba⟩
    have HKb := Lib.hid (HKa.out.below hba)
    have HBb := Lib.hid (HB0.out.trans ((below_2 HBa.out hba).mono HB0.out.size))
    clear hba HKa HBa c0 c1 c2 c3
    go_wp2_with fail
    have HKc : Hid (A.Kids (wa.alloc (.cells #[.int .i64 18, .int .i64 0, .string ⟨#[]⟩, .slice (some ⟨W0.heap.size, 0, none⟩) 1 1] 28)) (some ⟨wa.heap.size, 0, none⟩) [u1 18 ea]) := kids_1 (e := u1 18 ea) (Bx.new _ _ _) (HKb.out.below (below_box _ _))
    have HBc := Lib.hid (HBb.out.trans ((below_box wa (.cells #[.int .i64 18, .int .i64 0, .string ⟨#[]⟩, .slice (some ⟨W0.heap.size, 0, none⟩) 1 1] 28)).mono HBb.out.size))
    clear HKb HBb
    refine (HAp.out _ _ _ _ _).mono ?_; rintro e' wb ⟨rfl, hbb⟩
    have HC := Lib.hid (ovalidExpr_any (u1 18 (u1 18 ea)) (some ⟨wa.heap.size, 0, none⟩) 1 (ok_un 18 (by decide) (by decide) (ok_un 18 (by decide) (by decide) ok1)) wb (HKc.out.below hbb))
    have HBd := Lib.hid (HBc.out.trans (hbb.mono HBc.out.size))
    rw [v_not] at HC
    clear hbb HKc HBc
    rw [hea] at HC
    go_wp2_with fail
    refine HC.out.mono ?_; rintro e' w1 ⟨rfl, hbe⟩
    have HBw1 := Lib.hid (HBd.out.trans (hbe.mono HBd.out.size))
    clear hbe HBd HC
    have x := HX2.out.below HBw1.out
    have c0 := x.cell 0
    have c1 := x.cell 1
    have c2 := x.cell 2
    have c3 := x.cell 3
    simp at c0 c1 c2 c3
    clear x
    go_wp2_with fail
    have HBa := Lib.hid (below_box w1 (.cells #[.int .i64 eb.op, .int .i64 eb.n, .string eb.s, .slice m2 eb.args.length n2] 28))
    have HKa : Hid (A.Kids (w1.alloc (.cells #[.int .i64 eb.op, .int .i64 eb.n, .string eb.s, .slice m2 eb.args.length n2] 28)) (some ⟨w1.heap.size, 0, none⟩) [eb]) := kids_1 (e := eb) (Bx.new _ _ _) ((HK2.out.below HBw1.out).below (below_box _ _))
    refine (HAp.out _ _ _ _ _).mono ?_; rintro e' wa ⟨rfl, hba⟩
    have HKb := Lib.hid (HKa.out.below hba)
    have HBb := Lib.hid (HBw1.out.trans ((below_2 HBa.out hba).mono HBw1.out.size))
    clear hba HKa HBa c0 c1 c2 c3
    go_wp2_with fail
    have HKc : Hid (A.Kids (wa.alloc (.cells #[.int .i64 18, .int .i64 0, .string ⟨#[]⟩, .slice (some ⟨w1.heap.size, 0, none⟩) 1 1] 28)) (some ⟨wa.heap.size, 0, none⟩) [u1 18 eb]) := kids_1 (e := u1 18 eb) (Bx.new _ _ _) (HKb.out.below (below_box _ _))
    have HBc := Lib.hid (HBb.out.trans ((below_box wa (.cells #[.int .i64 18, .int .i64 0, .string ⟨#[]⟩, .slice (some ⟨w1.heap.size, 0, none⟩) 1 1] 28)).mono HBb.out.size))
    clear HKb HBb
    refine (HAp.out _ _ _ _ _).mono ?_; rintro e' wb ⟨rfl, hbb⟩
    have HC := Lib.hid (ovalidExpr_any (u1 18 (u1 18 eb)) (some ⟨wa.heap.size, 0, none⟩) 1 (ok_un 18 (by decide) (by decide) (ok_un 18 (by decide) (by decide) ok2)) wb (HKc.out.below hbb))
    have HBd := Lib.hid (HBc.out.trans (hbb.mono HBc.out.size))
    rw [v_not] at HC
    clear hbb HKc HBc
    rw [heb] at HC
    go_wp2_with fail
    refine HC.out.mono ?_; rintro e' w2 ⟨rfl, hbe⟩
    have HBw2 := Lib.hid (HBd.out.trans (hbe.mono HBd.out.size))
    clear hbe HBd HC
    have x := HX3.out.below HBw2.out
    have c0 := x.cell 0
    have c1 := x.cell 1
    have c2 := x.cell 2
    have c3 := x.cell 3
    simp at c0 c1 c2 c3
    clear x
    go_wp2_with fail
    have HBa := Lib.hid (below_box w2 (.cells #[.int .i64 ec.op, .int .i64 ec.n, .string ec.s, .slice m3 ec.args.length n3] 28))
    have HKa : Hid (A.Kids (w2.alloc (.cells #[.int .i64 ec.op, .int .i64 ec.n, .string ec.s, .slice m3 ec.args.length n3] 28)) (some ⟨w2.heap.size, 0, none⟩) [ec]) := kids_1 (e := ec) (Bx.new _ _ _) ((HK3.out.below HBw2.out).below (below_box _ _))
    refine (HAp.out _ _ _ _ _).mono ?_; rintro e' wa ⟨rfl, hba⟩
    have HKb := Lib.hid (HKa.out.below hba)
    have HBb := Lib.hid (HBw2.out.trans ((below_2 HBa.out hba).mono HBw2.out.size))
    clear hba HKa HBa c0 c1 c2 c3
    go_wp2_with fail
    have HKc : Hid (A.Kids (wa.alloc (.cells #[.int .i64 18, .int .i64 0, .string ⟨#[]⟩, .slice (some ⟨w2.heap.size, 0, none⟩) 1 1] 28)) (some ⟨wa.heap.size, 0, none⟩) [u1 18 ec]) := kids_1 (e := u1 18 ec) (Bx.new _ _ _) (HKb.out.below (below_box _ _))
    have HBc := Lib.hid (HBb.out.trans ((below_box wa (.cells #[.int .i64 18, .int .i64 0, .string ⟨#[]⟩, .slice (some ⟨w2.heap.size, 0, none⟩) 1 1] 28)).mono HBb.out.size))
    clear HKb HBb
    refine (HAp.out _ _ _ _ _).mono ?_; rintro e' wb ⟨rfl, hbb⟩
    have HC := Lib.hid (ovalidExpr_any (u1 18 (u1 18 ec)) (some ⟨wa.heap.size, 0, none⟩) 1 (ok_un 18 (by decide) (by decide) (ok_un 18 (by decide) (by decide) ok3)) wb (HKc.out.below hbb))
    have HBd := Lib.hid (HBc.out.trans (hbb.mono HBc.out.size))
    rw [v_not] at HC
    clear hbb HKc HBc
    rw [hec] at HC
    go_wp2_with fail
    refine HC.out.mono ?_; rintro e' w3 ⟨rfl, hbe⟩
    have HBw3 := Lib.hid (HBd.out.trans (hbe.mono HBd.out.size))
    clear hbe HBd HC
    go_wp2_with fail
    go_meet
    case rel => exact ⟨Or.inr ⟨rfl, hea, heb, hec⟩, HBw3⟩
  case rest =>
    obtain ⟨hc, HBc⟩ := hcut
    rcases hc with rfl | ⟨rfl, hea, heb, hec⟩
    · have HX := Lib.hid (examples_any wc (HT.out.below HBc.out))
      have HB7 := Lib.hid (HB.out.trans (HBc.out.mono HB.out.size))
      clear HX1 HX2 HX3 HK1 HK2 HK3 HT HB HBc
      go_wp2_with fail
      refine HX.out.mono ?_; rintro e' w7 ⟨rfl, hb7⟩
      have HB8 := Lib.hid (HB7.out.trans (hb7.mono HB7.out.size))
      clear hb7
      go_wp2_with fail
      go_ret
      exact ⟨rfl, HB8.out⟩
    · have HXa := Lib.hid (HX1.out.below HBc.out)
      have HXb := Lib.hid (HX2.out.below HBc.out)
      have HXc := Lib.hid (HX3.out.below HBc.out)
      have HKa := Lib.hid (HK1.out.below HBc.out)
      have HKb := Lib.hid (HK2.out.below HBc.out)
      have HKc := Lib.hid (HK3.out.below HBc.out)
      have HTc := Lib.hid (HT.out.below HBc.out)
      have HBd := Lib.hid (HB.out.trans (HBc.out.mono HB.out.size))
      clear HX1 HX2 HX3 HK1 HK2 HK3 HT HB HBc hp3
      have HX1 := HXa; have HX2 := HXb; have HX3 := HXc; have HK1 := HKa; have HK2 := HKb; have HK3 := HKc; have HT := HTc; have HB := HBd
      clear HXa HXb HXc HKa HKb HKc HTc HBd
      have HVa := Lib.hid hea
      have HVb := Lib.hid heb
      have HVc := Lib.hid hec
      obtain ⟨X1, hX1⟩ : ∃ X, ba (exprT ea) = X := ⟨_, rfl⟩
      obtain ⟨X2, hX2⟩ : ∃ X, ba (exprT eb) = X := ⟨_, rfl⟩
      obtain ⟨X3, hX3⟩ : ∃ X, ba (exprT ec) = X := ⟨_, rfl⟩
      have S1 : Hid (ba (exprT (u1 20 ea)) = ⟨#[116, 101, 120, 116, 40]⟩ ++ X1 ++ ⟨#[41]⟩) := by show _ = _; rw [say_text hea, hX1]
      have S2 : Hid (ba (exprT (u1 24 eb)) = ⟨#[104, 97, 115, 40]⟩ ++ X2 ++ ⟨#[41]⟩) := by show _ = _; rw [say_has heb, hX2]
      have S3 : Hid (ba (exprT (u1 18 (u1 21 ec))) = ⟨#[110, 111, 116, 32, 108, 101, 110, 40]⟩ ++ X3 ++ ⟨#[41]⟩) := by show _ = _; rw [say_len hec, hX3]
      have z1 : X1.size ≤ 573430 := hX1 ▸ t_len ok1 (v_up ea (by decide) hea)
      have z2 : X2.size ≤ 573430 := hX2 ▸ t_len ok2 (v_up eb (by decide) heb)
      have z3 : X3.size ≤ 573430 := hX3 ▸ t_len ok3 (v_up ec (by decide) hec)
      have HS1 := Lib.hid hX1
      have HS2 := Lib.hid hX2
      have HS3 := Lib.hid hX3
      clear hX1 hX2 hX3 hea heb hec
      generalize wc = W1 at *
      go_upto_region 3 with fail
      go_cut [77] from 45 to 77 (fun c wx => c = .bool false ∧ Hid (Below W1.heap.size W1 wx))
      case first =>
        refine reg3 HAp HT HX1 HX2 HX3 HK1 HK2 HK3 ok1 ok2 ok3 S1 S2 S3 HS1 HS2 HS3 z1 z2 z3 _ ?_
        intro v0 v1 v2 v3 v4 v5 v6 v7 v8 v9 v10 v11 v12 v13 v14 v15 v16 v17 v18 v19 v20 v21 v22 v23 v24 v25 v26 v27 v28 v29 v30 v31 w5 HBx
        go_wp2_with fail
        go_meet
        case rel => exact ⟨rfl, HBx⟩
      case rest =>
        obtain ⟨rfl, HBe⟩ := hcut
        have HXa := Lib.hid (HX1.out.below HBe.out)
        have HXb := Lib.hid (HX2.out.below HBe.out)
        have HXc := Lib.hid (HX3.out.below HBe.out)
        have HKa := Lib.hid (HK1.out.below HBe.out)
        have HKb := Lib.hid (HK2.out.below HBe.out)
        have HKc := Lib.hid (HK3.out.below HBe.out)
        have HTc := Lib.hid (HT.out.below HBe.out)
        have HBd := Lib.hid (HB.out.trans (HBe.out.mono HB.out.size))
        clear HX1 HX2 HX3 HK1 HK2 HK3 HT HB HBe S1 S2 S3 HS1 HS2 HS3 z1 z2 z3
        have HX1 := HXa; have HX2 := HXb; have HX3 := HXc; have HK1 := HKa; have HK2 := HKb; have HK3 := HKc; have HT := HTc; have HB := HBd
        clear HXa HXb HXc HKa HKb HKc HTc HBd
        generalize wc = W2 at *
        go_upto_region 5 with fail
        refine reg5 HAp HX1 HX2 HX3 _ ?_
        intro v0 v2 v3 v5 v6 v8 q0 q1 q2 g0 g1 g2 w5 HBel xq0 xq1 xq2 xg0 xg1 xg2
        obtain ⟨ta, ma, na, okta, lta, vta, hxta, hkta⟩ : ∃ (t : Ex) (m : Option Addr) (n : Nat), okE t ∧ lv t.op = 9 ∧ vE t 1 = 0 ∧ Bx w5 g0 #[.int .i64 t.op, .int .i64 t.n, .string t.s, .slice m t.args.length n] 28 ∧ A.Kids w5 m t.args := ⟨u1 20 ea, some ⟨q0, 0, none⟩, 1, ok_un 20 (by decide) (by decide) ok1, rfl, (v_un 20 (by decide) (by decide)).trans (v_up ea (by decide) HVa.out), xg0, kids_1 (e := ea) xq0 (HK1.out.below HBel.out)⟩
        obtain ⟨tb, mb, nb, oktb, ltb, vtb, hxtb, hktb⟩ : ∃ (t : Ex) (m : Option Addr) (n : Nat), okE t ∧ lv t.op = 9 ∧ vE t 1 = 0 ∧ Bx w5 g1 #[.int .i64 t.op, .int .i64 t.n, .string t.s, .slice m t.args.length n] 28 ∧ A.Kids w5 m t.args := ⟨u1 22 eb, some ⟨q1, 0, none⟩, 1, ok_un 22 (by decide) (by decide) ok2, rfl, (v_un 22 (by decide) (by decide)).trans (v_up eb (by decide) HVb.out), xg1, kids_1 (e := eb) xq1 (HK2.out.below HBel.out)⟩
        obtain ⟨tc, mc, nc, oktc, ltc, vtc, hxtc, hktc⟩ : ∃ (t : Ex) (m : Option Addr) (n : Nat), okE t ∧ lv t.op = 9 ∧ vE t 1 = 0 ∧ Bx w5 g2 #[.int .i64 t.op, .int .i64 t.n, .string t.s, .slice m t.args.length n] 28 ∧ A.Kids w5 m t.args := ⟨u1 23 ec, some ⟨q2, 0, none⟩, 1, ok_un 23 (by decide) (by decide) ok3, rfl, (v_un 23 (by decide) (by decide)).trans (v_up ec (by decide) HVc.out), xg2, kids_1 (e := ec) xq2 (HK3.out.below HBel.out)⟩
        have HXta := Lib.hid hxta
        have HKta := Lib.hid hkta
        have HOta := Lib.hid okta
        have HLta := Lib.hid lta
        have HVta := Lib.hid vta
        have HXtb := Lib.hid hxtb
        have HKtb := Lib.hid hktb
        have HOtb := Lib.hid oktb
        have HLtb := Lib.hid ltb
        have HVtb := Lib.hid vtb
        have HXtc := Lib.hid hxtc
        have HKtc := Lib.hid hktc
        have HOtc := Lib.hid oktc
        have HLtc := Lib.hid ltc
        have HVtc := Lib.hid vtc
        have HTe := Lib.hid (HT.out.below HBel.out)
        have HBf := Lib.hid (HB.out.trans (HBel.out.mono HB.out.size))
        clear HBel xq0 xq1 xq2 xg0 xg1 xg2 hxta hxtb hxtc hkta hktb hktc okta oktb oktc lta ltb ltc vta vtb vtc
        clear HX1 HX2 HX3 HK1 HK2 HK3 HT HB HVa HVb HVc
        go_upto_region 6 with fail
        have c0g := fun d os => cell_regrown (HXta.out.cell 0) d os
        have c1g := fun d os => cell_regrown (HXta.out.cell 1) d os
        have c2g := fun d os => cell_regrown (HXta.out.cell 2) d os
        have c3g := fun d os => cell_regrown (HXta.out.cell 3) d os
        have d0g := fun d os => cell_regrown (HXtb.out.cell 0) d os
        have d1g := fun d os => cell_regrown (HXtb.out.cell 1) d os
        have d2g := fun d os => cell_regrown (HXtb.out.cell 2) d os
        have d3g := fun d os => cell_regrown (HXtb.out.cell 3) d os
        have f0g := fun d os => cell_regrown (HXtc.out.cell 0) d os
        have f1g := fun d os => cell_regrown (HXtc.out.cell 1) d os
        have f2g := fun d os => cell_regrown (HXtc.out.cell 2) d os
        have f3g := fun d os => cell_regrown (HXtc.out.cell 3) d os
        simp at c0g c1g c2g c3g d0g d1g d2g d3g f0g f1g f2g f3g
        have H1 := Lib.hid (fun (d : Nat) (os : Array Obj) => Calls.regrown_of (d := d) (os := os) (oexpr_any ta ma na HOta.out _ (HTe.out.below (below_regrown _ d os)) (HKta.out.below (below_regrown _ d os))))
        have H2 := Lib.hid (fun (d : Nat) (os : Array Obj) => Calls.regrown_of (d := d) (os := os) (oexpr_any tb mb nb HOtb.out _ (HTe.out.below (below_regrown _ d os)) (HKtb.out.below (below_regrown _ d os))))
        have H3 := Lib.hid (fun (d : Nat) (os : Array Obj) => Calls.regrown_of (d := d) (os := os) (oexpr_any tc mc nc HOtc.out _ (HTe.out.below (below_regrown _ d os)) (HKtc.out.below (below_regrown _ d os))))
        unfold exV at H1 H2 H3
        obtain ⟨X, hX⟩ : ∃ X, ba (exprT ta) = X := ⟨_, rfl⟩
        have zX : X.size ≤ 573430 := hX ▸ t_len HOta.out HVta.out
        have HSX := Lib.hid hX
        rw [hX] at H1
        clear hX
        obtain ⟨Y, hY⟩ : ∃ X, ba (exprT tb) = X := ⟨_, rfl⟩
        have zY : Y.size ≤ 573430 := hY ▸ t_len HOtb.out HVtb.out
        have HSY := Lib.hid hY
        rw [hY] at H2
        clear hY
        obtain ⟨Z, hZ⟩ : ∃ X, ba (exprT tc) = X := ⟨_, rfl⟩
        have zZ : Z.size ≤ 573430 := hZ ▸ t_len HOtc.out HVtc.out
        have HSZ := Lib.hid hZ
        rw [hZ] at H3
        clear hZ
        refine wp_region_quiet_below (by kernel_rfl) (by kernel_rfl) ?_
        repeat (go_big_quiet_step (with_reducible first | exact H1.out _ _ | exact H2.out _ _ | exact H3.out _ _))
        refine wpQuiet_nil ?_
        intro w6 hw'
        obtain ⟨⟨dq, osq⟩, hw2⟩ := hw'
        have hb4 := below_now hw2
        have HB6 := Lib.hid hb4
        clear hw2 hb4
        clear H1 H2 H3 c0g c1g c2g c3g d0g d1g d2g d3g f0g f1g f2g f3g
        go_upto_region 8 with fail
        have HXtap := Lib.hid (HXta.out.below HB6.out)
        have HXtbp := Lib.hid (HXtb.out.below HB6.out)
        have HXtcp := Lib.hid (HXtc.out.below HB6.out)
        have HKtap := Lib.hid (HKta.out.below HB6.out)
        have HKtbp := Lib.hid (HKtb.out.below HB6.out)
        have HKtcp := Lib.hid (HKtc.out.below HB6.out)
        have HTp := Lib.hid (HTe.out.below HB6.out)
        have HBp := Lib.hid (HBf.out.trans (HB6.out.mono HBf.out.size))
        clear HXta HKta HXtb HKtb HXtc HKtc HTe HBf HB6
        have hbI := below_box w6 (.cells #[.int .i64 17, .int .i64 16, .int .i64 19, .int .i64 4, .int .i64 5, .int .i64 6, .int .i64 7, .int .i64 8] 3)
        have hbS := below_box (w6.alloc (.cells #[.int .i64 17, .int .i64 16, .int .i64 19, .int .i64 4, .int .i64 5, .int .i64 6, .int .i64 7, .int .i64 8] 3)) (.cells #[.string ⟨#[111, 114]⟩, .string ⟨#[97, 110, 100]⟩, .string ⟨#[43, 43]⟩, .string ⟨#[43]⟩, .string ⟨#[45]⟩, .string ⟨#[42]⟩, .string ⟨#[47]⟩, .string ⟨#[37]⟩] 9)
        have hxI := (Bx.new w6 #[.int .i64 17, .int .i64 16, .int .i64 19, .int .i64 4, .int .i64 5, .int .i64 6, .int .i64 7, .int .i64 8] 3).below hbS
        have HXS : Hid (Bx ((w6.alloc (.cells #[.int .i64 17, .int .i64 16, .int .i64 19, .int .i64 4, .int .i64 5, .int .i64 6, .int .i64 7, .int .i64 8] 3)).alloc (.cells #[.string ⟨#[111, 114]⟩, .string ⟨#[97, 110, 100]⟩, .string ⟨#[43, 43]⟩, .string ⟨#[43]⟩, .string ⟨#[45]⟩, .string ⟨#[42]⟩, .string ⟨#[47]⟩, .string ⟨#[37]⟩] 9)) (w6.heap.size + 1) #[.string ⟨#[111, 114]⟩, .string ⟨#[97, 110, 100]⟩, .string ⟨#[43, 43]⟩, .string ⟨#[43]⟩, .string ⟨#[45]⟩, .string ⟨#[42]⟩, .string ⟨#[47]⟩, .string ⟨#[37]⟩] 9) := by
          have := Bx.new (w6.alloc (.cells #[.int .i64 17, .int .i64 16, .int .i64 19, .int .i64 4, .int .i64 5, .int .i64 6, .int .i64 7, .int .i64 8] 3)) #[.string ⟨#[111, 114]⟩, .string ⟨#[97, 110, 100]⟩, .string ⟨#[43, 43]⟩, .string ⟨#[43]⟩, .string ⟨#[45]⟩, .string ⟨#[42]⟩, .string ⟨#[47]⟩, .string ⟨#[37]⟩] 9
          unfold Hid; simpa using this
        have hbb := below_2 hbI hbS
        have HXI := Lib.hid hxI
        have HBB := Lib.hid hbb
        clear hbI hbS hxI hbb
        have HXta := Lib.hid (HXtap.out.below HBB.out)
        have HXtb := Lib.hid (HXtbp.out.below HBB.out)
        have HXtc := Lib.hid (HXtcp.out.below HBB.out)
        have HKta := Lib.hid (HKtap.out.below HBB.out)
        have HKtb := Lib.hid (HKtbp.out.below HBB.out)
        have HKtc := Lib.hid (HKtcp.out.below HBB.out)
        have HT := Lib.hid (HTp.out.below HBB.out)
        have HB := Lib.hid (HBp.out.trans (HBB.out.mono HBp.out.size))
        clear HXtap HKtap HXtbp HKtbp HXtcp HKtcp HTp HBp HBB
        generalize ((w6.alloc (.cells #[.int .i64 17, .int .i64 16, .int .i64 19, .int .i64 4, .int .i64 5, .int .i64 6, .int .i64 7, .int .i64 8] 3)).alloc (.cells #[.string ⟨#[111, 114]⟩, .string ⟨#[97, 110, 100]⟩, .string ⟨#[43, 43]⟩, .string ⟨#[43]⟩, .string ⟨#[45]⟩, .string ⟨#[42]⟩, .string ⟨#[47]⟩, .string ⟨#[37]⟩] 9)) = w7 at *
        generalize w6.heap.size + 1 = pS at *
        generalize w6.heap.size = pI at *
        generalize v0 = y0
        generalize v2 = y2
        generalize v3 = y3
        generalize v5 = y5
        generalize v6 = y6
        generalize v8 = y8
        obtain ⟨x1, hx1⟩ : ∃ x, vE (b2 17 ta (b2 17 tb tc)) 1 = x := ⟨_, rfl⟩
        obtain ⟨x2, hx2⟩ : ∃ x, vE (b2 17 (b2 17 ta tb) tc) 1 = x := ⟨_, rfl⟩
        have E1 := Lib.hid hx1
        have E2 := Lib.hid hx2
        clear hx1 hx2
        go_cut [114] from 95 to 114 (fun c wx => (c = .bool true ∨ (c = .bool false ∧ x1 = 0 ∧ x2 = 0)) ∧ Hid (Below w7.heap.size w7 wx))
        case first =>
          cases hb1 : (x1 != 0)
          case true =>
            refine reg8a HAp HXta HXtb HXtc HKta HKtb HKtc HOta HOtb HOtc E1 E2 hb1 _ ?_
            intro v0 v1 v2 v3 v4 v5 v6 v7 v8 v9 v10 v11 v12 v13 v14 v15 v16 v17 v18 w9 HBx
            go_wp2_with fail
            go_meet
            case rel => exact ⟨Or.inl rfl, HBx⟩
          case false =>
            refine reg8b HAp HXta HXtb HXtc HKta HKtb HKtc HOta HOtb HOtc E1 E2 hb1 _ ?_
            intro v0 v1 v2 v3 v4 v5 v6 v7 v8 v9 v10 v11 v12 v13 v14 v15 v16 v17 v18 w9 HBx
            go_wp2_with fail
            go_meet
            case rel =>
              refine ⟨?_, HBx⟩
              cases hb2 : (x2 != 0)
              · exact Or.inr ⟨rfl, by simpa using hb1, by simpa using hb2⟩
              · exact Or.inl rfl
        case rest =>
          obtain ⟨hc, HB8⟩ := hcut
          rcases hc with rfl | ⟨rfl, k1, k2⟩
          case inl =>
            have HXe := Lib.hid (examples_any wc (HT.out.below HB8.out))
            have HB9 := Lib.hid (HB.out.trans (HB8.out.mono HB.out.size))
            clear HXta HXtb HXtc HKta HKtb HKtc HT HB HB8 HXI HXS
            go_wp2_with fail
            refine HXe.out.mono ?_; rintro e' w9 ⟨rfl, hb9⟩
            have HB10 := Lib.hid (HB9.out.trans (hb9.mono HB9.out.size))
            clear hb9
            go_wp2_with fail
            go_ret
            exact ⟨rfl, HB10.out⟩
          case inr =>
            have H3 := Lib.hid (three_of HLta.out HLtb.out HLtc.out (E1.out.trans k1) (E2.out.trans k2))
            clear k1 k2 E1 E2
            have HXtap := Lib.hid (HXta.out.below HB8.out)
            have HXtbp := Lib.hid (HXtb.out.below HB8.out)
            have HXtcp := Lib.hid (HXtc.out.below HB8.out)
            have HKtap := Lib.hid (HKta.out.below HB8.out)
            have HKtbp := Lib.hid (HKtb.out.below HB8.out)
            have HKtcp := Lib.hid (HKtc.out.below HB8.out)
            have HXIp := Lib.hid (HXI.out.below HB8.out)
            have HXSp := Lib.hid (HXS.out.below HB8.out)
            have HTp := Lib.hid (HT.out.below HB8.out)
            have HBp := Lib.hid (HB.out.trans (HB8.out.mono HB.out.size))
            clear HXta HKta HXtb HKtb HXtc HKtc HXI HXS HT HB HB8
            generalize wc = w8 at *
            go_wp2_with fail
            go_loopw [15] (fun s wr => ∃ k : Nat, k ≤ 8 ∧ s = .int .i64 k ∧ Hid (Below w8.heap.size w8 wr)) (fun s _ => 8 - (intOf s).toNat)
            case atStart => exact ⟨0, Nat.zero_le _, rfl, Below.refl _ _⟩
            case round =>
              obtain ⟨k, hk, rfl, HBr⟩ := hrel
              have HXta := Lib.hid (HXtap.out.below HBr.out)
              have HXtb := Lib.hid (HXtbp.out.below HBr.out)
              have HXtc := Lib.hid (HXtcp.out.below HBr.out)
              have HKta := Lib.hid (HKtap.out.below HBr.out)
              have HKtb := Lib.hid (HKtbp.out.below HBr.out)
              have HKtc := Lib.hid (HKtcp.out.below HBr.out)
              have HXI := Lib.hid (HXIp.out.below HBr.out)
              have HXS := Lib.hid (HXSp.out.below HBr.out)
              have HT := Lib.hid (HTp.out.below HBr.out)
              have HB := Lib.hid (HBp.out.trans (HBr.out.mono HBp.out.size))
              clear HXtap HKtap HXtbp HKtbp HXtcp HKtcp HXIp HXSp HTp HBp
              by_cases hlt : k < 8
              · skip
                obtain ⟨o, s, h4, h19, h9, h18, hl4, hs, hz, hI, hS⟩ := op_at hlt HXI.out HXS.out
                have HI := Lib.hid (fun (w' : World) (hb : Below wr.heap.size wr w') => (hb.cell (block_lt_of_cell hI)).trans hI)
                have HS := Lib.hid (fun (w' : World) (hb : Below wr.heap.size wr w') => (hb.cell (block_lt_of_cell hS)).trans hS)
                clear hI hS HXI HXS
                obtain ⟨A1, eA1⟩ : ∃ A, X ++ ⟨#[32]⟩ = A := ⟨_, rfl⟩
                have zA1 : A1.size ≤ 573440 := by
                  have l1 : (⟨#[32]⟩ : ByteArray).size = 1 := rfl
                  have l2 : (⟨#[32, 40]⟩ : ByteArray).size = 2 := rfl
                  have l3 : (⟨#[41]⟩ : ByteArray).size = 1 := rfl
                  rw [← eA1, ByteArray.size_append]; omega
                have HA1 := Lib.hid eA1
                obtain ⟨A2, eA2⟩ : ∃ A, A1 ++ s = A := ⟨_, rfl⟩
                have zA2 : A2.size ≤ 573450 := by
                  have l1 : (⟨#[32]⟩ : ByteArray).size = 1 := rfl
                  have l2 : (⟨#[32, 40]⟩ : ByteArray).size = 2 := rfl
                  have l3 : (⟨#[41]⟩ : ByteArray).size = 1 := rfl
                  rw [← eA2, ByteArray.size_append]; omega
                have HA2 := Lib.hid eA2
                obtain ⟨A3, eA3⟩ : ∃ A, A2 ++ ⟨#[32]⟩ = A := ⟨_, rfl⟩
                have zA3 : A3.size ≤ 573460 := by
                  have l1 : (⟨#[32]⟩ : ByteArray).size = 1 := rfl
                  have l2 : (⟨#[32, 40]⟩ : ByteArray).size = 2 := rfl
                  have l3 : (⟨#[41]⟩ : ByteArray).size = 1 := rfl
                  rw [← eA3, ByteArray.size_append]; omega
                have HA3 := Lib.hid eA3
                obtain ⟨A4, eA4⟩ : ∃ A, A3 ++ Y = A := ⟨_, rfl⟩
                have zA4 : A4.size ≤ 1200000 := by
                  have l1 : (⟨#[32]⟩ : ByteArray).size = 1 := rfl
                  have l2 : (⟨#[32, 40]⟩ : ByteArray).size = 2 := rfl
                  have l3 : (⟨#[41]⟩ : ByteArray).size = 1 := rfl
                  rw [← eA4, ByteArray.size_append]; omega
                have HA4 := Lib.hid eA4
                obtain ⟨A5, eA5⟩ : ∃ A, A4 ++ ⟨#[32]⟩ = A := ⟨_, rfl⟩
                have zA5 : A5.size ≤ 1200010 := by
                  have l1 : (⟨#[32]⟩ : ByteArray).size = 1 := rfl
                  have l2 : (⟨#[32, 40]⟩ : ByteArray).size = 2 := rfl
                  have l3 : (⟨#[41]⟩ : ByteArray).size = 1 := rfl
                  rw [← eA5, ByteArray.size_append]; omega
                have HA5 := Lib.hid eA5
                obtain ⟨A6, eA6⟩ : ∃ A, A5 ++ s = A := ⟨_, rfl⟩
                have zA6 : A6.size ≤ 1200020 := by
                  have l1 : (⟨#[32]⟩ : ByteArray).size = 1 := rfl
                  have l2 : (⟨#[32, 40]⟩ : ByteArray).size = 2 := rfl
                  have l3 : (⟨#[41]⟩ : ByteArray).size = 1 := rfl
                  rw [← eA6, ByteArray.size_append]; omega
                have HA6 := Lib.hid eA6
                obtain ⟨A7, eA7⟩ : ∃ A, A6 ++ ⟨#[32]⟩ = A := ⟨_, rfl⟩
                have zA7 : A7.size ≤ 1200030 := by
                  have l1 : (⟨#[32]⟩ : ByteArray).size = 1 := rfl
                  have l2 : (⟨#[32, 40]⟩ : ByteArray).size = 2 := rfl
                  have l3 : (⟨#[41]⟩ : ByteArray).size = 1 := rfl
                  rw [← eA7, ByteArray.size_append]; omega
                have HA7 := Lib.hid eA7
                obtain ⟨A8, eA8⟩ : ∃ A, A7 ++ Z = A := ⟨_, rfl⟩
                have zA8 : A8.size ≤ 1800000 := by
                  have l1 : (⟨#[32]⟩ : ByteArray).size = 1 := rfl
                  have l2 : (⟨#[32, 40]⟩ : ByteArray).size = 2 := rfl
                  have l3 : (⟨#[41]⟩ : ByteArray).size = 1 := rfl
                  rw [← eA8, ByteArray.size_append]; omega
                have HA8 := Lib.hid eA8
                obtain ⟨B3, eB3⟩ : ∃ A, A2 ++ ⟨#[32, 40]⟩ = A := ⟨_, rfl⟩
                have zB3 : B3.size ≤ 573460 := by
                  have l1 : (⟨#[32]⟩ : ByteArray).size = 1 := rfl
                  have l2 : (⟨#[32, 40]⟩ : ByteArray).size = 2 := rfl
                  have l3 : (⟨#[41]⟩ : ByteArray).size = 1 := rfl
                  rw [← eB3, ByteArray.size_append]; omega
                have HB3 := Lib.hid eB3
                obtain ⟨B4, eB4⟩ : ∃ A, B3 ++ Y = A := ⟨_, rfl⟩
                have zB4 : B4.size ≤ 1200000 := by
                  have l1 : (⟨#[32]⟩ : ByteArray).size = 1 := rfl
                  have l2 : (⟨#[32, 40]⟩ : ByteArray).size = 2 := rfl
                  have l3 : (⟨#[41]⟩ : ByteArray).size = 1 := rfl
                  rw [← eB4, ByteArray.size_append]; omega
                have HB4 := Lib.hid eB4
                obtain ⟨B5, eB5⟩ : ∃ A, B4 ++ ⟨#[32]⟩ = A := ⟨_, rfl⟩
                have zB5 : B5.size ≤ 1200010 := by
                  have l1 : (⟨#[32]⟩ : ByteArray).size = 1 := rfl
                  have l2 : (⟨#[32, 40]⟩ : ByteArray).size = 2 := rfl
                  have l3 : (⟨#[41]⟩ : ByteArray).size = 1 := rfl
                  rw [← eB5, ByteArray.size_append]; omega
                have HB5 := Lib.hid eB5
                obtain ⟨B6, eB6⟩ : ∃ A, B5 ++ s = A := ⟨_, rfl⟩
                have zB6 : B6.size ≤ 1200020 := by
                  have l1 : (⟨#[32]⟩ : ByteArray).size = 1 := rfl
                  have l2 : (⟨#[32, 40]⟩ : ByteArray).size = 2 := rfl
                  have l3 : (⟨#[41]⟩ : ByteArray).size = 1 := rfl
                  rw [← eB6, ByteArray.size_append]; omega
                have HB6 := Lib.hid eB6
                obtain ⟨B7, eB7⟩ : ∃ A, B6 ++ ⟨#[32]⟩ = A := ⟨_, rfl⟩
                have zB7 : B7.size ≤ 1200030 := by
                  have l1 : (⟨#[32]⟩ : ByteArray).size = 1 := rfl
                  have l2 : (⟨#[32, 40]⟩ : ByteArray).size = 2 := rfl
                  have l3 : (⟨#[41]⟩ : ByteArray).size = 1 := rfl
                  rw [← eB7, ByteArray.size_append]; omega
                have HB7 := Lib.hid eB7
                obtain ⟨B8, eB8⟩ : ∃ A, B7 ++ Z = A := ⟨_, rfl⟩
                have zB8 : B8.size ≤ 1800000 := by
                  have l1 : (⟨#[32]⟩ : ByteArray).size = 1 := rfl
                  have l2 : (⟨#[32, 40]⟩ : ByteArray).size = 2 := rfl
                  have l3 : (⟨#[41]⟩ : ByteArray).size = 1 := rfl
                  rw [← eB8, ByteArray.size_append]; omega
                have HB8 := Lib.hid eB8
                obtain ⟨B9, eB9⟩ : ∃ A, B8 ++ ⟨#[41]⟩ = A := ⟨_, rfl⟩
                have zB9 : B9.size ≤ 1800010 := by
                  have l1 : (⟨#[32]⟩ : ByteArray).size = 1 := rfl
                  have l2 : (⟨#[32, 40]⟩ : ByteArray).size = 2 := rfl
                  have l3 : (⟨#[41]⟩ : ByteArray).size = 1 := rfl
                  rw [← eB9, ByteArray.size_append]; omega
                have HB9 := Lib.hid eB9
                have S1 : Hid (ba (exprT (b2 o (b2 o ta tb) tc)) = A8) := by
                  show _ = _
                  rw [say_left H3.out h4 h19 h9 h18 hl4 hs, HSX.out, HSY.out, HSZ.out]
                  unfold sp
                  rw [eA1, eA2, eA3, eA4, eA5, eA6, eA7, eA8]
                have S2 : Hid (ba (exprT (b2 o ta (b2 o tb tc))) = B9) := by
                  show _ = _
                  rw [say_right H3.out h4 h19 h9 h18 hl4 hs, HSX.out, HSY.out, HSZ.out]
                  unfold sp
                  rw [eA1, eA2, eB3, eB4, eB5, eB6, eB7, eB8, eB9]
                clear eA1 eA2 eA3 eA4 eA5 eA6 eA7 eA8 eB3 eB4 eB5 eB6 eB7 eB8 eB9
                have HO1 := Lib.hid (show 0 ≤ o by omega)
                have HO2 := Lib.hid (show o ≤ 27 by omega)
                clear h4 h19 h9 h18 hl4 hs
                go_upto_region 13 with fail
                generalize decide ((k : Int) < 8) = b0
                refine reg13 HAp HXta HXtb HXtc HKta HKtb HKtc HI hlt (by omega) _ ?_
                intro v0 v1 v2 v3 v4 v5 v6 v7 v8 v9 v11 v12 v14 v15 v16 v17 v18 v19 v20 v21 v22 v23 v24 v25 v27 v29 q10 q13 q26 q28 gL gR wz HBz HXL HKL HXR HKR
                have HTz := Lib.hid (HT.out.below HBz.out)
                have HSz := Lib.hid (fun (w' : World) (hb : Below wz.heap.size wz w') => HS.out w' (HBz.out.trans (hb.mono HBz.out.size)))
                clear HI HS HT HXta HKta HXtb HKtb HXtc HKtc
                have HT := HTz
                have HS := HSz
                clear HTz HSz
                go_upto_region 14 with fail
                refine reg14 HT HXL HKL HXR HKR HS HO1 HO2 HOta HOtb HOtc S1 S2 hlt (by omega) HA1 HA2 HA3 HA4 HA5 HA6 HA7 HA8 HB3 HB4 HB5 HB6 HB7 HB8 HB9 zA1 zA2 zA3 zA4 zA5 zA6 zA7 zA8 zB3 zB4 zB5 zB6 zB7 zB8 zB9 zX zY zZ hz _ ?_
                intro z0 z1 z2 z3 z4 z5 z6 z7 z8 z9 z10 z11 z12 z13 z14 z15 z16 z17 z18 z19 z20 z21 z22 z23 z24 z25 z26 z27 z28 z29 z30 z31 z32 z33 z34 z35 z36 z37 z38 z39 z40 z41 z42 z43 z44 z45 wy HBy
                clear HXL HXR HKL HKR HS HT S1 S2
                go_wp2_with fail
                go_roundw
                case rel => exact ⟨k + 1, by omega, by go_num, HBr.out.trans ((HBz.out.trans (HBy.out.mono HBz.out.size)).mono HBr.out.size)⟩
                case measure => simp only [intOf]; omega
              · clear HXI HXS
                go_upto_region 16 with fail
                generalize decide ((k : Int) < 8) = b0
                refine reg16 HAp HXta HXtb HXtc HKta HKtb HKtc _ ?_
                intro z0 z1 z3 z4 z6 r2 r5 gL wz HBel HXL HKL
                have HXz := Lib.hid (HXta.out.below HBel.out)
                have HKz := Lib.hid (HKta.out.below HBel.out)
                have HTz := Lib.hid (HT.out.below HBel.out)
                have HBz := Lib.hid (HB.out.trans (HBel.out.mono HB.out.size))
                clear HBel HT HB HBr HXta HKta HXtb HKtb HXtc HKtc
                have HC1 := Lib.hid (oexpr_any (b2 12 (b2 12 ta tb) tc) (some ⟨r5, 0, none⟩) 2 (ok_bi 12 (by decide) (by decide) (ok_bi 12 (by decide) (by decide) HOta.out HOtb.out) HOtc.out) wz HTz.out HKL.out)
                have S1 : Hid (ba (exprT (b2 12 (b2 12 ta tb) tc)) = ⟨#[40]⟩ ++ X ++ ⟨#[32, 60, 32]⟩ ++ Y ++ ⟨#[41, 32, 60, 32]⟩ ++ Z) := by
                  show _ = _
                  rw [say_less H3.out, HSX.out, HSY.out, HSZ.out]
                have S2 : Hid (ba (exprT (u1 9 (u1 9 ta))) = ⟨#[45, 45]⟩ ++ X) := by
                  show _ = _
                  rw [say_neg H3.out, HSX.out]
                rw [S1.out] at HC1
                clear S1 H3 HKL
                have x := HXL.out
                have c0 := x.cell 0
                have c1 := x.cell 1
                have c2 := x.cell 2
                have c3 := x.cell 3
                simp at c0 c1 c2 c3
                clear x HXL
                go_wp2_with fail
                refine HC1.out.mono ?_; rintro e' w2 ⟨rfl, hb2⟩
                clear HC1 c0 c1 c2 c3
                have HX2 := Lib.hid (HXz.out.below hb2)
                have HK2 := Lib.hid (HKz.out.below hb2)
                have HT2 := Lib.hid (HTz.out.below hb2)
                have HB2 := Lib.hid (HBz.out.trans (hb2.mono HBz.out.size))
                clear HXz HKz HTz HBz hb2
                have x := HX2.out
                have c0 := x.cell 0
                have c1 := x.cell 1
                have c2 := x.cell 2
                have c3 := x.cell 3
                simp at c0 c1 c2 c3
                clear x HX2
                go_wp2_with fail
                have HBa := Lib.hid (below_box w2 (.cells #[.int .i64 ta.op, .int .i64 ta.n, .string ta.s, .slice ma ta.args.length na] 28))
                have HKa : Hid (A.Kids (w2.alloc (.cells #[.int .i64 ta.op, .int .i64 ta.n, .string ta.s, .slice ma ta.args.length na] 28)) (some ⟨w2.heap.size, 0, none⟩) [ta]) := kids_1 (e := ta) (Bx.new _ _ _) (HK2.out.below (below_box _ _))
                refine (HAp.out _ _ _ _ _).mono ?_; rintro e' wa ⟨rfl, hba⟩
                have HKb := Lib.hid (HKa.out.below hba)
                have HTb := Lib.hid (HT2.out.below (below_2 HBa.out hba))
                have HBb := Lib.hid (HB2.out.trans ((below_2 HBa.out hba).mono HB2.out.size))
                clear hba HKa HBa c0 c1 c2 c3 HK2 HT2 HB2
                go_wp2_with fail
                have HKc : Hid (A.Kids (wa.alloc (.cells #[.int .i64 9, .int .i64 0, .string ⟨#[]⟩, .slice (some ⟨w2.heap.size, 0, none⟩) 1 1] 28)) (some ⟨wa.heap.size, 0, none⟩) [u1 9 ta]) := kids_1 (e := u1 9 ta) (Bx.new _ _ _) (HKb.out.below (below_box _ _))
                have HBc := Lib.hid (HBb.out.trans ((below_box wa (.cells #[.int .i64 9, .int .i64 0, .string ⟨#[]⟩, .slice (some ⟨w2.heap.size, 0, none⟩) 1 1] 28)).mono HBb.out.size))
                have HTc := Lib.hid (HTb.out.below (below_box wa (.cells #[.int .i64 9, .int .i64 0, .string ⟨#[]⟩, .slice (some ⟨w2.heap.size, 0, none⟩) 1 1] 28)))
                clear HKb HBb HTb
                refine (HAp.out _ _ _ _ _).mono ?_; rintro e' wb ⟨rfl, hbb⟩
                have HC := Lib.hid (oexpr_any (u1 9 (u1 9 ta)) (some ⟨wa.heap.size, 0, none⟩) 1 (ok_un 9 (by decide) (by decide) (ok_un 9 (by decide) (by decide) HOta.out)) wb (HTc.out.below hbb) (HKc.out.below hbb))
                have HBd := Lib.hid (HBc.out.trans (hbb.mono HBc.out.size))
                have HTd := Lib.hid (HTc.out.below hbb)
                rw [S2.out] at HC
                clear hbb HKc HBc HTc S2
                go_wp2_with fail
                refine HC.out.mono ?_; rintro e' we ⟨rfl, hbe⟩
                have HXe := Lib.hid (examples_any we (HTd.out.below hbe))
                have HBe := Lib.hid (HBd.out.trans (hbe.mono HBd.out.size))
                clear hbe HBd HTd HC
                go_wp2_with fail
                refine HXe.out.mono ?_; rintro e' wf ⟨rfl, hbf⟩
                have HBf := Lib.hid (HBe.out.trans (hbf.mono HBe.out.size))
                clear hbf HBe HXe
                go_wp2_with fail
                go_ret
                exact ⟨rfl, HBf.out⟩
end Go.Proofs.YtbmdadhbkdkgmaaDoor.P
