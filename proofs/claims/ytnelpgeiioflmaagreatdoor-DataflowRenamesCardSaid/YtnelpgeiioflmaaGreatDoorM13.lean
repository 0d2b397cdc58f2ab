/-
  What the reference of layer 8 returns: stmt, for the operators of one kind.
  What the reference of layer 8 returns: stmt, for the operators of one kind.
  What the reference of layer 8 returns: stmt: its contract.
-/
import Derived.Test.YtnelpgeiioflmaaGreatDoorM11
import Derived.Test.YtnelpgeiioflmaaGreatDoorM12
namespace Go.Proofs.YtnelpgeiioflmaaGreatDoor.A
open Go.RowKit
open L (Str isName prt size_len below_2 below_box ret_bool ret_int eql_eq bytes_eq isName_any)

set_option maxHeartbeats 4000000 in
set_option maxRecDepth 100000 in
theorem rstmt_g6 (s : St) (a1 : Option Addr) (c1 : Nat) (a2 : Option Addr) (c2 : Nat) (a3 : Option Addr) (c3 : Nat) (a4 : Option Addr) (c4 : Nat) (d : Nat) (hd : d ≤ 1000000) (hop : s.op = 6) (hok : okS s) (w0 : World) (hks0 : StKids w0 s a1 a2 a3 a4) :
    Calls Tryz.prog 66 #[stC s a1 c1 a2 c2 a3 c3 a4 c4, .int .i64 (d : Int)] w0 fun e' w' => e' = .returned (.int .i64 (stE s d)) ∧ Below w0.heap.size w0 w' := by
  have hU : usesV s.op = .tuple #[.bool true, .bool true, .bool true, .bool true, .bool true, .bool false] := by rw [hop]; rfl
  have hUN : uN s.op = true := by rw [hop]; rfl
  have hUM : uM s.op = true := by rw [hop]; rfl
  have hUA : uA s.op = true := by rw [hop]; rfl
  have hUB : uB s.op = true := by rw [hop]; rfl
  have hUD : uD s.op = true := by rw [hop]; rfl
  have hUE : uE s.op = false := by rw [hop]; rfl
  have ho1 : decide (s.op < 1) = false := decide_eq_false (by omega)
  have ho8 : decide (8 < s.op) = false := decide_eq_false (by omega)
  have hf6 : (s.op == 6) = true := beq_iff_eq.2 (by omega)
  have hf8 : (s.op == 8) = false := beq_eq_false_iff_ne.2 (by omega)
  have hbx := below_box w0 (stO s a1 c1 a2 c2 a3 c3 a4 c4)
  have HK := Lib.hid (hks0.below hbx)
  have HB0 := Lib.hid hbx
  have HCc := Lib.hid (stO_cells w0 s a1 c1 a2 c2 a3 c3 a4 c4)
  have HUs : Hid (∀ w, Calls Tryz.prog 87 #[.int .i64 s.op] w fun e w' => e = .returned (.tuple #[.bool true, .bool true, .bool true, .bool true, .bool true, .bool false]) ∧ w' = w) := fun w => by rw [← hU]; exact ruses_any s.op w
  have HWs := Lib.hid (stW_of s a1 c1 a2 c2 a3 a4 hok)
  have hbb := bad_bools s
  rw [hUN, hUM, hUA, hUB, hUD, hUE, ho1, ho8] at hbb
  have hbm : badM s = ((decide (s.op = 6) && (decide (s.mx < 1) || decide (16 < s.mx))) || (decide (s.op = 8) && (decide (s.mx < 0) || decide (999 < s.mx)))) := rfl
  rw [← Bool.beq_eq_decide_eq, ← Bool.beq_eq_decide_eq, hf6, hf8] at hbm
  have X1 := Lib.hid (@st_bad s d)
  have X2 := Lib.hid (@st_name s d)
  have X3 := Lib.hid (@st_rest s d)
  rw [show restE s d = (if (uA s.op && !decide (vE s.a 1 = 0)) = true then vE s.a 1 else if (uB s.op && !decide (vE s.b 1 = 0)) = true then vE s.b 1 else if 12 < d then 2 else 0) from rfl, hUA, hUB] at X3
  rw [hUN] at X2 X3
  have hbl := (okS_open hok).bodyLen
  have hel := (okS_open hok).elsLen
  obtain ⟨v1, h1⟩ : ∃ v, decide (s.name.size = 0) = v := ⟨_, rfl⟩
  obtain ⟨v2, h2⟩ : ∃ v, (s.mx != 0) = v := ⟨_, rfl⟩
  obtain ⟨v3, h3⟩ : ∃ v, absent s.a = v := ⟨_, rfl⟩
  obtain ⟨v4, h4⟩ : ∃ v, absent s.b = v := ⟨_, rfl⟩
  obtain ⟨v5, h5⟩ : ∃ v, decide (0 < (s.body.length : Int)) = v := ⟨_, rfl⟩
  obtain ⟨v6, h6⟩ : ∃ v, decide (0 < (s.els.length : Int)) = v := ⟨_, rfl⟩
  have h5' : decide (0 < s.body.length) = v5 := by rw [← h5]; exact decide_eq_decide.2 (by omega)
  have h6' : decide (0 < s.els.length) = v6 := by rw [← h6]; exact decide_eq_decide.2 (by omega)
  rw [h1, h2, h3, h4, h5, h6] at hbb
  rw [h1, h3, h4] at HWs
  have hn1 := HWs.out.name
  have hn2 := HWs.out.name2
  generalize badS s = BS at X1 X2 X3 hbb
  generalize badM s = BM at X1 X2 X3 hbm
  generalize nam s.name = NM at X2 X3 HWs
  generalize vE s.a 1 = va at X3 HWs
  generalize vE s.b 1 = vb at X3 HWs
  generalize stE s d = R at X1 X2 X3 ⊢
  have HBB := Lib.hid hbb
  have HBM := Lib.hid hbm
  unfold stO at *
  unfold stC
  clear hop hU hUN hUM hUA hUB hUD hUE hok hks0 hbx hbb hbm h1 h3 h4
  have HCw := HCc
  have HBc := HB0
  have HKw := HK
  clear HCc HB0 HK
  obtain ⟨bva, hva⟩ : ∃ b, (va != 0) = b := ⟨_, rfl⟩
  obtain ⟨bvb, hvb⟩ : ∃ b, (vb != 0) = b := ⟨_, rfl⟩
  obtain ⟨bd, hdd⟩ : ∃ b, decide (12 < (d : Int)) = b := ⟨_, rfl⟩
  obtain ⟨mlo, hlo⟩ : ∃ b, decide (s.mx < 1) = b := ⟨_, rfl⟩
  obtain ⟨mhi, hhi⟩ : ∃ b, decide (16 < s.mx) = b := ⟨_, rfl⟩
  rw [hlo, hhi] at HBM
  cases v6
  case true =>
    have HV : Hid (R = 1) := X1.out (Or.inl (by rw [HBB.out]; simp))
    go_enter Tryz.func66, Tryz.ntmps66
    obtain ⟨k0, k1, k2, k3, k4, k5, k6, k7, k8, k9, k10, k11, k12⟩ := HCw.out
    go_wp2_with fail
    refine (HUs.out _).mono ?_; rintro e' w1 ⟨rfl, hww⟩
    subst hww
    simp only []
    repeat ((first | (simp only [List.append_eq, List.cons_append, List.nil_append]) | go_values | go_skip | go_guarded | go_step | go_upon | go_back); refine ?_)
    go_ret
    exact ⟨ret_int HV.out.symm, HBc.out⟩
  cases mlo
  case true =>
    have HV : Hid (R = 1) := X1.out (Or.inr (by rw [HBM.out]; simp))
    go_enter Tryz.func66, Tryz.ntmps66
    obtain ⟨k0, k1, k2, k3, k4, k5, k6, k7, k8, k9, k10, k11, k12⟩ := HCw.out
    go_wp2_with fail
    refine (HUs.out _).mono ?_; rintro e' w1 ⟨rfl, hww⟩
    subst hww
    simp only []
    repeat ((first | (simp only [List.append_eq, List.cons_append, List.nil_append]) | go_values | go_skip | go_guarded | go_step | go_upon | go_back); refine ?_)
    go_ret
    exact ⟨ret_int HV.out.symm, HBc.out⟩
  cases mhi
  case true =>
    have HV : Hid (R = 1) := X1.out (Or.inr (by rw [HBM.out]; simp))
    go_enter Tryz.func66, Tryz.ntmps66
    obtain ⟨k0, k1, k2, k3, k4, k5, k6, k7, k8, k9, k10, k11, k12⟩ := HCw.out
    go_wp2_with fail
    refine (HUs.out _).mono ?_; rintro e' w1 ⟨rfl, hww⟩
    subst hww
    simp only []
    repeat ((first | (simp only [List.append_eq, List.cons_append, List.nil_append]) | go_values | go_skip | go_guarded | go_step | go_upon | go_back); refine ?_)
    go_ret
    exact ⟨ret_int HV.out.symm, HBc.out⟩
  cases NM
  case false =>
    have hBS : BS = false := by rw [HBB.out]; simp
    have hBM : BM = false := by rw [HBM.out]; simp
    have HV : Hid (R = 7) := X2.out hBS hBM (by trivial) (by trivial)
    clear hBS hBM
    go_enter Tryz.func66, Tryz.ntmps66
    obtain ⟨k0, k1, k2, k3, k4, k5, k6, k7, k8, k9, k10, k11, k12⟩ := HCw.out
    go_wp2_with fail
    refine (HUs.out _).mono ?_; rintro e' w1 ⟨rfl, hww⟩
    subst hww
    simp only []
    repeat ((first | (simp only [List.append_eq, List.cons_append, List.nil_append]) | go_values | go_skip | go_guarded | go_step | go_upon | go_back); refine ?_)
    refine (HWs.out.nam _).mono ?_; rintro e' w2 ⟨rfl, hb2⟩
    have HBc := Lib.hid (below_2 HBc.out hb2)
    have HKw := Lib.hid (StKids.below HKw.out hb2)
    have HCw := Lib.hid (HCw.out.below hb2)
    obtain ⟨k0, k1, k2, k3, k4, k5, k6, k7, k8, k9, k10, k11, k12⟩ := HCw.out
    clear hb2
    simp only []
    repeat ((first | go_values | go_skip | go_guarded | go_step | go_upon | go_back); refine ?_)
    go_ret
    exact ⟨ret_int HV.out.symm, HBc.out⟩
  cases bva
  case true =>
    have hBS : BS = false := by rw [HBB.out]; simp
    have hBM : BM = false := by rw [HBM.out]; simp
    have hR := X3.out hBS hBM (by simp)
    have HV : Hid (R = va) := by show _ = _; rw [hR]; simp [bne_iff_ne.1 hva]
    clear hBS hBM hR
    go_enter Tryz.func66, Tryz.ntmps66
    obtain ⟨k0, k1, k2, k3, k4, k5, k6, k7, k8, k9, k10, k11, k12⟩ := HCw.out
    go_wp2_with fail
    refine (HUs.out _).mono ?_; rintro e' w1 ⟨rfl, hww⟩
    subst hww
    simp only []
    repeat ((first | (simp only [List.append_eq, List.cons_append, List.nil_append]) | go_values | go_skip | go_guarded | go_step | go_upon | go_back); refine ?_)
    refine (HWs.out.nam _).mono ?_; rintro e' w2 ⟨rfl, hb2⟩
    have HBc := Lib.hid (below_2 HBc.out hb2)
    have HKw := Lib.hid (StKids.below HKw.out hb2)
    have HCw := Lib.hid (HCw.out.below hb2)
    obtain ⟨k0, k1, k2, k3, k4, k5, k6, k7, k8, k9, k10, k11, k12⟩ := HCw.out
    clear hb2
    simp only []
    repeat ((first | go_values | go_skip | go_guarded | go_step | go_upon | go_back); refine ?_)
    refine (HWs.out.va _ HKw.out).mono ?_; rintro e' w2 ⟨rfl, hb2⟩
    have HBc := Lib.hid (below_2 HBc.out hb2)
    have HKw := Lib.hid (StKids.below HKw.out hb2)
    have HCw := Lib.hid (HCw.out.below hb2)
    obtain ⟨k0, k1, k2, k3, k4, k5, k6, k7, k8, k9, k10, k11, k12⟩ := HCw.out
    clear hb2
    simp only []
    repeat ((first | go_values | go_skip | go_guarded | go_step | go_upon | go_back); refine ?_)
    go_ret
    exact ⟨ret_int HV.out.symm, HBc.out⟩
  cases bvb
  case true =>
    have hBS : BS = false := by rw [HBB.out]; simp
    have hBM : BM = false := by rw [HBM.out]; simp
    have hR := X3.out hBS hBM (by simp)
    have HV : Hid (R = vb) := by show _ = _; rw [hR]; simp [bne_eq_false_iff_eq.1 hva, bne_iff_ne.1 hvb]
    clear hBS hBM hR
    go_enter Tryz.func66, Tryz.ntmps66
    obtain ⟨k0, k1, k2, k3, k4, k5, k6, k7, k8, k9, k10, k11, k12⟩ := HCw.out
    go_wp2_with fail
    refine (HUs.out _).mono ?_; rintro e' w1 ⟨rfl, hww⟩
    subst hww
    simp only []
    repeat ((first | (simp only [List.append_eq, List.cons_append, List.nil_append]) | go_values | go_skip | go_guarded | go_step | go_upon | go_back); refine ?_)
    refine (HWs.out.nam _).mono ?_; rintro e' w2 ⟨rfl, hb2⟩
    have HBc := Lib.hid (below_2 HBc.out hb2)
    have HKw := Lib.hid (StKids.below HKw.out hb2)
    have HCw := Lib.hid (HCw.out.below hb2)
    obtain ⟨k0, k1, k2, k3, k4, k5, k6, k7, k8, k9, k10, k11, k12⟩ := HCw.out
    clear hb2
    simp only []
    repeat ((first | go_values | go_skip | go_guarded | go_step | go_upon | go_back); refine ?_)
    refine (HWs.out.va _ HKw.out).mono ?_; rintro e' w2 ⟨rfl, hb2⟩
    have HBc := Lib.hid (below_2 HBc.out hb2)
    have HKw := Lib.hid (StKids.below HKw.out hb2)
    have HCw := Lib.hid (HCw.out.below hb2)
    obtain ⟨k0, k1, k2, k3, k4, k5, k6, k7, k8, k9, k10, k11, k12⟩ := HCw.out
    clear hb2
    simp only []
    repeat ((first | go_values | go_skip | go_guarded | go_step | go_upon | go_back); refine ?_)
    refine (HWs.out.vb _ HKw.out).mono ?_; rintro e' w2 ⟨rfl, hb2⟩
    have HBc := Lib.hid (below_2 HBc.out hb2)
    have HKw := Lib.hid (StKids.below HKw.out hb2)
    have HCw := Lib.hid (HCw.out.below hb2)
    obtain ⟨k0, k1, k2, k3, k4, k5, k6, k7, k8, k9, k10, k11, k12⟩ := HCw.out
    clear hb2
    simp only []
    repeat ((first | go_values | go_skip | go_guarded | go_step | go_upon | go_back); refine ?_)
    go_ret
    exact ⟨ret_int HV.out.symm, HBc.out⟩
  cases bd
  case true =>
    have hBS : BS = false := by rw [HBB.out]; simp
    have hBM : BM = false := by rw [HBM.out]; simp
    have hR := X3.out hBS hBM (by simp)
    have HV : Hid (R = 2) := by show _ = _; rw [hR]; simp [bne_eq_false_iff_eq.1 hva, bne_eq_false_iff_eq.1 hvb, show 12 < d by have := of_decide_eq_true hdd; omega]
    clear hBS hBM hR
    go_enter Tryz.func66, Tryz.ntmps66
    obtain ⟨k0, k1, k2, k3, k4, k5, k6, k7, k8, k9, k10, k11, k12⟩ := HCw.out
    go_wp2_with fail
    refine (HUs.out _).mono ?_; rintro e' w1 ⟨rfl, hww⟩
    subst hww
    simp only []
    repeat ((first | (simp only [List.append_eq, List.cons_append, List.nil_append]) | go_values | go_skip | go_guarded | go_step | go_upon | go_back); refine ?_)
    refine (HWs.out.nam _).mono ?_; rintro e' w2 ⟨rfl, hb2⟩
    have HBc := Lib.hid (below_2 HBc.out hb2)
    have HKw := Lib.hid (StKids.below HKw.out hb2)
    have HCw := Lib.hid (HCw.out.below hb2)
    obtain ⟨k0, k1, k2, k3, k4, k5, k6, k7, k8, k9, k10, k11, k12⟩ := HCw.out
    clear hb2
    simp only []
    repeat ((first | go_values | go_skip | go_guarded | go_step | go_upon | go_back); refine ?_)
    refine (HWs.out.va _ HKw.out).mono ?_; rintro e' w2 ⟨rfl, hb2⟩
    have HBc := Lib.hid (below_2 HBc.out hb2)
    have HKw := Lib.hid (StKids.below HKw.out hb2)
    have HCw := Lib.hid (HCw.out.below hb2)
    obtain ⟨k0, k1, k2, k3, k4, k5, k6, k7, k8, k9, k10, k11, k12⟩ := HCw.out
    clear hb2
    simp only []
    repeat ((first | go_values | go_skip | go_guarded | go_step | go_upon | go_back); refine ?_)
    refine (HWs.out.vb _ HKw.out).mono ?_; rintro e' w2 ⟨rfl, hb2⟩
    have HBc := Lib.hid (below_2 HBc.out hb2)
    have HKw := Lib.hid (StKids.below HKw.out hb2)
    have HCw := Lib.hid (HCw.out.below hb2)
    obtain ⟨k0, k1, k2, k3, k4, k5, k6, k7, k8, k9, k10, k11, k12⟩ := HCw.out
    clear hb2
    simp only []
    repeat ((first | go_values | go_skip | go_guarded | go_step | go_upon | go_back); refine ?_)
    go_ret
    exact ⟨ret_int HV.out.symm, HBc.out⟩
  have hBS : BS = false := by rw [HBB.out]; simp
  have hBM : BM = false := by rw [HBM.out]; simp
  have hR := X3.out hBS hBM (by simp)
  have HV : Hid (R = 0) := by show _ = _; rw [hR]; simp [bne_eq_false_iff_eq.1 hva, bne_eq_false_iff_eq.1 hvb, show ¬ 12 < d by have := of_decide_eq_false hdd; omega]
  clear hBS hBM hR
  go_enter Tryz.func66, Tryz.ntmps66
  obtain ⟨k0, k1, k2, k3, k4, k5, k6, k7, k8, k9, k10, k11, k12⟩ := HCw.out
  go_wp2_with fail
  refine (HUs.out _).mono ?_; rintro e' w1 ⟨rfl, hww⟩
  subst hww
  simp only []
  repeat ((first | (simp only [List.append_eq, List.cons_append, List.nil_append]) | go_values | go_skip | go_guarded | go_step | go_upon | go_back); refine ?_)
  refine (HWs.out.nam _).mono ?_; rintro e' w2 ⟨rfl, hb2⟩
  have HBc := Lib.hid (below_2 HBc.out hb2)
  have HKw := Lib.hid (StKids.below HKw.out hb2)
  have HCw := Lib.hid (HCw.out.below hb2)
  obtain ⟨k0, k1, k2, k3, k4, k5, k6, k7, k8, k9, k10, k11, k12⟩ := HCw.out
  clear hb2
  simp only []
  repeat ((first | go_values | go_skip | go_guarded | go_step | go_upon | go_back); refine ?_)
  refine (HWs.out.va _ HKw.out).mono ?_; rintro e' w2 ⟨rfl, hb2⟩
  have HBc := Lib.hid (below_2 HBc.out hb2)
  have HKw := Lib.hid (StKids.below HKw.out hb2)
  have HCw := Lib.hid (HCw.out.below hb2)
  obtain ⟨k0, k1, k2, k3, k4, k5, k6, k7, k8, k9, k10, k11, k12⟩ := HCw.out
  clear hb2
  simp only []
  repeat ((first | go_values | go_skip | go_guarded | go_step | go_upon | go_back); refine ?_)
  refine (HWs.out.vb _ HKw.out).mono ?_; rintro e' w2 ⟨rfl, hb2⟩
  have HBc := Lib.hid (below_2 HBc.out hb2)
  have HKw := Lib.hid (StKids.below HKw.out hb2)
  have HCw := Lib.hid (HCw.out.below hb2)
  obtain ⟨k0, k1, k2, k3, k4, k5, k6, k7, k8, k9, k10, k11, k12⟩ := HCw.out
  clear hb2
  simp only []
  repeat ((first | go_values | go_skip | go_guarded | go_step | go_upon | go_back); refine ?_)
  go_ret
  exact ⟨ret_int HV.out.symm, HBc.out⟩
end Go.Proofs.YtnelpgeiioflmaaGreatDoor.A
namespace Go.Proofs.YtnelpgeiioflmaaGreatDoor.A
open Go.RowKit
open L (Str isName prt size_len below_2 below_box ret_bool ret_int eql_eq bytes_eq isName_any)

set_option maxHeartbeats 4000000 in
set_option maxRecDepth 100000 in
theorem rstmt_g8 (s : St) (a1 : Option Addr) (c1 : Nat) (a2 : Option Addr) (c2 : Nat) (a3 : Option Addr) (c3 : Nat) (a4 : Option Addr) (c4 : Nat) (d : Nat) (hd : d ≤ 1000000) (hop : s.op = 8) (hok : okS s) (w0 : World) (hks0 : StKids w0 s a1 a2 a3 a4) :
    Calls Tryz.prog 66 #[stC s a1 c1 a2 c2 a3 c3 a4 c4, .int .i64 (d : Int)] w0 fun e' w' => e' = .returned (.int .i64 (stE s d)) ∧ Below w0.heap.size w0 w' := by
  have hU : usesV s.op = .tuple #[.bool false, .bool true, .bool false, .bool false, .bool false, .bool false] := by rw [hop]; rfl
  have hUN : uN s.op = false := by rw [hop]; rfl
  have hUM : uM s.op = true := by rw [hop]; rfl
  have hUA : uA s.op = false := by rw [hop]; rfl
  have hUB : uB s.op = false := by rw [hop]; rfl
  have hUD : uD s.op = false := by rw [hop]; rfl
  have hUE : uE s.op = false := by rw [hop]; rfl
  have ho1 : decide (s.op < 1) = false := decide_eq_false (by omega)
  have ho8 : decide (8 < s.op) = false := decide_eq_false (by omega)
  have hf6 : (s.op == 6) = false := beq_eq_false_iff_ne.2 (by omega)
  have hf8 : (s.op == 8) = true := beq_iff_eq.2 (by omega)
  have hbx := below_box w0 (stO s a1 c1 a2 c2 a3 c3 a4 c4)
  have HK := Lib.hid (hks0.below hbx)
  have HB0 := Lib.hid hbx
  have HCc := Lib.hid (stO_cells w0 s a1 c1 a2 c2 a3 c3 a4 c4)
  have HUs : Hid (∀ w, Calls Tryz.prog 87 #[.int .i64 s.op] w fun e w' => e = .returned (.tuple #[.bool false, .bool true, .bool false, .bool false, .bool false, .bool false]) ∧ w' = w) := fun w => by rw [← hU]; exact ruses_any s.op w
  have HWs := Lib.hid (stW_of s a1 c1 a2 c2 a3 a4 hok)
  have hbb := bad_bools s
  rw [hUN, hUM, hUA, hUB, hUD, hUE, ho1, ho8] at hbb
  have hbm : badM s = ((decide (s.op = 6) && (decide (s.mx < 1) || decide (16 < s.mx))) || (decide (s.op = 8) && (decide (s.mx < 0) || decide (999 < s.mx)))) := rfl
  rw [← Bool.beq_eq_decide_eq, ← Bool.beq_eq_decide_eq, hf6, hf8] at hbm
  have X1 := Lib.hid (@st_bad s d)
  have X2 := Lib.hid (@st_name s d)
  have X3 := Lib.hid (@st_rest s d)
  rw [show restE s d = (if (uA s.op && !decide (vE s.a 1 = 0)) = true then vE s.a 1 else if (uB s.op && !decide (vE s.b 1 = 0)) = true then vE s.b 1 else if 12 < d then 2 else 0) from rfl, hUA, hUB] at X3
  rw [hUN] at X2 X3
  have hbl := (okS_open hok).bodyLen
  have hel := (okS_open hok).elsLen
  obtain ⟨v1, h1⟩ : ∃ v, decide (s.name.size = 0) = v := ⟨_, rfl⟩
  obtain ⟨v2, h2⟩ : ∃ v, (s.mx != 0) = v := ⟨_, rfl⟩
  obtain ⟨v3, h3⟩ : ∃ v, absent s.a = v := ⟨_, rfl⟩
  obtain ⟨v4, h4⟩ : ∃ v, absent s.b = v := ⟨_, rfl⟩
  obtain ⟨v5, h5⟩ : ∃ v, decide (0 < (s.body.length : Int)) = v := ⟨_, rfl⟩
  obtain ⟨v6, h6⟩ : ∃ v, decide (0 < (s.els.length : Int)) = v := ⟨_, rfl⟩
  have h5' : decide (0 < s.body.length) = v5 := by rw [← h5]; exact decide_eq_decide.2 (by omega)
  have h6' : decide (0 < s.els.length) = v6 := by rw [← h6]; exact decide_eq_decide.2 (by omega)
  rw [h1, h2, h3, h4, h5, h6] at hbb
  rw [h1, h3, h4] at HWs
  have hn1 := HWs.out.name
  have hn2 := HWs.out.name2
  generalize badS s = BS at X1 X2 X3 hbb
  generalize badM s = BM at X1 X2 X3 hbm
  generalize nam s.name = NM at X2 X3 HWs
  generalize vE s.a 1 = va at X3 HWs
  generalize vE s.b 1 = vb at X3 HWs
  generalize stE s d = R at X1 X2 X3 ⊢
  have HBB := Lib.hid hbb
  have HBM := Lib.hid hbm
  unfold stO at *
  unfold stC
  clear hop hU hUN hUM hUA hUB hUD hUE hok hks0 hbx hbb hbm h1 h3 h4
  have HCw := HCc
  have HBc := HB0
  have HKw := HK
  clear HCc HB0 HK
  obtain ⟨bva, hva⟩ : ∃ b, (va != 0) = b := ⟨_, rfl⟩
  obtain ⟨bvb, hvb⟩ : ∃ b, (vb != 0) = b := ⟨_, rfl⟩
  obtain ⟨bd, hdd⟩ : ∃ b, decide (12 < (d : Int)) = b := ⟨_, rfl⟩
  obtain ⟨mlo, hlo⟩ : ∃ b, decide (s.mx < 0) = b := ⟨_, rfl⟩
  obtain ⟨mhi, hhi⟩ : ∃ b, decide (999 < s.mx) = b := ⟨_, rfl⟩
  rw [hlo, hhi] at HBM
  cases v1
  case false =>
    have HV : Hid (R = 1) := X1.out (Or.inl (by rw [HBB.out]; simp))
    go_enter Tryz.func66, Tryz.ntmps66
    obtain ⟨k0, k1, k2, k3, k4, k5, k6, k7, k8, k9, k10, k11, k12⟩ := HCw.out
    go_wp2_with fail
    refine (HUs.out _).mono ?_; rintro e' w1 ⟨rfl, hww⟩
    subst hww
    simp only []
    repeat ((first | (simp only [List.append_eq, List.cons_append, List.nil_append]) | go_values | go_skip | go_guarded | go_step | go_upon | go_back); refine ?_)
    go_ret
    exact ⟨ret_int HV.out.symm, HBc.out⟩
  cases v3
  case false =>
    have HV : Hid (R = 1) := X1.out (Or.inl (by rw [HBB.out]; simp))
    go_enter Tryz.func66, Tryz.ntmps66
    obtain ⟨k0, k1, k2, k3, k4, k5, k6, k7, k8, k9, k10, k11, k12⟩ := HCw.out
    go_wp2_with fail
    refine (HUs.out _).mono ?_; rintro e' w1 ⟨rfl, hww⟩
    subst hww
    simp only []
    repeat ((first | (simp only [List.append_eq, List.cons_append, List.nil_append]) | go_values | go_skip | go_guarded | go_step | go_upon | go_back); refine ?_)
    refine (HWs.out.aa _).mono ?_; rintro e' w2 ⟨rfl, hb2⟩
    have HBc := Lib.hid (below_2 HBc.out hb2)
    have HKw := Lib.hid (StKids.below HKw.out hb2)
    have HCw := Lib.hid (HCw.out.below hb2)
    obtain ⟨k0, k1, k2, k3, k4, k5, k6, k7, k8, k9, k10, k11, k12⟩ := HCw.out
    clear hb2
    simp only []
    repeat ((first | go_values | go_skip | go_guarded | go_step | go_upon | go_back); refine ?_)
    go_ret
    exact ⟨ret_int HV.out.symm, HBc.out⟩
  cases v4
  case false =>
    have HV : Hid (R = 1) := X1.out (Or.inl (by rw [HBB.out]; simp))
    go_enter Tryz.func66, Tryz.ntmps66
    obtain ⟨k0, k1, k2, k3, k4, k5, k6, k7, k8, k9, k10, k11, k12⟩ := HCw.out
    go_wp2_with fail
    refine (HUs.out _).mono ?_; rintro e' w1 ⟨rfl, hww⟩
    subst hww
    simp only []
    repeat ((first | (simp only [List.append_eq, List.cons_append, List.nil_append]) | go_values | go_skip | go_guarded | go_step | go_upon | go_back); refine ?_)
    refine (HWs.out.aa _).mono ?_; rintro e' w2 ⟨rfl, hb2⟩
    have HBc := Lib.hid (below_2 HBc.out hb2)
    have HKw := Lib.hid (StKids.below HKw.out hb2)
    have HCw := Lib.hid (HCw.out.below hb2)
    obtain ⟨k0, k1, k2, k3, k4, k5, k6, k7, k8, k9, k10, k11, k12⟩ := HCw.out
    clear hb2
    simp only []
    repeat ((first | go_values | go_skip | go_guarded | go_step | go_upon | go_back); refine ?_)
    refine (HWs.out.ab _).mono ?_; rintro e' w2 ⟨rfl, hb2⟩
    have HBc := Lib.hid (below_2 HBc.out hb2)
    have HKw := Lib.hid (StKids.below HKw.out hb2)
    have HCw := Lib.hid (HCw.out.below hb2)
    obtain ⟨k0, k1, k2, k3, k4, k5, k6, k7, k8, k9, k10, k11, k12⟩ := HCw.out
    clear hb2
    simp only []
    repeat ((first | go_values | go_skip | go_guarded | go_step | go_upon | go_back); refine ?_)
    go_ret
    exact ⟨ret_int HV.out.symm, HBc.out⟩
  cases v5
  case true =>
    have HV : Hid (R = 1) := X1.out (Or.inl (by rw [HBB.out]; simp))
    go_enter Tryz.func66, Tryz.ntmps66
    obtain ⟨k0, k1, k2, k3, k4, k5, k6, k7, k8, k9, k10, k11, k12⟩ := HCw.out
    go_wp2_with fail
    refine (HUs.out _).mono ?_; rintro e' w1 ⟨rfl, hww⟩
    subst hww
    simp only []
    repeat ((first | (simp only [List.append_eq, List.cons_append, List.nil_append]) | go_values | go_skip | go_guarded | go_step | go_upon | go_back); refine ?_)
    refine (HWs.out.aa _).mono ?_; rintro e' w2 ⟨rfl, hb2⟩
    have HBc := Lib.hid (below_2 HBc.out hb2)
    have HKw := Lib.hid (StKids.below HKw.out hb2)
    have HCw := Lib.hid (HCw.out.below hb2)
    obtain ⟨k0, k1, k2, k3, k4, k5, k6, k7, k8, k9, k10, k11, k12⟩ := HCw.out
    clear hb2
    simp only []
    repeat ((first | go_values | go_skip | go_guarded | go_step | go_upon | go_back); refine ?_)
    refine (HWs.out.ab _).mono ?_; rintro e' w2 ⟨rfl, hb2⟩
    have HBc := Lib.hid (below_2 HBc.out hb2)
    have HKw := Lib.hid (StKids.below HKw.out hb2)
    have HCw := Lib.hid (HCw.out.below hb2)
    obtain ⟨k0, k1, k2, k3, k4, k5, k6, k7, k8, k9, k10, k11, k12⟩ := HCw.out
    clear hb2
    simp only []
    repeat ((first | go_values | go_skip | go_guarded | go_step | go_upon | go_back); refine ?_)
    go_ret
    exact ⟨ret_int HV.out.symm, HBc.out⟩
  cases v6
  case true =>
    have HV : Hid (R = 1) := X1.out (Or.inl (by rw [HBB.out]; simp))
    go_enter Tryz.func66, Tryz.ntmps66
    obtain ⟨k0, k1, k2, k3, k4, k5, k6, k7, k8, k9, k10, k11, k12⟩ := HCw.out
    go_wp2_with fail
    refine (HUs.out _).mono ?_; rintro e' w1 ⟨rfl, hww⟩
    subst hww
    simp only []
    repeat ((first | (simp only [List.append_eq, List.cons_append, List.nil_append]) | go_values | go_skip | go_guarded | go_step | go_upon | go_back); refine ?_)
    refine (HWs.out.aa _).mono ?_; rintro e' w2 ⟨rfl, hb2⟩
    have HBc := Lib.hid (below_2 HBc.out hb2)
    have HKw := Lib.hid (StKids.below HKw.out hb2)
    have HCw := Lib.hid (HCw.out.below hb2)
    obtain ⟨k0, k1, k2, k3, k4, k5, k6, k7, k8, k9, k10, k11, k12⟩ := HCw.out
    clear hb2
    simp only []
    repeat ((first | go_values | go_skip | go_guarded | go_step | go_upon | go_back); refine ?_)
    refine (HWs.out.ab _).mono ?_; rintro e' w2 ⟨rfl, hb2⟩
    have HBc := Lib.hid (below_2 HBc.out hb2)
    have HKw := Lib.hid (StKids.below HKw.out hb2)
    have HCw := Lib.hid (HCw.out.below hb2)
    obtain ⟨k0, k1, k2, k3, k4, k5, k6, k7, k8, k9, k10, k11, k12⟩ := HCw.out
    clear hb2
    simp only []
    repeat ((first | go_values | go_skip | go_guarded | go_step | go_upon | go_back); refine ?_)
    go_ret
    exact ⟨ret_int HV.out.symm, HBc.out⟩
  cases mlo
  case true =>
    have HV : Hid (R = 1) := X1.out (Or.inr (by rw [HBM.out]; simp))
    go_enter Tryz.func66, Tryz.ntmps66
    obtain ⟨k0, k1, k2, k3, k4, k5, k6, k7, k8, k9, k10, k11, k12⟩ := HCw.out
    go_wp2_with fail
    refine (HUs.out _).mono ?_; rintro e' w1 ⟨rfl, hww⟩
    subst hww
    simp only []
    repeat ((first | (simp only [List.append_eq, List.cons_append, List.nil_append]) | go_values | go_skip | go_guarded | go_step | go_upon | go_back); refine ?_)
    refine (HWs.out.aa _).mono ?_; rintro e' w2 ⟨rfl, hb2⟩
    have HBc := Lib.hid (below_2 HBc.out hb2)
    have HKw := Lib.hid (StKids.below HKw.out hb2)
    have HCw := Lib.hid (HCw.out.below hb2)
    obtain ⟨k0, k1, k2, k3, k4, k5, k6, k7, k8, k9, k10, k11, k12⟩ := HCw.out
    clear hb2
    simp only []
    repeat ((first | go_values | go_skip | go_guarded | go_step | go_upon | go_back); refine ?_)
    refine (HWs.out.ab _).mono ?_; rintro e' w2 ⟨rfl, hb2⟩
    have HBc := Lib.hid (below_2 HBc.out hb2)
    have HKw := Lib.hid (StKids.below HKw.out hb2)
    have HCw := Lib.hid (HCw.out.below hb2)
    obtain ⟨k0, k1, k2, k3, k4, k5, k6, k7, k8, k9, k10, k11, k12⟩ := HCw.out
    clear hb2
    simp only []
    repeat ((first | go_values | go_skip | go_guarded | go_step | go_upon | go_back); refine ?_)
    go_ret
    exact ⟨ret_int HV.out.symm, HBc.out⟩
  cases mhi
  case true =>
    have HV : Hid (R = 1) := X1.out (Or.inr (by rw [HBM.out]; simp))
    go_enter Tryz.func66, Tryz.ntmps66
    obtain ⟨k0, k1, k2, k3, k4, k5, k6, k7, k8, k9, k10, k11, k12⟩ := HCw.out
    go_wp2_with fail
    refine (HUs.out _).mono ?_; rintro e' w1 ⟨rfl, hww⟩
    subst hww
    simp only []
    repeat ((first | (simp only [List.append_eq, List.cons_append, List.nil_append]) | go_values | go_skip | go_guarded | go_step | go_upon | go_back); refine ?_)
    refine (HWs.out.aa _).mono ?_; rintro e' w2 ⟨rfl, hb2⟩
    have HBc := Lib.hid (below_2 HBc.out hb2)
    have HKw := Lib.hid (StKids.below HKw.out hb2)
    have HCw := Lib.hid (HCw.out.below hb2)
    obtain ⟨k0, k1, k2, k3, k4, k5, k6, k7, k8, k9, k10, k11, k12⟩ := HCw.out
    clear hb2
    simp only []
    repeat ((first | go_values | go_skip | go_guarded | go_step | go_upon | go_back); refine ?_)
    refine (HWs.out.ab _).mono ?_; rintro e' w2 ⟨rfl, hb2⟩
    have HBc := Lib.hid (below_2 HBc.out hb2)
    have HKw := Lib.hid (StKids.below HKw.out hb2)
    have HCw := Lib.hid (HCw.out.below hb2)
    obtain ⟨k0, k1, k2, k3, k4, k5, k6, k7, k8, k9, k10, k11, k12⟩ := HCw.out
    clear hb2
    simp only []
    repeat ((first | go_values | go_skip | go_guarded | go_step | go_upon | go_back); refine ?_)
    go_ret
    exact ⟨ret_int HV.out.symm, HBc.out⟩
  cases bd
  case true =>
    have hBS : BS = false := by rw [HBB.out]; simp
    have hBM : BM = false := by rw [HBM.out]; simp
    have hR := X3.out hBS hBM (by simp)
    have HV : Hid (R = 2) := by show _ = _; rw [hR]; simp [show 12 < d by have := of_decide_eq_true hdd; omega]
    clear hBS hBM hR
    go_enter Tryz.func66, Tryz.ntmps66
    obtain ⟨k0, k1, k2, k3, k4, k5, k6, k7, k8, k9, k10, k11, k12⟩ := HCw.out
    go_wp2_with fail
    refine (HUs.out _).mono ?_; rintro e' w1 ⟨rfl, hww⟩
    subst hww
    simp only []
    repeat ((first | (simp only [List.append_eq, List.cons_append, List.nil_append]) | go_values | go_skip | go_guarded | go_step | go_upon | go_back); refine ?_)
    refine (HWs.out.aa _).mono ?_; rintro e' w2 ⟨rfl, hb2⟩
    have HBc := Lib.hid (below_2 HBc.out hb2)
    have HKw := Lib.hid (StKids.below HKw.out hb2)
    have HCw := Lib.hid (HCw.out.below hb2)
    obtain ⟨k0, k1, k2, k3, k4, k5, k6, k7, k8, k9, k10, k11, k12⟩ := HCw.out
    clear hb2
    simp only []
    repeat ((first | go_values | go_skip | go_guarded | go_step | go_upon | go_back); refine ?_)
    refine (HWs.out.ab _).mono ?_; rintro e' w2 ⟨rfl, hb2⟩
    have HBc := Lib.hid (below_2 HBc.out hb2)
    have HKw := Lib.hid (StKids.below HKw.out hb2)
    have HCw := Lib.hid (HCw.out.below hb2)
    obtain ⟨k0, k1, k2, k3, k4, k5, k6, k7, k8, k9, k10, k11, k12⟩ := HCw.out
    clear hb2
    simp only []
    repeat ((first | go_values | go_skip | go_guarded | go_step | go_upon | go_back); refine ?_)
    go_ret
    exact ⟨ret_int HV.out.symm, HBc.out⟩
  have hBS : BS = false := by rw [HBB.out]; simp
  have hBM : BM = false := by rw [HBM.out]; simp
  have hR := X3.out hBS hBM (by simp)
  have HV : Hid (R = 0) := by show _ = _; rw [hR]; simp [show ¬ 12 < d by have := of_decide_eq_false hdd; omega]
  clear hBS hBM hR
  go_enter Tryz.func66, Tryz.ntmps66
  obtain ⟨k0, k1, k2, k3, k4, k5, k6, k7, k8, k9, k10, k11, k12⟩ := HCw.out
  go_wp2_with fail
  refine (HUs.out _).mono ?_; rintro e' w1 ⟨rfl, hww⟩
  subst hww
  simp only []
  repeat ((first | (simp only [List.append_eq, List.cons_append, List.nil_append]) | go_values | go_skip | go_guarded | go_step | go_upon | go_back); refine ?_)
  refine (HWs.out.aa _).mono ?_; rintro e' w2 ⟨rfl, hb2⟩
  have HBc := Lib.hid (below_2 HBc.out hb2)
  have HKw := Lib.hid (StKids.below HKw.out hb2)
  have HCw := Lib.hid (HCw.out.below hb2)
  obtain ⟨k0, k1, k2, k3, k4, k5, k6, k7, k8, k9, k10, k11, k12⟩ := HCw.out
  clear hb2
  simp only []
  repeat ((first | go_values | go_skip | go_guarded | go_step | go_upon | go_back); refine ?_)
  refine (HWs.out.ab _).mono ?_; rintro e' w2 ⟨rfl, hb2⟩
  have HBc := Lib.hid (below_2 HBc.out hb2)
  have HKw := Lib.hid (StKids.below HKw.out hb2)
  have HCw := Lib.hid (HCw.out.below hb2)
  obtain ⟨k0, k1, k2, k3, k4, k5, k6, k7, k8, k9, k10, k11, k12⟩ := HCw.out
  clear hb2
  simp only []
  repeat ((first | go_values | go_skip | go_guarded | go_step | go_upon | go_back); refine ?_)
  go_ret
  exact ⟨ret_int HV.out.symm, HBc.out⟩
end Go.Proofs.YtnelpgeiioflmaaGreatDoor.A
namespace Go.Proofs.YtnelpgeiioflmaaGreatDoor.A

theorem rstmt : RStmt := by
  intro s a1 c1 a2 c2 a3 c3 a4 c4 d hd hok w0 hks
  by_cases h : 1 ≤ s.op ∧ s.op ≤ 8
  · obtain ⟨h1, h2⟩ := h
    have : s.op = 1 ∨ s.op = 2 ∨ s.op = 3 ∨ s.op = 4 ∨ s.op = 5 ∨ s.op = 6 ∨ s.op = 7 ∨ s.op = 8 := by omega
    rcases this with h | h | h | h | h | h | h | h
    · exact rstmt_g1 s a1 c1 a2 c2 a3 c3 a4 c4 d hd (Or.inl h) hok w0 hks
    · exact rstmt_g1 s a1 c1 a2 c2 a3 c3 a4 c4 d hd (Or.inr h) hok w0 hks
    · exact rstmt_g3 s a1 c1 a2 c2 a3 c3 a4 c4 d hd h hok w0 hks
    · exact rstmt_g4 s a1 c1 a2 c2 a3 c3 a4 c4 d hd (Or.inl h) hok w0 hks
    · exact rstmt_g5 s a1 c1 a2 c2 a3 c3 a4 c4 d hd h hok w0 hks
    · exact rstmt_g6 s a1 c1 a2 c2 a3 c3 a4 c4 d hd h hok w0 hks
    · exact rstmt_g4 s a1 c1 a2 c2 a3 c3 a4 c4 d hd (Or.inr h) hok w0 hks
    · exact rstmt_g8 s a1 c1 a2 c2 a3 c3 a4 c4 d hd h hok w0 hks
  · exact rstmt_g0 s a1 c1 a2 c2 a3 c3 a4 c4 d (by omega) w0
end Go.Proofs.YtnelpgeiioflmaaGreatDoor.A
