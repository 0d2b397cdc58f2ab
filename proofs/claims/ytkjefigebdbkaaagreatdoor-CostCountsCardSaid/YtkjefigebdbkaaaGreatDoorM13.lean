/-
  What the reference of layer 8 returns: stmt, for the operators of one kind.
  What the reference of layer 8 returns: stmt, for the operators of one kind.
  What the reference of layer 8 returns: stmt: its contract.
  What the reference of layer 8 returns: Names: a contract.
-/
import Derived.Test.YtkjefigebdbkaaaGreatDoorM10
import Derived.Test.YtkjefigebdbkaaaGreatDoorM12
import Derived.Test.YtkjefigebdbkaaaGreatDoorM11
namespace Go.Proofs.YtkjefigebdbkaaaGreatDoor.A
open Go.RowKit
open L (Str isName prt size_len below_2 below_box ret_bool ret_int eql_eq bytes_eq isName_any)

set_option maxHeartbeats 4000000 in
set_option maxRecDepth 100000 in
theorem rstmt_g6 (s : St) (a1 : Option Addr) (c1 : Nat) (a2 : Option Addr) (c2 : Nat) (a3 : Option Addr) (c3 : Nat) (a4 : Option Addr) (c4 : Nat) (d : Nat) (hd : d ≤ 1000000) (hop : s.op = 6) (hok : okS s) (w0 : World) (hks0 : StKids w0 s a1 a2 a3 a4) :
    Calls Tryz.prog 50 #[stC s a1 c1 a2 c2 a3 c3 a4 c4, .int .i64 (d : Int)] w0 fun e' w' => e' = .returned (.int .i64 (stE s d)) ∧ Below w0.heap.size w0 w' := by
  have hU : usesV s.op = .tuple #[.bool true, .bool true, .bool true, .bool true, .bool true, .bool false] := by rw [hop]; rfl
  have hUN : uN s.op = true := by rw [hop]; rfl
  have hUM : uM s.op = true := by rw [hop]; rfl
  have hUA : uA s.op = true := by rw [hop]; rfl
  have hUB : uB s.op = true := by rw [hop]; rfl
  have hUD : uD s.op = true := by rw [hop]; rfl
  have hUE : uE s.op = false := by rw [hop]; rfl
  have ho1 : decide (s.op < 1) = false := decide_eq_false (by omega)
  have ho8 : decide (8 < s.op) = false := decide_eq_false (by omega)
  have hf6 : (s.op == 6) = true := beq_iff_eq.2 (by omega)
  have hf8 : (s.op == 8) = false := beq_eq_false_iff_ne.2 (by omega)
  have hbx := below_box w0 (stO s a1 c1 a2 c2 a3 c3 a4 c4)
  have HK := Lib.hid (hks0.below hbx)
  have HB0 := Lib.hid hbx
  have HCc := Lib.hid (stO_cells w0 s a1 c1 a2 c2 a3 c3 a4 c4)
  have HUs : Hid (∀ w, Calls Tryz.prog 80 #[.int .i64 s.op] w fun e w' => e = .returned (.tuple #[.bool true, .bool true, .bool true, .bool true, .bool true, .bool false]) ∧ w' = w) := fun w => by rw [← hU]; exact ruses_any s.op w
  have HWs := Lib.hid (stW_of s a1 c1 a2 c2 a3 a4 hok)
  have hbb := bad_bools s
  rw [hUN, hUM, hUA, hUB, hUD, hUE, ho1, ho8] at hbb
  have hbm : badM s = ((decide (s.op = 6) && (decide (s.mx < 1) || decide (16 < s.mx))) || (decide (s.op = 8) && (decide (s.mx < 0) || decide (999 < s.mx)))) := rfl
  rw [← Bool.beq_eq_decide_eq, ← Bool.beq_eq_decide_eq, hf6, hf8] at hbm
  have X1 := Lib.hid (@st_bad s d)
  have X2 := Lib.hid (@st_name s d)
  have X3 := Lib.hid (@st_rest s d)
  rw [show restE s d = (if (uA s.op && !decide (vE s.a 1 = 0)) = true then vE s.a 1 else if (uB s.op && !decide (vE s.b 1 = 0)) = true then vE s.b 1 else if 12 < d then 2 else 0) from rfl, hUA, hUB] at X3
  rw [hUN] at X2 X3
  have hbl := (okS_open hok).bodyLen
  have hel := (okS_open hok).elsLen
  obtain ⟨v1, h1⟩ : ∃ v, decide (s.name.size = 0) = v := ⟨_, rfl⟩
  obtain ⟨v2, h2⟩ : ∃ v, (s.mx != 0) = v := ⟨_, rfl⟩
  obtain ⟨v3, h3⟩ : ∃ v, absent s.a = v := ⟨_, rfl⟩
  obtain ⟨v4, h4⟩ : ∃ v, absent s.b = v := ⟨_, rfl⟩
  obtain ⟨v5, h5⟩ : ∃ v, decide (0 < (s.body.length : Int)) = v := ⟨_, rfl⟩
  obtain ⟨v6, h6⟩ : ∃ v, decide (0 < (s.els.length : Int)) = v := ⟨_, rfl⟩
  have h5' : decide (0 < s.body.length) = v5 := by rw [← h5]; exact decide_eq_decide.2 (by omega)
  have h6' : decide (0 < s.els.length) = v6 := by rw [← h6]; exact decide_eq_decide.2 (by omega)
  rw [h1, h2, h3, h4, h5, h6] at hbb
  rw [h1, h3, h4] at HWs
  have hn1 := HWs.out.name
  have hn2 := HWs.out.name2
  generalize badS s = BS at X1 X2 X3 hbb
  generalize badM s = BM at X1 X2 X3 hbm
  generalize nam s.name = NM at X2 X3 HWs
  generalize vE s.a 1 = va at X3 HWs
  generalize vE s.b 1 = vb at X3 HWs
  generalize stE s d = R at X1 X2 X3 ⊢
  have HBB := Lib.hid hbb
  have HBM := Lib.hid hbm
  unfold stO at *
  unfold stC
  clear hop hU hUN hUM hUA hUB hUD hUE hok hks0 hbx hbb hbm h1 h3 h4
  have HCw := HCc
  have HBc := HB0
  have HKw := HK
  clear HCc HB0 HK
  obtain ⟨bva, hva⟩ : ∃ b, (va != 0) = b := ⟨_, rfl⟩
  obtain ⟨bvb, hvb⟩ : ∃ b, (vb != 0) = b := ⟨_, rfl⟩
  obtain ⟨bd, hdd⟩ : ∃ b, decide (12 < (d : Int)) = b := ⟨_, rfl⟩
  obtain ⟨mlo, hlo⟩ : ∃ b, decide (s.mx < 1) = b := ⟨_, rfl⟩
  obtain ⟨mhi, hhi⟩ : ∃ b, decide (16 < s.mx) = b := ⟨_, rfl⟩
  rw [hlo, hhi] at HBM
  cases v6
  case true =>
    have HV : Hid (R = 1) := X1.out (Or.inl (by rw [HBB.out]; simp))
    go_enter Tryz.func50, Tryz.ntmps50
    obtain ⟨k0, k1, k2, k3, k4, k5, k6, k7, k8, k9, k10, k11, k12⟩ := HCw.out
    go_wp2_with fail
    refine (HUs.out _).mono ?_; rintro e' w1 ⟨rfl, hww⟩
    subst hww
    simp only []
    repeat ((first | (simp only [List.append_eq, List.cons_append, List.nil_append]) | go_values | go_skip | go_guarded | go_step | go_upon | go_back); refine ?_)
    go_ret
    exact ⟨ret_int HV.out.symm, HBc.out⟩
  cases mlo
  case true =>
    have HV : Hid (R = 1) := X1.out (Or.inr (by rw [HBM.out]; simp))
    go_enter Tryz.func50, Tryz.ntmps50
    obtain ⟨k0, k1, k2, k3, k4, k5, k6, k7, k8, k9, k10, k11, k12⟩ := HCw.out
    go_wp2_with fail
    refine (HUs.out _).mono ?_; rintro e' w1 ⟨rfl, hww⟩
    subst hww
    simp only []
    repeat ((first | (simp only [List.append_eq, List.cons_append, List.nil_append]) | go_values | go_skip | go_guarded | go_step | go_upon | go_back); refine ?_)
    go_ret
    exact ⟨ret_int HV.out.symm, HBc.out⟩
  cases mhi
  case true =>
    have HV : Hid (R = 1) := X1.out (Or.inr (by rw [HBM.out]; simp))
    go_enter Tryz.func50, Tryz.ntmps50
    obtain ⟨k0, k1, k2, k3, k4, k5, k6, k7, k8, k9, k10, k11, k12⟩ := HCw.out
    go_wp2_with fail
    refine (HUs.out _).mono ?_; rintro e' w1 ⟨rfl, hww⟩
    subst hww
    simp only []
    repeat ((first | (simp only [List.append_eq, List.cons_append, List.nil_append]) | go_values | go_skip | go_guarded | go_step | go_upon | go_back); refine ?_)
    go_ret
    exact ⟨ret_int HV.out.symm, HBc.out⟩
  cases NM
  case false =>
    have hBS : BS = false := by rw [HBB.out]; simp
    have hBM : BM = false := by rw [HBM.out]; simp
    have HV : Hid (R = 7) := X2.out hBS hBM (by trivial) (by trivial)
    clear hBS hBM
    go_enter Tryz.func50, Tryz.ntmps50
    obtain ⟨k0, k1, k2, k3, k4, k5, k6, k7, k8, k9, k10, k11, k12⟩ := HCw.out
    go_wp2_with fail
    refine (HUs.out _).mono ?_; rintro e' w1 ⟨rfl, hww⟩
    subst hww
    simp only []
    repeat ((first | (simp only [List.append_eq, List.cons_append, List.nil_append]) | go_values | go_skip | go_guarded | go_step | go_upon | go_back); refine ?_)
    refine (HWs.out.nam _).mono ?_; rintro e' w2 ⟨rfl, hb2⟩
    have HBc := Lib.hid (below_2 HBc.out hb2)
    have HKw := Lib.hid (StKids.below HKw.out hb2)
    have HCw := Lib.hid (HCw.out.below hb2)
    obtain ⟨k0, k1, k2, k3, k4, k5, k6, k7, k8, k9, k10, k11, k12⟩ := HCw.out
    clear hb2
    simp only []
    repeat ((first | go_values | go_skip | go_guarded | go_step | go_upon | go_back); refine ?_)
    go_ret
    exact ⟨ret_int HV.out.symm, HBc.out⟩
  cases bva
  case true =>
    have hBS : BS = false := by rw [HBB.out]; simp
    have hBM : BM = false := by rw [HBM.out]; simp
    have hR := X3.out hBS hBM (by simp)
    have HV : Hid (R = va) := by show _ = _; rw [hR]; simp [bne_iff_ne.1 hva]
    clear hBS hBM hR
    go_enter Tryz.func50, Tryz.ntmps50
    obtain ⟨k0, k1, k2, k3, k4, k5, k6, k7, k8, k9, k10, k11, k12⟩ := HCw.out
    go_wp2_with fail
    refine (HUs.out _).mono ?_; rintro e' w1 ⟨rfl, hww⟩
    subst hww
    simp only []
    repeat ((first | (simp only [List.append_eq, List.cons_append, List.nil_append]) | go_values | go_skip | go_guarded | go_step | go_upon | go_back); refine ?_)
    refine (HWs.out.nam _).mono ?_; rintro e' w2 ⟨rfl, hb2⟩
    have HBc := Lib.hid (below_2 HBc.out hb2)
    have HKw := Lib.hid (StKids.below HKw.out hb2)
    have HCw := Lib.hid (HCw.out.below hb2)
    obtain ⟨k0, k1, k2, k3, k4, k5, k6, k7, k8, k9, k10, k11, k12⟩ := HCw.out
    clear hb2
    simp only []
    repeat ((first | go_values | go_skip | go_guarded | go_step | go_upon | go_back); refine ?_)
    refine (HWs.out.va _ HKw.out).mono ?_; rintro e' w2 ⟨rfl, hb2⟩
    have HBc := Lib.hid (below_2 HBc.out hb2)
    have HKw := Lib.hid (StKids.below HKw.out hb2)
    have HCw := Lib.hid (HCw.out.below hb2)
    obtain ⟨k0, k1, k2, k3, k4, k5, k6, k7, k8, k9, k10, k11, k12⟩ := HCw.out
    clear hb2
    simp only []
    repeat ((first | go_values | go_skip | go_guarded | go_step | go_upon | go_back); refine ?_)
    go_ret
    exact ⟨ret_int HV.out.symm, HBc.out⟩
  cases bvb
  case true =>
    have hBS : BS = false := by rw [HBB.out]; simp
    have hBM : BM = false := by rw [HBM.out]; simp
    have hR := X3.out hBS hBM (by simp)
    have HV : Hid (R = vb) := by show _ = _; rw [hR]; simp [bne_eq_false_iff_eq.1 hva, bne_iff_ne.1 hvb]
    clear hBS hBM hR
    go_enter Tryz.func50, Tryz.ntmps50
    obtain ⟨k0, k1, k2, k3, k4, k5, k6, k7, k8, k9, k10, k11, k12⟩ := HCw.out
    go_wp2_with fail
    refine (HUs.out _).mono ?_; rintro e' w1 ⟨rfl, hww⟩
    subst hww
    simp only []
    repeat ((first | (simp only [List.append_eq, List.cons_append, List.nil_append]) | go_values | go_skip | go_guarded | go_step | go_upon | go_back); refine ?_)
    refine (HWs.out.nam _).mono ?_; rintro e' w2 ⟨rfl, hb2⟩
    have HBc := Lib.hid (below_2 HBc.out hb2)
    have HKw := Lib.hid (StKids.below HKw.out hb2)
    have HCw := Lib.hid (HCw.out.below hb2)
    obtain ⟨k0, k1, k2, k3, k4, k5, k6, k7, k8, k9, k10, k11, k12⟩ := HCw.out
    clear hb2
    simp only []
    repeat ((first | go_values | go_skip | go_guarded | go_step | go_upon | go_back); refine ?_)
    refine (HWs.out.va _ HKw.out).mono ?_; rintro e' w2 ⟨rfl, hb2⟩
    have HBc := Lib.hid (below_2 HBc.out hb2)
    have HKw := Lib.hid (StKids.below HKw.out hb2)
    have HCw := Lib.hid (HCw.out.below hb2)
    obtain ⟨k0, k1, k2, k3, k4, k5, k6, k7, k8, k9, k10, k11, k12⟩ := HCw.out
    clear hb2
    simp only []
    repeat ((first | go_values | go_skip | go_guarded | go_step | go_upon | go_back); refine ?_)
    refine (HWs.out.vb _ HKw.out).mono ?_; rintro e' w2 ⟨rfl, hb2⟩
    have HBc := Lib.hid (below_2 HBc.out hb2)
    have HKw := Lib.hid (StKids.below HKw.out hb2)
    have HCw := Lib.hid (HCw.out.below hb2)
    obtain ⟨k0, k1, k2, k3, k4, k5, k6, k7, k8, k9, k10, k11, k12⟩ := HCw.out
    clear hb2
    simp only []
    repeat ((first | go_values | go_skip | go_guarded | go_step | go_upon | go_back); refine ?_)
    go_ret
    exact ⟨ret_int HV.out.symm, HBc.out⟩
  cases bd
  case true =>
    have hBS : BS = false := by rw [HBB.out]; simp
    have hBM : BM = false := by rw [HBM.out]; simp
    have hR := X3.out hBS hBM (by simp)
    have HV : Hid (R = 2) := by show _ = _; rw [hR]; simp [bne_eq_false_iff_eq.1 hva, bne_eq_false_iff_eq.1 hvb, show 12 < d by have := of_decide_eq_true hdd; omega]
    clear hBS hBM hR
    go_enter Tryz.func50, Tryz.ntmps50
    obtain ⟨k0, k1, k2, k3, k4, k5, k6, k7, k8, k9, k10, k11, k12⟩ := HCw.out
    go_wp2_with fail
    refine (HUs.out _).mono ?_; rintro e' w1 ⟨rfl, hww⟩
    subst hww
    simp only []
    repeat ((first | (simp only [List.append_eq, List.cons_append, List.nil_append]) | go_values | go_skip | go_guarded | go_step | go_upon | go_back); refine ?_)
    refine (HWs.out.nam _).mono ?_; rintro e' w2 ⟨rfl, hb2⟩
    have HBc := Lib.hid (below_2 HBc.out hb2)
    have HKw := Lib.hid (StKids.below HKw.out hb2)
    have HCw := Lib.hid (HCw.out.below hb2)
    obtain ⟨k0, k1, k2, k3, k4, k5, k6, k7, k8, k9, k10, k11, k12⟩ := HCw.out
    clear hb2
    simp only []
    repeat ((first | go_values | go_skip | go_guarded | go_step | go_upon | go_back); refine ?_)
    refine (HWs.out.va _ HKw.out).mono ?_; rintro e' w2 ⟨rfl, hb2⟩
    have HBc := Lib.hid (below_2 HBc.out hb2)
    have HKw := Lib.hid (StKids.below HKw.out hb2)
    have HCw := Lib.hid (HCw.out.below hb2)
    obtain ⟨k0, k1, k2, k3, k4, k5, k6, k7, k8, k9, k10, k11, k12⟩ := HCw.out
    clear hb2
    simp only []
    repeat ((first | go_values | go_skip | go_guarded | go_step | go_upon | go_back); refine ?_)
    refine (HWs.out.vb _ HKw.out).mono ?_; rintro e' w2 ⟨rfl, hb2⟩
    have HBc := Lib.hid (below_2 HBc.out hb2)
    have HKw := Lib.hid (StKids.below HKw.out hb2)
    have HCw := Lib.hid (HCw.out.below hb2)
    obtain ⟨k0, k1, k2, k3, k4, k5, k6, k7, k8, k9, k10, k11, k12⟩ := HCw.out
    clear hb2
    simp only []
    repeat ((first | go_values | go_skip | go_guarded | go_step | go_upon | go_back); refine ?_)
    go_ret
    exact ⟨ret_int HV.out.symm, HBc.out⟩
  have hBS : BS = false := by rw [HBB.out]; simp
  have hBM : BM = false := by rw [HBM.out]; simp
  have hR := X3.out hBS hBM (by simp)
  have HV : Hid (R = 0) := by show _ = _; rw [hR]; simp [bne_eq_false_iff_eq.1 hva, bne_eq_false_iff_eq.1 hvb, show ¬ 12 < d by have := of_decide_eq_false hdd; omega]
  clear hBS hBM hR
  go_enter Tryz.func50, Tryz.ntmps50
  obtain ⟨k0, k1, k2, k3, k4, k5, k6, k7, k8, k9, k10, k11, k12⟩ := HCw.out
  go_wp2_with fail
  refine (HUs.out _).mono ?_; rintro e' w1 ⟨rfl, hww⟩
  subst hww
  simp only []
  repeat ((first | (simp only [List.append_eq, List.cons_append, List.nil_append]) | go_values | go_skip | go_guarded | go_step | go_upon | go_back); refine ?_)
  refine (HWs.out.nam _).mono ?_; rintro e' w2 ⟨rfl, hb2⟩
  have HBc := Lib.hid (below_2 HBc.out hb2)
  have HKw := Lib.hid (StKids.below HKw.out hb2)
  have HCw := Lib.hid (HCw.out.below hb2)
  obtain ⟨k0, k1, k2, k3, k4, k5, k6, k7, k8, k9, k10, k11, k12⟩ := HCw.out
  clear hb2
  simp only []
  repeat ((first | go_values | go_skip | go_guarded | go_step | go_upon | go_back); refine ?_)
  refine (HWs.out.va _ HKw.out).mono ?_; rintro e' w2 ⟨rfl, hb2⟩
  have HBc := Lib.hid (below_2 HBc.out hb2)
  have HKw := Lib.hid (StKids.below HKw.out hb2)
  have HCw := Lib.hid (HCw.out.below hb2)
  obtain ⟨k0, k1, k2, k3, k4, k5, k6, k7, k8, k9, k10, k11, k12⟩ := HCw.out
  clear hb2
  simp only []
  repeat ((first | go_values | go_skip | go_guarded | go_step | go_upon | go_back); refine ?_)
  refine (HWs.out.vb _ HKw.out).mono ?_; rintro e' w2 ⟨rfl, hb2⟩
  have HBc := Lib.hid (below_2 HBc.out hb2)
  have HKw := Lib.hid (StKids.below HKw.out hb2)
  have HCw := Lib.hid (HCw.out.below hb2)
  obtain ⟨k0, k1, k2, k3, k4, k5, k6, k7, k8, k9, k10, k11, k12⟩ := HCw.out
  clear hb2
  simp only []
  repeat ((first | go_values | go_skip | go_guarded | go_step | go_upon | go_back); refine ?_)
  go_ret
  exact ⟨ret_int HV.out.symm, HBc.out⟩
end Go.Proofs.YtkjefigebdbkaaaGreatDoor.A
namespace Go.Proofs.YtkjefigebdbkaaaGreatDoor.A
open Go.RowKit
open L (Str isName prt size_len below_2 below_box ret_bool ret_int eql_eq bytes_eq isName_any)

set_option maxHeartbeats 4000000 in
set_option maxRecDepth 100000 in
theorem rstmt_g8 (s : St) (a1 : Option Addr) (c1 : Nat) (a2 : Option Addr) (c2 : Nat) (a3 : Option Addr) (c3 : Nat) (a4 : Option Addr) (c4 : Nat) (d : Nat) (hd : d ≤ 1000000) (hop : s.op = 8) (hok : okS s) (w0 : World) (hks0 : StKids w0 s a1 a2 a3 a4) :
    Calls Tryz.prog 50 #[stC s a1 c1 a2 c2 a3 c3 a4 c4, .int .i64 (d : Int)] w0 fun e' w' => e' = .returned (.int .i64 (stE s d)) ∧ Below w0.heap.size w0 w' := by
  have hU : usesV s.op = .tuple #[.bool false, .bool true, .bool false, .bool false, .bool false, .bool false] := by rw [hop]; rfl
  have hUN : uN s.op = false := by rw [hop]; rfl
  have hUM : uM s.op = true := by rw [hop]; rfl
  have hUA : uA s.op = false := by rw [hop]; rfl
  have hUB : uB s.op = false := by rw [hop]; rfl
  have hUD : uD s.op = false := by rw [hop]; rfl
  have hUE : uE s.op = false := by rw [hop]; rfl
  have ho1 : decide (s.op < 1) = false := decide_eq_false (by omega)
  have ho8 : decide (8 < s.op) = false := decide_eq_false (by omega)
  have hf6 : (s.op == 6) = false := beq_eq_false_iff_ne.2 (by omega)
  have hf8 : (s.op == 8) = true := beq_iff_eq.2 (by omega)
  have hbx := below_box w0 (stO s a1 c1 a2 c2 a3 c3 a4 c4)
  have HK := Lib.hid (hks0.below hbx)
  have HB0 := Lib.hid hbx
  have HCc := Lib.hid (stO_cells w0 s a1 c1 a2 c2 a3 c3 a4 c4)
  have HUs : Hid (∀ w, Calls Tryz.prog 80 #[.int .i64 s.op] w fun e w' => e = .returned (.tuple #[.bool false, .bool true, .bool false, .bool false, .bool false, .bool false]) ∧ w' = w) := fun w => by rw [← hU]; exact ruses_any s.op w
  have HWs := Lib.hid (stW_of s a1 c1 a2 c2 a3 a4 hok)
  have hbb := bad_bools s
  rw [hUN, hUM, hUA, hUB, hUD, hUE, ho1, ho8] at hbb
  have hbm : badM s = ((decide (s.op = 6) && (decide (s.mx < 1) || decide (16 < s.mx))) || (decide (s.op = 8) && (decide (s.mx < 0) || decide (999 < s.mx)))) := rfl
  rw [← Bool.beq_eq_decide_eq, ← Bool.beq_eq_decide_eq, hf6, hf8] at hbm
  have X1 := Lib.hid (@st_bad s d)
  have X2 := Lib.hid (@st_name s d)
  have X3 := Lib.hid (@st_rest s d)
  rw [show restE s d = (if (uA s.op && !decide (vE s.a 1 = 0)) = true then vE s.a 1 else if (uB s.op && !decide (vE s.b 1 = 0)) = true then vE s.b 1 else if 12 < d then 2 else 0) from rfl, hUA, hUB] at X3
  rw [hUN] at X2 X3
  have hbl := (okS_open hok).bodyLen
  have hel := (okS_open hok).elsLen
  obtain ⟨v1, h1⟩ : ∃ v, decide (s.name.size = 0) = v := ⟨_, rfl⟩
  obtain ⟨v2, h2⟩ : ∃ v, (s.mx != 0) = v := ⟨_, rfl⟩
  obtain ⟨v3, h3⟩ : ∃ v, absent s.a = v := ⟨_, rfl⟩
  obtain ⟨v4, h4⟩ : ∃ v, absent s.b = v := ⟨_, rfl⟩
  obtain ⟨v5, h5⟩ : ∃ v, decide (0 < (s.body.length : Int)) = v := ⟨_, rfl⟩
  obtain ⟨v6, h6⟩ : ∃ v, decide (0 < (s.els.length : Int)) = v := ⟨_, rfl⟩
  have h5' : decide (0 < s.body.length) = v5 := by rw [← h5]; exact decide_eq_decide.2 (by omega)
  have h6' : decide (0 < s.els.length) = v6 := by rw [← h6]; exact decide_eq_decide.2 (by omega)
  rw [h1, h2, h3, h4, h5, h6] at hbb
  rw [h1, h3, h4] at HWs
  have hn1 := HWs.out.name
  have hn2 := HWs.out.name2
  generalize badS s = BS at X1 X2 X3 hbb
  generalize badM s = BM at X1 X2 X3 hbm
  generalize nam s.name = NM at X2 X3 HWs
  generalize vE s.a 1 = va at X3 HWs
  generalize vE s.b 1 = vb at X3 HWs
  generalize stE s d = R at X1 X2 X3 ⊢
  have HBB := Lib.hid hbb
  have HBM := Lib.hid hbm
  unfold stO at *
  unfold stC
  clear hop hU hUN hUM hUA hUB hUD hUE hok hks0 hbx hbb hbm h1 h3 h4
  have HCw := HCc
  have HBc := HB0
  have HKw := HK
  clear HCc HB0 HK
  obtain ⟨bva, hva⟩ : ∃ b, (va != 0) = b := ⟨_, rfl⟩
  obtain ⟨bvb, hvb⟩ : ∃ b, (vb != 0) = b := ⟨_, rfl⟩
  obtain ⟨bd, hdd⟩ : ∃ b, decide (12 < (d : Int)) = b := ⟨_, rfl⟩
  obtain ⟨mlo, hlo⟩ : ∃ b, decide (s.mx < 0) = b := ⟨_, rfl⟩
  obtain ⟨mhi, hhi⟩ : ∃ b, decide (999 < s.mx) = b := ⟨_, rfl⟩
  rw [hlo, hhi] at HBM
  cases v1
  case false =>
    have HV : Hid (R = 1) := X1.out (Or.inl (by rw [HBB.out]; simp))
    go_enter Tryz.func50, Tryz.ntmps50
    obtain ⟨k0, k1, k2, k3, k4, k5, k6, k7, k8, k9, k10, k11, k12⟩ := HCw.out
    go_wp2_with fail
    refine (HUs.out _).mono ?_; rintro e' w1 ⟨rfl, hww⟩
    subst hww
    simp only []
    repeat ((first | (simp only [List.append_eq, List.cons_append, List.nil_append]) | go_values | go_skip | go_guarded | go_step | go_upon | go_back); refine ?_)
    go_ret
    exact ⟨ret_int HV.out.symm, HBc.out⟩
  cases v3
  case false =>
    have HV : Hid (R = 1) := X1.out (Or.inl (by rw [HBB.out]; simp))
    go_enter Tryz.func50, Tryz.ntmps50
    obtain ⟨k0, k1, k2, k3, k4, k5, k6, k7, k8, k9, k10, k11, k12⟩ := HCw.out
    go_wp2_with fail
    refine (HUs.out _).mono ?_; rintro e' w1 ⟨rfl, hww⟩
    subst hww
    simp only []
    repeat ((first | (simp only [List.append_eq, List.cons_append, List.nil_append]) | go_values | go_skip | go_guarded | go_step | go_upon | go_back); refine ?_)
    refine (HWs.out.aa _).mono ?_; rintro e' w2 ⟨rfl, hb2⟩
    have HBc := Lib.hid (below_2 HBc.out hb2)
    have HKw := Lib.hid (StKids.below HKw.out hb2)
    have HCw := Lib.hid (HCw.out.below hb2)
    obtain ⟨k0, k1, k2, k3, k4, k5, k6, k7, k8, k9, k10, k11, k12⟩ := HCw.out
    clear hb2
    simp only []
    repeat ((first | go_values | go_skip | go_guarded | go_step | go_upon | go_back); refine ?_)
    go_ret
    exact ⟨ret_int HV.out.symm, HBc.out⟩
  cases v4
  case false =>
    have HV : Hid (R = 1) := X1.out (Or.inl (by rw [HBB.out]; simp))
    go_enter Tryz.func50, Tryz.ntmps50
    obtain ⟨k0, k1, k2, k3, k4, k5, k6, k7, k8, k9, k10, k11, k12⟩ := HCw.out
    go_wp2_with fail
    refine (HUs.out _).mono ?_; rintro e' w1 ⟨rfl, hww⟩
    subst hww
    simp only []
    repeat ((first | (simp only [List.append_eq, List.cons_append, List.nil_append]) | go_values | go_skip | go_guarded | go_step | go_upon | go_back); refine ?_)
    refine (HWs.out.aa _).mono ?_; rintro e' w2 ⟨rfl, hb2⟩
    have HBc := Lib.hid (below_2 HBc.out hb2)
    have HKw := Lib.hid (StKids.below HKw.out hb2)
    have HCw := Lib.hid (HCw.out.below hb2)
    obtain ⟨k0, k1, k2, k3, k4, k5, k6, k7, k8, k9, k10, k11, k12⟩ := HCw.out
    clear hb2
    simp only []
    repeat ((first | go_values | go_skip | go_guarded | go_step | go_upon | go_back); refine ?_)
    refine (HWs.out.ab _).mono ?_; rintro e' w2 ⟨rfl, hb2⟩
    have HBc := Lib.hid (below_2 HBc.out hb2)
    have HKw := Lib.hid (StKids.below HKw.out hb2)
    have HCw := Lib.hid (HCw.out.below hb2)
    obtain ⟨k0, k1, k2, k3, k4, k5, k6, k7, k8, k9, k10, k11, k12⟩ := HCw.out
    clear hb2
    simp only []
    repeat ((first | go_values | go_skip | go_guarded | go_step | go_upon | go_back); refine ?_)
    go_ret
    exact ⟨ret_int HV.out.symm, HBc.out⟩
  cases v5
  case true =>
    have HV : Hid (R = 1) := X1.out (Or.inl (by rw [HBB.out]; simp))
    go_enter Tryz.func50, Tryz.ntmps50
    obtain ⟨k0, k1, k2, k3, k4, k5, k6, k7, k8, k9, k10, k11, k12⟩ := HCw.out
    go_wp2_with fail
    refine (HUs.out _).mono ?_; rintro e' w1 ⟨rfl, hww⟩
    subst hww
    simp only []
    repeat ((first | (simp only [List.append_eq, List.cons_append, List.nil_append]) | go_values | go_skip | go_guarded | go_step | go_upon | go_back); refine ?_)
    refine (HWs.out.aa _).mono ?_; rintro e' w2 ⟨rfl, hb2⟩
    have HBc := Lib.hid (below_2 HBc.out hb2)
    have HKw := Lib.hid (StKids.below HKw.out hb2)
    have HCw := Lib.hid (HCw.out.below hb2)
    obtain ⟨k0, k1, k2, k3, k4, k5, k6, k7, k8, k9, k10, k11, k12⟩ := HCw.out
    clear hb2
    simp only []
    repeat ((first | go_values | go_skip | go_guarded | go_step | go_upon | go_back); refine ?_)
    refine (HWs.out.ab _).mono ?_; rintro e' w2 ⟨rfl, hb2⟩
    have HBc := Lib.hid (below_2 HBc.out hb2)
    have HKw := Lib.hid (StKids.below HKw.out hb2)
    have HCw := Lib.hid (HCw.out.below hb2)
    obtain ⟨k0, k1, k2, k3, k4, k5, k6, k7, k8, k9, k10, k11, k12⟩ := HCw.out
    clear hb2
    simp only []
    repeat ((first | go_values | go_skip | go_guarded | go_step | go_upon | go_back); refine ?_)
    go_ret
    exact ⟨ret_int HV.out.symm, HBc.out⟩
  cases v6
  case true =>
    have HV : Hid (R = 1) := X1.out (Or.inl (by rw [HBB.out]; simp))
    go_enter Tryz.func50, Tryz.ntmps50
    obtain ⟨k0, k1, k2, k3, k4, k5, k6, k7, k8, k9, k10, k11, k12⟩ := HCw.out
    go_wp2_with fail
    refine (HUs.out _).mono ?_; rintro e' w1 ⟨rfl, hww⟩
    subst hww
    simp only []
    repeat ((first | (simp only [List.append_eq, List.cons_append, List.nil_append]) | go_values | go_skip | go_guarded | go_step | go_upon | go_back); refine ?_)
    refine (HWs.out.aa _).mono ?_; rintro e' w2 ⟨rfl, hb2⟩
    have HBc := Lib.hid (below_2 HBc.out hb2)
    have HKw := Lib.hid (StKids.below HKw.out hb2)
    have HCw := Lib.hid (HCw.out.below hb2)
    obtain ⟨k0, k1, k2, k3, k4, k5, k6, k7, k8, k9, k10, k11, k12⟩ := HCw.out
    clear hb2
    simp only []
    repeat ((first | go_values | go_skip | go_guarded | go_step | go_upon | go_back); refine ?_)
    refine (HWs.out.ab _).mono ?_; rintro e' w2 ⟨rfl, hb2⟩
    have HBc := Lib.hid (below_2 HBc.out hb2)
    have HKw := Lib.hid (StKids.below HKw.out hb2)
    have HCw := Lib.hid (HCw.out.below hb2)
    obtain ⟨k0, k1, k2, k3, k4, k5, k6, k7, k8, k9, k10, k11, k12⟩ := HCw.out
    clear hb2
    simp only []
    repeat ((first | go_values | go_skip | go_guarded | go_step | go_upon | go_back); refine ?_)
    go_ret
    exact ⟨ret_int HV.out.symm, HBc.out⟩
  cases mlo
  case true =>
    have HV : Hid (R = 1) := X1.out (Or.inr (by rw [HBM.out]; simp))
    go_enter Tryz.func50, Tryz.ntmps50
    obtain ⟨k0, k1, k2, k3, k4, k5, k6, k7, k8, k9, k10, k11, k12⟩ := HCw.out
    go_wp2_with fail
    refine (HUs.out _).mono ?_; rintro e' w1 ⟨rfl, hww⟩
    subst hww
    simp only []
    repeat ((first | (simp only [List.append_eq, List.cons_append, List.nil_append]) | go_values | go_skip | go_guarded | go_step | go_upon | go_back); refine ?_)
    refine (HWs.out.aa _).mono ?_; rintro e' w2 ⟨rfl, hb2⟩
    have HBc := Lib.hid (below_2 HBc.out hb2)
    have HKw := Lib.hid (StKids.below HKw.out hb2)
    have HCw := Lib.hid (HCw.out.below hb2)
    obtain ⟨k0, k1, k2, k3, k4, k5, k6, k7, k8, k9, k10, k11, k12⟩ := HCw.out
    clear hb2
    simp only []
    repeat ((first | go_values | go_skip | go_guarded | go_step | go_upon | go_back); refine ?_)
    refine (HWs.out.ab _).mono ?_; rintro e' w2 ⟨rfl, hb2⟩
    have HBc := Lib.hid (below_2 HBc.out hb2)
    have HKw := Lib.hid (StKids.below HKw.out hb2)
    have HCw := Lib.hid (HCw.out.below hb2)
    obtain ⟨k0, k1, k2, k3, k4, k5, k6, k7, k8, k9, k10, k11, k12⟩ := HCw.out
    clear hb2
    simp only []
    repeat ((first | go_values | go_skip | go_guarded | go_step | go_upon | go_back); refine ?_)
    go_ret
    exact ⟨ret_int HV.out.symm, HBc.out⟩
  cases mhi
  case true =>
    have HV : Hid (R = 1) := X1.out (Or.inr (by rw [HBM.out]; simp))
    go_enter Tryz.func50, Tryz.ntmps50
    obtain ⟨k0, k1, k2, k3, k4, k5, k6, k7, k8, k9, k10, k11, k12⟩ := HCw.out
    go_wp2_with fail
    refine (HUs.out _).mono ?_; rintro e' w1 ⟨rfl, hww⟩
    subst hww
    simp only []
    repeat ((first | (simp only [List.append_eq, List.cons_append, List.nil_append]) | go_values | go_skip | go_guarded | go_step | go_upon | go_back); refine ?_)
    refine (HWs.out.aa _).mono ?_; rintro e' w2 ⟨rfl, hb2⟩
    have HBc := Lib.hid (below_2 HBc.out hb2)
    have HKw := Lib.hid (StKids.below HKw.out hb2)
    have HCw := Lib.hid (HCw.out.below hb2)
    obtain ⟨k0, k1, k2, k3, k4, k5, k6, k7, k8, k9, k10, k11, k12⟩ := HCw.out
    clear hb2
    simp only []
    repeat ((first | go_values | go_skip | go_guarded | go_step | go_upon | go_back); refine ?_)
    refine (HWs.out.ab _).mono ?_; rintro e' w2 ⟨rfl, hb2⟩
    have HBc := Lib.hid (below_2 HBc.out hb2)
    have HKw := Lib.hid (StKids.below HKw.out hb2)
    have HCw := Lib.hid (HCw.out.below hb2)
    obtain ⟨k0, k1, k2, k3, k4, k5, k6, k7, k8, k9, k10, k11, k12⟩ := HCw.out
    clear hb2
    simp only []
    repeat ((first | go_values | go_skip | go_guarded | go_step | go_upon | go_back); refine ?_)
    go_ret
    exact ⟨ret_int HV.out.symm, HBc.out⟩
  cases bd
  case true =>
    have hBS : BS = false := by rw [HBB.out]; simp
    have hBM : BM = false := by rw [HBM.out]; simp
    have hR := X3.out hBS hBM (by simp)
    have HV : Hid (R = 2) := by show _ = _; rw [hR]; simp [show 12 < d by have := of_decide_eq_true hdd; omega]
    clear hBS hBM hR
    go_enter Tryz.func50, Tryz.ntmps50
    obtain ⟨k0, k1, k2, k3, k4, k5, k6, k7, k8, k9, k10, k11, k12⟩ := HCw.out
    go_wp2_with fail
    refine (HUs.out _).mono ?_; rintro e' w1 ⟨rfl, hww⟩
    subst hww
    simp only []
    repeat ((first | (simp only [List.append_eq, List.cons_append, List.nil_append]) | go_values | go_skip | go_guarded | go_step | go_upon | go_back); refine ?_)
    refine (HWs.out.aa _).mono ?_; rintro e' w2 ⟨rfl, hb2⟩
    have HBc := Lib.hid (below_2 HBc.out hb2)
    have HKw := Lib.hid (StKids.below HKw.out hb2)
    have HCw := Lib.hid (HCw.out.below hb2)
    obtain ⟨k0, k1, k2, k3, k4, k5, k6, k7, k8, k9, k10, k11, k12⟩ := HCw.out
    clear hb2
    simp only []
    repeat ((first | go_values | go_skip | go_guarded | go_step | go_upon | go_back); refine ?_)
    refine (HWs.out.ab _).mono ?_; rintro e' w2 ⟨rfl, hb2⟩
    have HBc := Lib.hid (below_2 HBc.out hb2)
    have HKw := Lib.hid (StKids.below HKw.out hb2)
    have HCw := Lib.hid (HCw.out.below hb2)
    obtain ⟨k0, k1, k2, k3, k4, k5, k6, k7, k8, k9, k10, k11, k12⟩ := HCw.out
    clear hb2
    simp only []
    repeat ((first | go_values | go_skip | go_guarded | go_step | go_upon | go_back); refine ?_)
    go_ret
    exact ⟨ret_int HV.out.symm, HBc.out⟩
  have hBS : BS = false := by rw [HBB.out]; simp
  have hBM : BM = false := by rw [HBM.out]; simp
  have hR := X3.out hBS hBM (by simp)
  have HV : Hid (R = 0) := by show _ = _; rw [hR]; simp [show ¬ 12 < d by have := of_decide_eq_false hdd; omega]
  clear hBS hBM hR
  go_enter Tryz.func50, Tryz.ntmps50
  obtain ⟨k0, k1, k2, k3, k4, k5, k6, k7, k8, k9, k10, k11, k12⟩ := HCw.out
  go_wp2_with fail
  refine (HUs.out _).mono ?_; rintro e' w1 ⟨rfl, hww⟩
  subst hww
  simp only []
  repeat ((first | (simp only [List.append_eq, List.cons_append, List.nil_append]) | go_values | go_skip | go_guarded | go_step | go_upon | go_back); refine ?_)
  refine (HWs.out.aa _).mono ?_; rintro e' w2 ⟨rfl, hb2⟩
  have HBc := Lib.hid (below_2 HBc.out hb2)
  have HKw := Lib.hid (StKids.below HKw.out hb2)
  have HCw := Lib.hid (HCw.out.below hb2)
  obtain ⟨k0, k1, k2, k3, k4, k5, k6, k7, k8, k9, k10, k11, k12⟩ := HCw.out
  clear hb2
  simp only []
  repeat ((first | go_values | go_skip | go_guarded | go_step | go_upon | go_back); refine ?_)
  refine (HWs.out.ab _).mono ?_; rintro e' w2 ⟨rfl, hb2⟩
  have HBc := Lib.hid (below_2 HBc.out hb2)
  have HKw := Lib.hid (StKids.below HKw.out hb2)
  have HCw := Lib.hid (HCw.out.below hb2)
  obtain ⟨k0, k1, k2, k3, k4, k5, k6, k7, k8, k9, k10, k11, k12⟩ := HCw.out
  clear hb2
  simp only []
  repeat ((first | go_values | go_skip | go_guarded | go_step | go_upon | go_back); refine ?_)
  go_ret
  exact ⟨ret_int HV.out.symm, HBc.out⟩
end Go.Proofs.YtkjefigebdbkaaaGreatDoor.A
namespace Go.Proofs.YtkjefigebdbkaaaGreatDoor.A

theorem rstmt : RStmt := by
  intro s a1 c1 a2 c2 a3 c3 a4 c4 d hd hok w0 hks
  by_cases h : 1 ≤ s.op ∧ s.op ≤ 8
  · obtain ⟨h1, h2⟩ := h
    have : s.op = 1 ∨ s.op = 2 ∨ s.op = 3 ∨ s.op = 4 ∨ s.op = 5 ∨ s.op = 6 ∨ s.op = 7 ∨ s.op = 8 := by omega
    rcases this with h | h | h | h | h | h | h | h
    · exact rstmt_g1 s a1 c1 a2 c2 a3 c3 a4 c4 d hd (Or.inl h) hok w0 hks
    · exact rstmt_g1 s a1 c1 a2 c2 a3 c3 a4 c4 d hd (Or.inr h) hok w0 hks
    · exact rstmt_g3 s a1 c1 a2 c2 a3 c3 a4 c4 d hd h hok w0 hks
    · exact rstmt_g4 s a1 c1 a2 c2 a3 c3 a4 c4 d hd (Or.inl h) hok w0 hks
    · exact rstmt_g5 s a1 c1 a2 c2 a3 c3 a4 c4 d hd h hok w0 hks
    · exact rstmt_g6 s a1 c1 a2 c2 a3 c3 a4 c4 d hd h hok w0 hks
    · exact rstmt_g4 s a1 c1 a2 c2 a3 c3 a4 c4 d hd (Or.inr h) hok w0 hks
    · exact rstmt_g8 s a1 c1 a2 c2 a3 c3 a4 c4 d hd h hok w0 hks
  · exact rstmt_g0 s a1 c1 a2 c2 a3 c3 a4 c4 d (by omega) w0
end Go.Proofs.YtkjefigebdbkaaaGreatDoor.A
namespace Go.Proofs.YtkjefigebdbkaaaGreatDoor.A
open Go.RowKit
open L (Str isName prt size_len below_2 below_box ret_bool ret_int eql_eq bytes_eq)

set_option maxHeartbeats 8000000 in
set_option maxRecDepth 100000 in
theorem rnames_any (p : Pr) (a1 a2 : Option Addr) (c1 c2 : Nat) (hok : OkP p) (hpl : p.params.length ≤ 1000) (w : World) (hK : PrIn w p a1 a2) :
    Calls Tryz.prog 53 #[prV p a1 c1 a2 c2] w fun e' w' => GivesN w (names p) e' w' := by
  have hb := below_box w (prO p a1 c1 a2 c2)
  have hbx := Bx.new w #[.string p.name, .slice a1 p.params.length c1, .slice a2 p.body.length c2] 25
  have HC := Lib.hid (fun w' hK => rwalk_any p a1 a2 c1 c2 hok.body hok.bodyLen w' hK)
  have HB := Lib.hid hb
  have HBX := Lib.hid hbx
  have HK := Lib.hid (hK.below hb)
  have hn : (walk p).length ≤ 401 := by unfold walk; rw [List.length_take]; omega
  have hnl := names_len p hpl
  have HND : Hid (names p = p.params.map Pm.name ++ (walk p).filterMap V.decl) := rfl
  obtain ⟨m, hm⟩ : ∃ m, p.params.length = m := ⟨_, rfl⟩
  have HL := Lib.hid hm
  unfold prO at *
  unfold prV at *
  rw [hm] at HC HB HBX HK hpl ⊢
  clear hok hK hb hbx hm
  go_enter Tryz.func53, Tryz.ntmps53
  go_wp2_with fail
  go_loopw [3, 4] (fun s3 s4 wr => ∃ (k : Nat) (l : List ByteArray) (pl : Option Addr) (ql : Nat), k ≤ m ∧ s4 = .int .i64 k ∧ s3 = .slice pl l.length ql ∧ Hid (l = (p.params.take k).map Pm.name) ∧ Hid (Own1 kN wr (w.heap.size + 1) (fun j => j < w.heap.size + 1) (.slice pl l.length ql) l) ∧ Hid (Below (w.alloc (.cells #[.string p.name, .slice a1 m c1, .slice a2 p.body.length c2] 25)).heap.size (w.alloc (.cells #[.string p.name, .slice a1 m c1, .slice a2 p.body.length c2] 25)) wr)) (fun _ i _ => m - (intOf i).toNat)
  case atStart => exact ⟨0, [], none, 0, Nat.zero_le _, rfl, rfl, rfl, Own1.nil, Below.refl _ _⟩
  case round =>
    obtain ⟨k, l, pl, ql, hk, rfl, rfl, HX, HR, HBr⟩ := hrel
    have hllk : l.length ≤ k := by have := congrArg List.length HX.out; rw [List.length_map, List.length_take] at this; omega
    have hbx := HBX.out.below HBr.out
    have x0 := hbx.cell 0
    have x1 := hbx.cell 1
    have x2 := hbx.cell 2
    simp at x0 x1 x2
    have hz1 : (w.alloc (.cells #[.string p.name, .slice a1 m c1, .slice a2 p.body.length c2] 25)).heap.size = w.heap.size + 1 := by simp
    have hz := HBr.out.size
    rw [hz1] at hz
    have HZ1 := Lib.hid hz1
    clear hz1 hbx
    by_cases hlt : k < m
    · have hlx : k < p.params.length := by rw [HL.out]; exact hlt
      obtain ⟨b3, i3, rfl, hcc⟩ := (HK.out.below HBr.out).params.open hlx
      obtain ⟨f0, f1⟩ := hcc k hlx
      have hxn := names_take hlx
      generalize p.params[k] = q at f0 f1 hxn
      have HXN : Hid (l ++ [q.name] = (p.params.take (k + 1)).map Pm.name) := by show _ = _; rw [hxn, HX.out]
      have HL6 : Hid ((l ++ [q.name]).length = l.length + 1) := by show _ = _; simp
      clear hcc hxn
      go_wp2_with (at_builtin; refine kN.wpList rfl (.tmp 14) (.tmp 21) rfl (w.heap.size + 1) (.slice pl l.length ql) l rfl HR.out.row q.name _ rfl wr.heap.size rfl rfl (by omega) (by omega) ?_; intro g6 cap6 w6 hown6 hgrow6 hlie6)
      have HR6 := Lib.hid (HR.out.push trivial (fun j hj => by omega) hown6 hgrow6 hlie6)
      have HB6 := Lib.hid (HR.out.frame (by rw [← HZ1.out]; exact HBr.out) hz hgrow6)
      clear hown6 hgrow6 hlie6
      go_wp2_with fail
      go_roundw
      case rel => exact ⟨k + 1, l ++ [q.name], some ⟨g6, 0, none⟩, cap6, by omega, by go_num, by rw [HL6.out], HXN.out, by show Own1 _ _ _ _ _ _; rw [HL6.out]; exact HR6.out, by show Below _ _ _; rw [HZ1.out]; exact HB6.out⟩
      case measure => simp [intOf]; omega
    · have hX := HX.out
      rw [List.take_of_length_le (by rw [HL.out]; omega)] at hX
      have HX0 := Lib.hid hX
      have HC2 := Lib.hid (HC.out wr (HK.out.below HBr.out).body)
      clear hX
      go_wp2_with fail
      refine HC2.out.mono ?_; rintro e w2 ⟨p3, q3, l', rfl, ho, hi, hv, hb2⟩
      have HO := Lib.hid ho
      have HW := Lib.hid hv
      have HB2 := Lib.hid hb2
      have HR2 := Lib.hid (HR.out.below hb2)
      have hz2 := hb2.size
      have hln : l'.length ≤ 401 := by rw [← vs_len, hv]; exact hn
      clear ho hi hv hb2 x0 x1 x2
      go_wp2_with fail
      go_loopw [3, 6] (fun s3 s6 w3 => ∃ (k2 : Nat) (l2 : List ByteArray) (pl : Option Addr) (ql : Nat), k2 ≤ l'.length ∧ s6 = .int .i64 k2 ∧ s3 = .slice pl l2.length ql ∧ Hid (l2 = l ++ ((walk p).take k2).filterMap V.decl) ∧ Hid (Own1 kN w3 (w.heap.size + 1) (fun j => j < w.heap.size + 1) (.slice pl l2.length ql) l2) ∧ Hid (∀ g, p3 = some ⟨g, 0, none⟩ → w3.heap[g]? = w2.heap[g]? ∧ (Value.slice pl l2.length ql).ownBlock ≠ some g) ∧ Hid (Below (w.heap.size + 1) w2 w3)) (fun _ i _ => l'.length - (intOf i).toNat)
      case atStart =>
        refine ⟨0, l, pl, ql, Nat.zero_le _, rfl, rfl, (List.append_nil l).symm, HR2.out, fun g hg => ⟨rfl, fun h => ?_⟩, Below.refl _ _⟩
        have h1 := (HR.out.lt g h).2
        have h2 := (World.ownsRow.lt HO.out g (by rw [hg]; rfl)).1
        omega
      case round =>
        obtain ⟨k2, l2, pl2, ql2, hk2, rfl, rfl, HX2, HR3, HG, HBs⟩ := hrel
        have hll2 : l2.length ≤ 1000 + k2 := by
          have := congrArg List.length HX2.out
          rw [List.length_append] at this
          have h2 := fm_le V.decl (walk p) k2
          omega
        have hz3 := HBs.out.size
        by_cases hlt2 : k2 < l'.length
        · obtain ⟨g3, rfl, hcell⟩ := visit_cells HO.out hlt2
          have hlw : k2 < (walk p).length := by rw [← HW.out, vs_len]; exact hlt2
          have hvk : (walk p)[k2] = (l'[k2]).v := by simp only [← HW.out, vs, List.getElem_map]
          have hxt := fm_take V.decl hlw
          rw [hvk] at hxt
          obtain ⟨hgh, hgn⟩ := HG.out g3 rfl
          have hcr : ∀ r, r < 20 → wr.cell? ⟨g3, k2 * 20 + r, none⟩ = (l'[k2]).cells[r]? := fun r hr => (World.cell?_of_block (w := w2) (by exact hgh)).trans (hcell r hr)
          generalize l'[k2] = y at hcr hxt
          clear hvk hlw hcell
          cases y with
          | ex e r a5 c5 =>
            have f0 : wr.cell? ⟨g3, k2 * 20, none⟩ = some (.bool false) := hcr 0 (by omega)
            have HX3 : Hid (l2 = l ++ ((walk p).take (k2 + 1)).filterMap V.decl) := by show _ = _; rw [hxt, ← List.append_assoc, ← HX2.out]; exact (List.append_nil _).symm
            clear hcr hxt
            go_wp2_with fail
            go_roundw
            case rel => exact ⟨k2 + 1, l2, pl2, ql2, by omega, by go_num, rfl, HX3.out, HR3.out, HG.out, HBs.out⟩
            case measure => simp [intOf]; omega
          | st s d a5 c5 a6 c6 a7 c7 a8 c8 =>
            have f0 : wr.cell? ⟨g3, k2 * 20, none⟩ = some (.bool true) := hcr 0 (by omega)
            have f1 : wr.cell? ⟨g3, k2 * 20 + 1, none⟩ = some (.int .i64 s.op) := hcr 1 (by omega)
            have f2 : wr.cell? ⟨g3, k2 * 20 + 2, none⟩ = some (.string s.name) := hcr 2 (by omega)
            have hd : V.decl (VT.st s d a5 c5 a6 c6 a7 c7 a8 c8).v = if s.op = 1 ∨ s.op = 6 then some s.name else none := rfl
            rw [hd] at hxt
            by_cases hop : s.op = 1 ∨ s.op = 6
            · rw [if_pos hop] at hxt
              have HX3 : Hid (l2 ++ [s.name] = l ++ ((walk p).take (k2 + 1)).filterMap V.decl) := by show _ = _; rw [hxt, ← List.append_assoc, ← HX2.out]
              have HL6 : Hid ((l2 ++ [s.name]).length = l2.length + 1) := by show _ = _; simp
              have t2 : wr.cell? ⟨g3, k2 * 20 + 1 + 1, none⟩ = some (.string s.name) := f2
              have hg3 := block_lt_of_cell f0
              clear hcr hxt hd
              rcases hop with hop | hop
              all_goals
                rw [hop] at f1
                clear hop
                go_wp2_with (at_builtin; refine kN.wpList rfl (.tmp 54) (.tmp 61) rfl (w.heap.size + 1) (.slice pl2 l2.length ql2) l2 rfl HR3.out.row s.name _ rfl wr.heap.size rfl rfl (by omega) (by omega) ?_; intro g6 cap6 w6 hown6 hgrow6 hlie6)
                have HR6 := Lib.hid (HR3.out.push trivial (fun j hj => by omega) hown6 hgrow6 hlie6)
                have HB6 := Lib.hid (HR3.out.frame HBs.out (by omega) hgrow6)
                have HG6 : Hid (∀ g, (some ⟨g3, 0, none⟩ : Option Addr) = some ⟨g, 0, none⟩ → w6.heap[g]? = w2.heap[g]? ∧ (Value.slice (some ⟨g6, 0, none⟩) (l2.length + 1) cap6).ownBlock ≠ some g) := fun g hg => by
                  have hgg : g3 = g := by injection hg with h; injection h
                  subst hgg
                  refine ⟨((hgrow6.block g3 (by simp; exact Nat.lt_succ_of_lt hg3) (fun e => hgn e.symm)).trans (Below.heap_alloc wr _ g3 hg3)).trans hgh, fun h => ?_⟩
                  have h6 : g6 = g3 := by injection h
                  rcases hlie6 with h7 | h7
                  · exact hgn (by rw [h7, h6])
                  · have hlt9 : g3 < wr.heap.size := hg3
                    omega
                clear hown6 hgrow6 hlie6
                go_wp2_with fail
                go_roundw
                case rel => exact ⟨k2 + 1, l2 ++ [s.name], some ⟨g6, 0, none⟩, cap6, by omega, by go_num, by rw [HL6.out], HX3.out, by show Own1 _ _ _ _ _ _; rw [HL6.out]; exact HR6.out, by intro g hg; rw [HL6.out]; exact HG6.out g hg, HB6.out⟩
                case measure => simp [intOf]; omega
            · rw [if_neg hop] at hxt
              have HX3 : Hid (l2 = l ++ ((walk p).take (k2 + 1)).filterMap V.decl) := by show _ = _; rw [hxt, ← List.append_assoc, ← HX2.out]; exact (List.append_nil _).symm
              have o1 : (s.op == 1) = false := beq_eq_false_iff_ne.2 (by omega)
              have o6 : (s.op == 6) = false := beq_eq_false_iff_ne.2 (by omega)
              clear hcr hxt hd hop
              go_wp2_with fail
              go_roundw
              case rel => exact ⟨k2 + 1, l2, pl2, ql2, by omega, by go_num, rfl, HX3.out, HR3.out, HG.out, HBs.out⟩
              case measure => simp [intOf]; omega
        · have hX2 := HX2.out
          rw [List.take_of_length_le (by rw [← HW.out, vs_len]; omega), HX0.out, ← HND.out] at hX2
          obtain ⟨_, _, hsh, hle⟩ := HR3.out.shape
          have hq : l2.length ≤ ql2 := by injection hsh with h1 h2 h3; omega
          have HV : Hid (GivesN w (names p) (.returned (.slice pl2 l2.length ql2)) wr) := by
            refine ⟨pl2, ql2, by rw [hX2], by rw [← hX2]; exact hq, by rw [← hX2]; exact HR3.out.strs, ?_⟩
            exact (below_2 HB.out (below_2 HBr.out HB2.out)).trans (HBs.out.mono (Nat.le_succ _))
          clear hX2 hsh hle hq
          go_wp2_with fail
          go_ret
          exact HV.out
end Go.Proofs.YtkjefigebdbkaaaGreatDoor.A
