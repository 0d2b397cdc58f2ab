/-
  What the reference of layer 8 returns: stmt, for the operators of one kind.
  What the reference of layer 8 returns: stmt, for the operators of one kind.
  What the reference of layer 8 returns: stmt: its contract.
  What the reference of layer 8 returns: Exprs, Names: contracts.
  What the reach gives of the walk's expressions.
-/
import Derived.Test.YtkjefigebdbkaaaGreatDoorN10
import Derived.Test.YtkjefigebdbkaaaGreatDoorN11
import Derived.Test.YtkjefigebdbkaaaGreatDoorN08
import Derived.Test.YtkjefigebdbkaaaGreatDoorN03
namespace Go.Proofs.YtkjefigebdbkaaaGreatDoor.A
open Go.RowKit
open L (Str isName prt size_len below_2 below_box ret_bool ret_int eql_eq bytes_eq isName_any)

set_option maxHeartbeats 4000000 in
set_option maxRecDepth 100000 in
theorem rstmt_g6 (s : St) (a1 : Option Addr) (c1 : Nat) (a2 : Option Addr) (c2 : Nat) (a3 : Option Addr) (c3 : Nat) (a4 : Option Addr) (c4 : Nat) (d : Nat) (hd : d ≤ 1000000) (hop : s.op = 6) (hok : okS s) (w0 : World) (hks0 : StKids w0 s a1 a2 a3 a4) :
    Calls Tryz.prog 50 #[stC s a1 c1 a2 c2 a3 c3 a4 c4, .int .i64 (d : Int)] w0 fun e' w' => e' = .returned (.int .i64 (stE s d)) ∧ Below w0.heap.size w0 w' := by
  have hU : usesV s.op = .tuple #[.bool true, .bool true, .bool true, .bool true, .bool true, .bool false] := by rw [hop]; rfl
  have hUN : uN s.op = true := by rw [hop]; rfl
  have hUM : uM s.op = true := by rw [hop]; rfl
  have hUA : uA s.op = true := by rw [hop]; rfl
  have hUB : uB s.op = true := by rw [hop]; rfl
  have hUD : uD s.op = true := by rw [hop]; rfl
  have hUE : uE s.op = false := by rw [hop]; rfl
  have ho1 : decide (s.op < 1) = false := decide_eq_false (by omega)
  have ho8 : decide (8 < s.op) = false := decide_eq_false (by omega)
  have hf6 : (s.op == 6) = true := beq_iff_eq.2 (by omega)
  have hf8 : (s.op == 8) = false := beq_eq_false_iff_ne.2 (by omega)
  have hbx := below_box w0 (stO s a1 c1 a2 c2 a3 c3 a4 c4)
  have HK := Lib.hid (hks0.below hbx)
  have HB0 := Lib.hid hbx
  have HCc := Lib.hid (stO_cells w0 s a1 c1 a2 c2 a3 c3 a4 c4)
  have HUs : Hid (∀ w, Calls Tryz.prog 80 #[.int .i64 s.op] w fun e w' => e = .returned (.tuple #[.bool true, .bool true, .bool true, .bool true, .bool true, .bool false]) ∧ w' = w) := fun w => by rw [← hU]; exact ruses_any s.op w
  have HWs := Lib.hid (stW_of s a1 c1 a2 c2 a3 a4 hok)
  have hbb := bad_bools s
  rw [hUN, hUM, hUA, hUB, hUD, hUE, ho1, ho8] at hbb
  have hbm : badM s = ((decide (s.op = 6) && (decide (s.mx < 1) || decide (16 < s.mx))) || (decide (s.op = 8) && (decide (s.mx < 0) || decide (999 < s.mx)))) := rfl
  rw [← Bool.beq_eq_decide_eq, ← Bool.beq_eq_decide_eq, hf6, hf8] at hbm
  have X1 := Lib.hid (@st_bad s d)
  have X2 := Lib.hid (@st_name s d)
  have X3 := Lib.hid (@st_rest s d)
  rw [show restE s d = (if (uA s.op && !decide (vE s.a 1 = 0)) = true then vE s.a 1 else if (uB s.op && !decide (vE s.b 1 = 0)) = true then vE s.b 1 else if 12 < d then 2 else 0) from rfl, hUA, hUB] at X3
  rw [hUN] at X2 X3
  have hbl := (okS_open hok).bodyLen
  have hel := (okS_open hok).elsLen
  obtain ⟨v1, h1⟩ : ∃ v, decide (s.name.size = 0) = v := ⟨_, rfl⟩
  obtain ⟨v2, h2⟩ : ∃ v, (s.mx != 0) = v := ⟨_, rfl⟩
  obtain ⟨v3, h3⟩ : ∃ v, absent s.a = v := ⟨_, rfl⟩
  obtain ⟨v4, h4⟩ : ∃ v, absent s.b = v := ⟨_, rfl⟩
  obtain ⟨v5, h5⟩ : ∃ v, decide (0 < (s.body.length : Int)) = v := ⟨_, rfl⟩
  obtain ⟨v6, h6⟩ : ∃ v, decide (0 < (s.els.length : Int)) = v := ⟨_, rfl⟩
  have h5' : decide (0 < s.body.length) = v5 := by rw [← h5]; exact decide_eq_decide.2 (by omega)
  have h6' : decide (0 < s.els.length) = v6 := by rw [← h6]; exact decide_eq_decide.2 (by omega)
  rw [h1, h2, h3, h4, h5, h6] at hbb
  rw [h1, h3, h4] at HWs
  have hn1 := HWs.out.name
  have hn2 := HWs.out.name2
  generalize badS s = BS at X1 X2 X3 hbb
  generalize badM s = BM at X1 X2 X3 hbm
  generalize nam s.name = NM at X2 X3 HWs
  generalize vE s.a 1 = va at X3 HWs
  generalize vE s.b 1 = vb at X3 HWs
  generalize stE s d = R at X1 X2 X3 ⊢
  have HBB := Lib.hid hbb
  have HBM := Lib.hid hbm
  unfold stO at *
  unfold stC
  clear hop hU hUN hUM hUA hUB hUD hUE hok hks0 hbx hbb hbm h1 h3 h4
  have HCw := HCc
  have HBc := HB0
  have HKw := HK
  clear HCc HB0 HK
  obtain ⟨bva, hva⟩ : ∃ b, (va != 0) = b := ⟨_, rfl⟩
  obtain ⟨bvb, hvb⟩ : ∃ b, (vb != 0) = b := ⟨_, rfl⟩
  obtain ⟨bd, hdd⟩ : ∃ b, decide (12 < (d : Int)) = b := ⟨_, rfl⟩
  obtain ⟨mlo, hlo⟩ : ∃ b, decide (s.mx < 1) = b := ⟨_, rfl⟩
  obtain ⟨mhi, hhi⟩ : ∃ b, decide (16 < s.mx) = b := ⟨_, rfl⟩
  rw [hlo, hhi] at HBM
  cases v6
  case true =>
    have HV : Hid (R = 1) := X1.out (Or.inl (by rw [HBB.out]; simp))
    go_enter Tryz.func50, Tryz.ntmps50
    obtain ⟨k0, k1, k2, k3, k4, k5, k6, k7, k8, k9, k10, k11, k12⟩ := HCw.out
    go_wp2_with fail
    refine (HUs.out _).mono ?_; rintro e' w1 ⟨rfl, hww⟩
    subst hww
    simp only []
    repeat ((first | (simp only [List.append_eq, List.cons_append, List.nil_append]) | go_values | go_skip | go_guarded | go_step | go_upon | go_back); refine ?_)
    go_ret
    exact ⟨ret_int HV.out.symm, HBc.out⟩
  cases mlo
  case true =>
    have HV : Hid (R = 1) := X1.out (Or.inr (by rw [HBM.out]; simp))
    go_enter Tryz.func50, Tryz.ntmps50
    obtain ⟨k0, k1, k2, k3, k4, k5, k6, k7, k8, k9, k10, k11, k12⟩ := HCw.out
    go_wp2_with fail
    refine (HUs.out _).mono ?_; rintro e' w1 ⟨rfl, hww⟩
    subst hww
    simp only []
    repeat ((first | (simp only [List.append_eq, List.cons_append, List.nil_append]) | go_values | go_skip | go_guarded | go_step | go_upon | go_back); refine ?_)
    go_ret
    exact ⟨ret_int HV.out.symm, HBc.out⟩
  cases mhi
  case true =>
    have HV : Hid (R = 1) := X1.out (Or.inr (by rw [HBM.out]; simp))
    go_enter Tryz.func50, Tryz.ntmps50
    obtain ⟨k0, k1, k2, k3, k4, k5, k6, k7, k8, k9, k10, k11, k12⟩ := HCw.out
    go_wp2_with fail
    refine (HUs.out _).mono ?_; rintro e' w1 ⟨rfl, hww⟩
    subst hww
    simp only []
    repeat ((first | (simp only [List.append_eq, List.cons_append, List.nil_append]) | go_values | go_skip | go_guarded | go_step | go_upon | go_back); refine ?_)
    go_ret
    exact ⟨ret_int HV.out.symm, HBc.out⟩
  cases NM
  case false =>
    have hBS : BS = false := by rw [HBB.out]; simp
    have hBM : BM = false := by rw [HBM.out]; simp
    have HV : Hid (R = 7) := X2.out hBS hBM (by trivial) (by trivial)
    clear hBS hBM
    go_enter Tryz.func50, Tryz.ntmps50
    obtain ⟨k0, k1, k2, k3, k4, k5, k6, k7, k8, k9, k10, k11, k12⟩ := HCw.out
    go_wp2_with fail
    refine (HUs.out _).mono ?_; rintro e' w1 ⟨rfl, hww⟩
    subst hww
    simp only []
    repeat ((first | (simp only [List.append_eq, List.cons_append, List.nil_append]) | go_values | go_skip | go_guarded | go_step | go_upon | go_back); refine ?_)
    refine (HWs.out.nam _).mono ?_; rintro e' w2 ⟨rfl, hb2⟩
    have HBc := Lib.hid (below_2 HBc.out hb2)
    have HKw := Lib.hid (StKids.below HKw.out hb2)
    have HCw := Lib.hid (HCw.out.below hb2)
    obtain ⟨k0, k1, k2, k3, k4, k5, k6, k7, k8, k9, k10, k11, k12⟩ := HCw.out
    clear hb2
    simp only []
    repeat ((first | go_values | go_skip | go_guarded | go_step | go_upon | go_back); refine ?_)
    go_ret
    exact ⟨ret_int HV.out.symm, HBc.out⟩
  cases bva
  case true =>
    have hBS : BS = false := by rw [HBB.out]; simp
    have hBM : BM = false := by rw [HBM.out]; simp
    have hR := X3.out hBS hBM (by simp)
    have HV : Hid (R = va) := by show _ = _; rw [hR]; simp [bne_iff_ne.1 hva]
    clear hBS hBM hR
    go_enter Tryz.func50, Tryz.ntmps50
    obtain ⟨k0, k1, k2, k3, k4, k5, k6, k7, k8, k9, k10, k11, k12⟩ := HCw.out
    go_wp2_with fail
    refine (HUs.out _).mono ?_; rintro e' w1 ⟨rfl, hww⟩
    subst hww
    simp only []
    repeat ((first | (simp only [List.append_eq, List.cons_append, List.nil_append]) | go_values | go_skip | go_guarded | go_step | go_upon | go_back); refine ?_)
    refine (HWs.out.nam _).mono ?_; rintro e' w2 ⟨rfl, hb2⟩
    have HBc := Lib.hid (below_2 HBc.out hb2)
    have HKw := Lib.hid (StKids.below HKw.out hb2)
    have HCw := Lib.hid (HCw.out.below hb2)
    obtain ⟨k0, k1, k2, k3, k4, k5, k6, k7, k8, k9, k10, k11, k12⟩ := HCw.out
    clear hb2
    simp only []
    repeat ((first | go_values | go_skip | go_guarded | go_step | go_upon | go_back); refine ?_)
    refine (HWs.out.va _ HKw.out).mono ?_; rintro e' w2 ⟨rfl, hb2⟩
    have HBc := Lib.hid (below_2 HBc.out hb2)
    have HKw := Lib.hid (StKids.below HKw.out hb2)
    have HCw := Lib.hid (HCw.out.below hb2)
    obtain ⟨k0, k1, k2, k3, k4, k5, k6, k7, k8, k9, k10, k11, k12⟩ := HCw.out
    clear hb2
    simp only []
    repeat ((first | go_values | go_skip | go_guarded | go_step | go_upon | go_back); refine ?_)
    go_ret
    exact ⟨ret_int HV.out.symm, HBc.out⟩
  cases bvb
  case true =>
    have hBS : BS = false := by rw [HBB.out]; simp
    have hBM : BM = false := by rw [HBM.out]; simp
    have hR := X3.out hBS hBM (by simp)
    have HV : Hid (R = vb) := by show _ = _; rw [hR]; simp [bne_eq_false_iff_eq.1 hva, bne_iff_ne.1 hvb]
    clear hBS hBM hR
    go_enter Tryz.func50, Tryz.ntmps50
    obtain ⟨k0, k1, k2, k3, k4, k5, k6, k7, k8, k9, k10, k11, k12⟩ := HCw.out
    go_wp2_with fail
    refine (HUs.out _).mono ?_; rintro e' w1 ⟨rfl, hww⟩
    subst hww
    simp only []
    repeat ((first | (simp only [List.append_eq, List.cons_append, List.nil_append]) | go_values | go_skip | go_guarded | go_step | go_upon | go_back); refine ?_)
    refine (HWs.out.nam _).mono ?_; rintro e' w2 ⟨rfl, hb2⟩
    have HBc := Lib.hid (below_2 HBc.out hb2)
    have HKw := Lib.hid (StKids.below HKw.out hb2)
    have HCw := Lib.hid (HCw.out.below hb2)
    obtain ⟨k0, k1, k2, k3, k4, k5, k6, k7, k8, k9, k10, k11, k12⟩ := HCw.out
    clear hb2
    simp only []
    repeat ((first | go_values | go_skip | go_guarded | go_step | go_upon | go_back); refine ?_)
    refine (HWs.out.va _ HKw.out).mono ?_; rintro e' w2 ⟨rfl, hb2⟩
    have HBc := Lib.hid (below_2 HBc.out hb2)
    have HKw := Lib.hid (StKids.below HKw.out hb2)
    have HCw := Lib.hid (HCw.out.below hb2)
    obtain ⟨k0, k1, k2, k3, k4, k5, k6, k7, k8, k9, k10, k11, k12⟩ := HCw.out
    clear hb2
    simp only []
    repeat ((first | go_values | go_skip | go_guarded | go_step | go_upon | go_back); refine ?_)
    refine (HWs.out.vb _ HKw.out).mono ?_; rintro e' w2 ⟨rfl, hb2⟩
    have HBc := Lib.hid (below_2 HBc.out hb2)
    have HKw := Lib.hid (StKids.below HKw.out hb2)
    have HCw := Lib.hid (HCw.out.below hb2)
    obtain ⟨k0, k1, k2, k3, k4, k5, k6, k7, k8, k9, k10, k11, k12⟩ := HCw.out
    clear hb2
    simp only []
    repeat ((first | go_values | go_skip | go_guarded | go_step | go_upon | go_back); refine ?_)
    go_ret
    exact ⟨ret_int HV.out.symm, HBc.out⟩
  cases bd
  case true =>
    have hBS : BS = false := by rw [HBB.out]; simp
    have hBM : BM = false := by rw [HBM.out]; simp
    have hR := X3.out hBS hBM (by simp)
    have HV : Hid (R = 2) := by show _ = _; rw [hR]; simp [bne_eq_false_iff_eq.1 hva, bne_eq_false_iff_eq.1 hvb, show 12 < d by have := of_decide_eq_true hdd; omega]
    clear hBS hBM hR
    go_enter Tryz.func50, Tryz.ntmps50
    obtain ⟨k0, k1, k2, k3, k4, k5, k6, k7, k8, k9, k10, k11, k12⟩ := HCw.out
    go_wp2_with fail
    refine (HUs.out _).mono ?_; rintro e' w1 ⟨rfl, hww⟩
    subst hww
    simp only []
    repeat ((first | (simp only [List.append_eq, List.cons_append, List.nil_append]) | go_values | go_skip | go_guarded | go_step | go_upon | go_back); refine ?_)
    refine (HWs.out.nam _).mono ?_; rintro e' w2 ⟨rfl, hb2⟩
    have HBc := Lib.hid (below_2 HBc.out hb2)
    have HKw := Lib.hid (StKids.below HKw.out hb2)
    have HCw := Lib.hid (HCw.out.below hb2)
    obtain ⟨k0, k1, k2, k3, k4, k5, k6, k7, k8, k9, k10, k11, k12⟩ := HCw.out
    clear hb2
    simp only []
    repeat ((first | go_values | go_skip | go_guarded | go_step | go_upon | go_back); refine ?_)
    refine (HWs.out.va _ HKw.out).mono ?_; rintro e' w2 ⟨rfl, hb2⟩
    have HBc := Lib.hid (below_2 HBc.out hb2)
    have HKw := Lib.hid (StKids.below HKw.out hb2)
    have HCw := Lib.hid (HCw.out.below hb2)
    obtain ⟨k0, k1, k2, k3, k4, k5, k6, k7, k8, k9, k10, k11, k12⟩ := HCw.out
    clear hb2
    simp only []
    repeat ((first | go_values | go_skip | go_guarded | go_step | go_upon | go_back); refine ?_)
    refine (HWs.out.vb _ HKw.out).mono ?_; rintro e' w2 ⟨rfl, hb2⟩
    have HBc := Lib.hid (below_2 HBc.out hb2)
    have HKw := Lib.hid (StKids.below HKw.out hb2)
    have HCw := Lib.hid (HCw.out.below hb2)
    obtain ⟨k0, k1, k2, k3, k4, k5, k6, k7, k8, k9, k10, k11, k12⟩ := HCw.out
    clear hb2
    simp only []
    repeat ((first | go_values | go_skip | go_guarded | go_step | go_upon | go_back); refine ?_)
    go_ret
    exact ⟨ret_int HV.out.symm, HBc.out⟩
  have hBS : BS = false := by rw [HBB.out]; simp
  have hBM : BM = false := by rw [HBM.out]; simp
  have hR := X3.out hBS hBM (by simp)
  have HV : Hid (R = 0) := by show _ = _; rw [hR]; simp [bne_eq_false_iff_eq.1 hva, bne_eq_false_iff_eq.1 hvb, show ¬ 12 < d by have := of_decide_eq_false hdd; omega]
  clear hBS hBM hR
  go_enter Tryz.func50, Tryz.ntmps50
  obtain ⟨k0, k1, k2, k3, k4, k5, k6, k7, k8, k9, k10, k11, k12⟩ := HCw.out
  go_wp2_with fail
  refine (HUs.out _).mono ?_; rintro e' w1 ⟨rfl, hww⟩
  subst hww
  simp only []
  repeat ((first | (simp only [List.append_eq, List.cons_append, List.nil_append]) | go_values | go_skip | go_guarded | go_step | go_upon | go_back); refine ?_)
  refine (HWs.out.nam _).mono ?_; rintro e' w2 ⟨rfl, hb2⟩
  have HBc := Lib.hid (below_2 HBc.out hb2)
  have HKw := Lib.hid (StKids.below HKw.out hb2)
  have HCw := Lib.hid (HCw.out.below hb2)
  obtain ⟨k0, k1, k2, k3, k4, k5, k6, k7, k8, k9, k10, k11, k12⟩ := HCw.out
  clear hb2
  simp only []
  repeat ((first | go_values | go_skip | go_guarded | go_step | go_upon | go_back); refine ?_)
  refine (HWs.out.va _ HKw.out).mono ?_; rintro e' w2 ⟨rfl, hb2⟩
  have HBc := Lib.hid (below_2 HBc.out hb2)
  have HKw := Lib.hid (StKids.below HKw.out hb2)
  have HCw := Lib.hid (HCw.out.below hb2)
  obtain ⟨k0, k1, k2, k3, k4, k5, k6, k7, k8, k9, k10, k11, k12⟩ := HCw.out
  clear hb2
  simp only []
  repeat ((first | go_values | go_skip | go_guarded | go_step | go_upon | go_back); refine ?_)
  refine (HWs.out.vb _ HKw.out).mono ?_; rintro e' w2 ⟨rfl, hb2⟩
  have HBc := Lib.hid (below_2 HBc.out hb2)
  have HKw := Lib.hid (StKids.below HKw.out hb2)
  have HCw := Lib.hid (HCw.out.below hb2)
  obtain ⟨k0, k1, k2, k3, k4, k5, k6, k7, k8, k9, k10, k11, k12⟩ := HCw.out
  clear hb2
  simp only []
  repeat ((first | go_values | go_skip | go_guarded | go_step | go_upon | go_back); refine ?_)
  go_ret
  exact ⟨ret_int HV.out.symm, HBc.out⟩
end Go.Proofs.YtkjefigebdbkaaaGreatDoor.A
namespace Go.Proofs.YtkjefigebdbkaaaGreatDoor.A
open Go.RowKit
open L (Str isName prt size_len below_2 below_box ret_bool ret_int eql_eq bytes_eq isName_any)

set_option maxHeartbeats 4000000 in
set_option maxRecDepth 100000 in
theorem rstmt_g8 (s : St) (a1 : Option Addr) (c1 : Nat) (a2 : Option Addr) (c2 : Nat) (a3 : Option Addr) (c3 : Nat) (a4 : Option Addr) (c4 : Nat) (d : Nat) (hd : d ≤ 1000000) (hop : s.op = 8) (hok : okS s) (w0 : World) (hks0 : StKids w0 s a1 a2 a3 a4) :
    Calls Tryz.prog 50 #[stC s a1 c1 a2 c2 a3 c3 a4 c4, .int .i64 (d : Int)] w0 fun e' w' => e' = .returned (.int .i64 (stE s d)) ∧ Below w0.heap.size w0 w' := by
  have hU : usesV s.op = .tuple #[.bool false, .bool true, .bool false, .bool false, .bool false, .bool false] := by rw [hop]; rfl
  have hUN : uN s.op = false := by rw [hop]; rfl
  have hUM : uM s.op = true := by rw [hop]; rfl
  have hUA : uA s.op = false := by rw [hop]; rfl
  have hUB : uB s.op = false := by rw [hop]; rfl
  have hUD : uD s.op = false := by rw [hop]; rfl
  have hUE : uE s.op = false := by rw [hop]; rfl
  have ho1 : decide (s.op < 1) = false := decide_eq_false (by omega)
  have ho8 : decide (8 < s.op) = false := decide_eq_false (by omega)
  have hf6 : (s.op == 6) = false := beq_eq_false_iff_ne.2 (by omega)
  have hf8 : (s.op == 8) = true := beq_iff_eq.2 (by omega)
  have hbx := below_box w0 (stO s a1 c1 a2 c2 a3 c3 a4 c4)
  have HK := Lib.hid (hks0.below hbx)
  have HB0 := Lib.hid hbx
  have HCc := Lib.hid (stO_cells w0 s a1 c1 a2 c2 a3 c3 a4 c4)
  have HUs : Hid (∀ w, Calls Tryz.prog 80 #[.int .i64 s.op] w fun e w' => e = .returned (.tuple #[.bool false, .bool true, .bool false, .bool false, .bool false, .bool false]) ∧ w' = w) := fun w => by rw [← hU]; exact ruses_any s.op w
  have HWs := Lib.hid (stW_of s a1 c1 a2 c2 a3 a4 hok)
  have hbb := bad_bools s
  rw [hUN, hUM, hUA, hUB, hUD, hUE, ho1, ho8] at hbb
  have hbm : badM s = ((decide (s.op = 6) && (decide (s.mx < 1) || decide (16 < s.mx))) || (decide (s.op = 8) && (decide (s.mx < 0) || decide (999 < s.mx)))) := rfl
  rw [← Bool.beq_eq_decide_eq, ← Bool.beq_eq_decide_eq, hf6, hf8] at hbm
  have X1 := Lib.hid (@st_bad s d)
  have X2 := Lib.hid (@st_name s d)
  have X3 := Lib.hid (@st_rest s d)
  rw [show restE s d = (if (uA s.op && !decide (vE s.a 1 = 0)) = true then vE s.a 1 else if (uB s.op && !decide (vE s.b 1 = 0)) = true then vE s.b 1 else if 12 < d then 2 else 0) from rfl, hUA, hUB] at X3
  rw [hUN] at X2 X3
  have hbl := (okS_open hok).bodyLen
  have hel := (okS_open hok).elsLen
  obtain ⟨v1, h1⟩ : ∃ v, decide (s.name.size = 0) = v := ⟨_, rfl⟩
  obtain ⟨v2, h2⟩ : ∃ v, (s.mx != 0) = v := ⟨_, rfl⟩
  obtain ⟨v3, h3⟩ : ∃ v, absent s.a = v := ⟨_, rfl⟩
  obtain ⟨v4, h4⟩ : ∃ v, absent s.b = v := ⟨_, rfl⟩
  obtain ⟨v5, h5⟩ : ∃ v, decide (0 < (s.body.length : Int)) = v := ⟨_, rfl⟩
  obtain ⟨v6, h6⟩ : ∃ v, decide (0 < (s.els.length : Int)) = v := ⟨_, rfl⟩
  have h5' : decide (0 < s.body.length) = v5 := by rw [← h5]; exact decide_eq_decide.2 (by omega)
  have h6' : decide (0 < s.els.length) = v6 := by rw [← h6]; exact decide_eq_decide.2 (by omega)
  rw [h1, h2, h3, h4, h5, h6] at hbb
  rw [h1, h3, h4] at HWs
  have hn1 := HWs.out.name
  have hn2 := HWs.out.name2
  generalize badS s = BS at X1 X2 X3 hbb
  generalize badM s = BM at X1 X2 X3 hbm
  generalize nam s.name = NM at X2 X3 HWs
  generalize vE s.a 1 = va at X3 HWs
  generalize vE s.b 1 = vb at X3 HWs
  generalize stE s d = R at X1 X2 X3 ⊢
  have HBB := Lib.hid hbb
  have HBM := Lib.hid hbm
  unfold stO at *
  unfold stC
  clear hop hU hUN hUM hUA hUB hUD hUE hok hks0 hbx hbb hbm h1 h3 h4
  have HCw := HCc
  have HBc := HB0
  have HKw := HK
  clear HCc HB0 HK
  obtain ⟨bva, hva⟩ : ∃ b, (va != 0) = b := ⟨_, rfl⟩
  obtain ⟨bvb, hvb⟩ : ∃ b, (vb != 0) = b := ⟨_, rfl⟩
  obtain ⟨bd, hdd⟩ : ∃ b, decide (12 < (d : Int)) = b := ⟨_, rfl⟩
  obtain ⟨mlo, hlo⟩ : ∃ b, decide (s.mx < 0) = b := ⟨_, rfl⟩
  obtain ⟨mhi, hhi⟩ : ∃ b, decide (999 < s.mx) = b := ⟨_, rfl⟩
  rw [hlo, hhi] at HBM
  cases v1
  case false =>
    have HV : Hid (R = 1) := X1.out (Or.inl (by rw [HBB.out]; simp))
    go_enter Tryz.func50, Tryz.ntmps50
    obtain ⟨k0, k1, k2, k3, k4, k5, k6, k7, k8, k9, k10, k11, k12⟩ := HCw.out
    go_wp2_with fail
    refine (HUs.out _).mono ?_; rintro e' w1 ⟨rfl, hww⟩
    subst hww
    simp only []
    repeat ((first | (simp only [List.append_eq, List.cons_append, List.nil_append]) | go_values | go_skip | go_guarded | go_step | go_upon | go_back); refine ?_)
    go_ret
    exact ⟨ret_int HV.out.symm, HBc.out⟩
  cases v3
  case false =>
    have HV : Hid (R = 1) := X1.out (Or.inl (by rw [HBB.out]; simp))
    go_enter Tryz.func50, Tryz.ntmps50
    obtain ⟨k0, k1, k2, k3, k4, k5, k6, k7, k8, k9, k10, k11, k12⟩ := HCw.out
    go_wp2_with fail
    refine (HUs.out _).mono ?_; rintro e' w1 ⟨rfl, hww⟩
    subst hww
    simp only []
    repeat ((first | (simp only [List.append_eq, List.cons_append, List.nil_append]) | go_values | go_skip | go_guarded | go_step | go_upon | go_back); refine ?_)
    refine (HWs.out.aa _).mono ?_; rintro e' w2 ⟨rfl, hb2⟩
    have HBc := Lib.hid (below_2 HBc.out hb2)
    have HKw := Lib.hid (StKids.below HKw.out hb2)
    have HCw := Lib.hid (HCw.out.below hb2)
    obtain ⟨k0, k1, k2, k3, k4, k5, k6, k7, k8, k9, k10, k11, k12⟩ := HCw.out
    clear hb2
    simp only []
    repeat ((first | go_values | go_skip | go_guarded | go_step | go_upon | go_back); refine ?_)
    go_ret
    exact ⟨ret_int HV.out.symm, HBc.out⟩
  cases v4
  case false =>
    have HV : Hid (R = 1) := X1.out (Or.inl (by rw [HBB.out]; simp))
    go_enter Tryz.func50, Tryz.ntmps50
    obtain ⟨k0, k1, k2, k3, k4, k5, k6, k7, k8, k9, k10, k11, k12⟩ := HCw.out
    go_wp2_with fail
    refine (HUs.out _).mono ?_; rintro e' w1 ⟨rfl, hww⟩
    subst hww
    simp only []
    repeat ((first | (simp only [List.append_eq, List.cons_append, List.nil_append]) | go_values | go_skip | go_guarded | go_step | go_upon | go_back); refine ?_)
    refine (HWs.out.aa _).mono ?_; rintro e' w2 ⟨rfl, hb2⟩
    have HBc := Lib.hid (below_2 HBc.out hb2)
    have HKw := Lib.hid (StKids.below HKw.out hb2)
    have HCw := Lib.hid (HCw.out.below hb2)
    obtain ⟨k0, k1, k2, k3, k4, k5, k6, k7, k8, k9, k10, k11, k12⟩ := HCw.out
    clear hb2
    simp only []
    repeat ((first | go_values | go_skip | go_guarded | go_step | go_upon | go_back); refine ?_)
    refine (HWs.out.ab _).mono ?_; rintro e' w2 ⟨rfl, hb2⟩
    have HBc := Lib.hid (below_2 HBc.out hb2)
    have HKw := Lib.hid (StKids.below HKw.out hb2)
    have HCw := Lib.hid (HCw.out.below hb2)
    obtain ⟨k0, k1, k2, k3, k4, k5, k6, k7, k8, k9, k10, k11, k12⟩ := HCw.out
    clear hb2
    simp only []
    repeat ((first | go_values | go_skip | go_guarded | go_step | go_upon | go_back); refine ?_)
    go_ret
    exact ⟨ret_int HV.out.symm, HBc.out⟩
  cases v5
  case true =>
    have HV : Hid (R = 1) := X1.out (Or.inl (by rw [HBB.out]; simp))
    go_enter Tryz.func50, Tryz.ntmps50
    obtain ⟨k0, k1, k2, k3, k4, k5, k6, k7, k8, k9, k10, k11, k12⟩ := HCw.out
    go_wp2_with fail
    refine (HUs.out _).mono ?_; rintro e' w1 ⟨rfl, hww⟩
    subst hww
    simp only []
    repeat ((first | (simp only [List.append_eq, List.cons_append, List.nil_append]) | go_values | go_skip | go_guarded | go_step | go_upon | go_back); refine ?_)
    refine (HWs.out.aa _).mono ?_; rintro e' w2 ⟨rfl, hb2⟩
    have HBc := Lib.hid (below_2 HBc.out hb2)
    have HKw := Lib.hid (StKids.below HKw.out hb2)
    have HCw := Lib.hid (HCw.out.below hb2)
    obtain ⟨k0, k1, k2, k3, k4, k5, k6, k7, k8, k9, k10, k11, k12⟩ := HCw.out
    clear hb2
    simp only []
    repeat ((first | go_values | go_skip | go_guarded | go_step | go_upon | go_back); refine ?_)
    refine (HWs.out.ab _).mono ?_; rintro e' w2 ⟨rfl, hb2⟩
    have HBc := Lib.hid (below_2 HBc.out hb2)
    have HKw := Lib.hid (StKids.below HKw.out hb2)
    have HCw := Lib.hid (HCw.out.below hb2)
    obtain ⟨k0, k1, k2, k3, k4, k5, k6, k7, k8, k9, k10, k11, k12⟩ := HCw.out
    clear hb2
    simp only []
    repeat ((first | go_values | go_skip | go_guarded | go_step | go_upon | go_back); refine ?_)
    go_ret
    exact ⟨ret_int HV.out.symm, HBc.out⟩
  cases v6
  case true =>
    have HV : Hid (R = 1) := X1.out (Or.inl (by rw [HBB.out]; simp))
    go_enter Tryz.func50, Tryz.ntmps50
    obtain ⟨k0, k1, k2, k3, k4, k5, k6, k7, k8, k9, k10, k11, k12⟩ := HCw.out
    go_wp2_with fail
    refine (HUs.out _).mono ?_; rintro e' w1 ⟨rfl, hww⟩
    subst hww
    simp only []
    repeat ((first | (simp only [List.append_eq, List.cons_append, List.nil_append]) | go_values | go_skip | go_guarded | go_step | go_upon | go_back); refine ?_)
    refine (HWs.out.aa _).mono ?_; rintro e' w2 ⟨rfl, hb2⟩
    have HBc := Lib.hid (below_2 HBc.out hb2)
    have HKw := Lib.hid (StKids.below HKw.out hb2)
    have HCw := Lib.hid (HCw.out.below hb2)
    obtain ⟨k0, k1, k2, k3, k4, k5, k6, k7, k8, k9, k10, k11, k12⟩ := HCw.out
    clear hb2
    simp only []
    repeat ((first | go_values | go_skip | go_guarded | go_step | go_upon | go_back); refine ?_)
    refine (HWs.out.ab _).mono ?_; rintro e' w2 ⟨rfl, hb2⟩
    have HBc := Lib.hid (below_2 HBc.out hb2)
    have HKw := Lib.hid (StKids.below HKw.out hb2)
    have HCw := Lib.hid (HCw.out.below hb2)
    obtain ⟨k0, k1, k2, k3, k4, k5, k6, k7, k8, k9, k10, k11, k12⟩ := HCw.out
    clear hb2
    simp only []
    repeat ((first | go_values | go_skip | go_guarded | go_step | go_upon | go_back); refine ?_)
    go_ret
    exact ⟨ret_int HV.out.symm, HBc.out⟩
  cases mlo
  case true =>
    have HV : Hid (R = 1) := X1.out (Or.inr (by rw [HBM.out]; simp))
    go_enter Tryz.func50, Tryz.ntmps50
    obtain ⟨k0, k1, k2, k3, k4, k5, k6, k7, k8, k9, k10, k11, k12⟩ := HCw.out
    go_wp2_with fail
    refine (HUs.out _).mono ?_; rintro e' w1 ⟨rfl, hww⟩
    subst hww
    simp only []
    repeat ((first | (simp only [List.append_eq, List.cons_append, List.nil_append]) | go_values | go_skip | go_guarded | go_step | go_upon | go_back); refine ?_)
    refine (HWs.out.aa _).mono ?_; rintro e' w2 ⟨rfl, hb2⟩
    have HBc := Lib.hid (below_2 HBc.out hb2)
    have HKw := Lib.hid (StKids.below HKw.out hb2)
    have HCw := Lib.hid (HCw.out.below hb2)
    obtain ⟨k0, k1, k2, k3, k4, k5, k6, k7, k8, k9, k10, k11, k12⟩ := HCw.out
    clear hb2
    simp only []
    repeat ((first | go_values | go_skip | go_guarded | go_step | go_upon | go_back); refine ?_)
    refine (HWs.out.ab _).mono ?_; rintro e' w2 ⟨rfl, hb2⟩
    have HBc := Lib.hid (below_2 HBc.out hb2)
    have HKw := Lib.hid (StKids.below HKw.out hb2)
    have HCw := Lib.hid (HCw.out.below hb2)
    obtain ⟨k0, k1, k2, k3, k4, k5, k6, k7, k8, k9, k10, k11, k12⟩ := HCw.out
    clear hb2
    simp only []
    repeat ((first | go_values | go_skip | go_guarded | go_step | go_upon | go_back); refine ?_)
    go_ret
    exact ⟨ret_int HV.out.symm, HBc.out⟩
  cases mhi
  case true =>
    have HV : Hid (R = 1) := X1.out (Or.inr (by rw [HBM.out]; simp))
    go_enter Tryz.func50, Tryz.ntmps50
    obtain ⟨k0, k1, k2, k3, k4, k5, k6, k7, k8, k9, k10, k11, k12⟩ := HCw.out
    go_wp2_with fail
    refine (HUs.out _).mono ?_; rintro e' w1 ⟨rfl, hww⟩
    subst hww
    simp only []
    repeat ((first | (simp only [List.append_eq, List.cons_append, List.nil_append]) | go_values | go_skip | go_guarded | go_step | go_upon | go_back); refine ?_)
    refine (HWs.out.aa _).mono ?_; rintro e' w2 ⟨rfl, hb2⟩
    have HBc := Lib.hid (below_2 HBc.out hb2)
    have HKw := Lib.hid (StKids.below HKw.out hb2)
    have HCw := Lib.hid (HCw.out.below hb2)
    obtain ⟨k0, k1, k2, k3, k4, k5, k6, k7, k8, k9, k10, k11, k12⟩ := HCw.out
    clear hb2
    simp only []
    repeat ((first | go_values | go_skip | go_guarded | go_step | go_upon | go_back); refine ?_)
    refine (HWs.out.ab _).mono ?_; rintro e' w2 ⟨rfl, hb2⟩
    have HBc := Lib.hid (below_2 HBc.out hb2)
    have HKw := Lib.hid (StKids.below HKw.out hb2)
    have HCw := Lib.hid (HCw.out.below hb2)
    obtain ⟨k0, k1, k2, k3, k4, k5, k6, k7, k8, k9, k10, k11, k12⟩ := HCw.out
    clear hb2
    simp only []
    repeat ((first | go_values | go_skip | go_guarded | go_step | go_upon | go_back); refine ?_)
    go_ret
    exact ⟨ret_int HV.out.symm, HBc.out⟩
  cases bd
  case true =>
    have hBS : BS = false := by rw [HBB.out]; simp
    have hBM : BM = false := by rw [HBM.out]; simp
    have hR := X3.out hBS hBM (by simp)
    have HV : Hid (R = 2) := by show _ = _; rw [hR]; simp [show 12 < d by have := of_decide_eq_true hdd; omega]
    clear hBS hBM hR
    go_enter Tryz.func50, Tryz.ntmps50
    obtain ⟨k0, k1, k2, k3, k4, k5, k6, k7, k8, k9, k10, k11, k12⟩ := HCw.out
    go_wp2_with fail
    refine (HUs.out _).mono ?_; rintro e' w1 ⟨rfl, hww⟩
    subst hww
    simp only []
    repeat ((first | (simp only [List.append_eq, List.cons_append, List.nil_append]) | go_values | go_skip | go_guarded | go_step | go_upon | go_back); refine ?_)
    refine (HWs.out.aa _).mono ?_; rintro e' w2 ⟨rfl, hb2⟩
    have HBc := Lib.hid (below_2 HBc.out hb2)
    have HKw := Lib.hid (StKids.below HKw.out hb2)
    have HCw := Lib.hid (HCw.out.below hb2)
    obtain ⟨k0, k1, k2, k3, k4, k5, k6, k7, k8, k9, k10, k11, k12⟩ := HCw.out
    clear hb2
    simp only []
    repeat ((first | go_values | go_skip | go_guarded | go_step | go_upon | go_back); refine ?_)
    refine (HWs.out.ab _).mono ?_; rintro e' w2 ⟨rfl, hb2⟩
    have HBc := Lib.hid (below_2 HBc.out hb2)
    have HKw := Lib.hid (StKids.below HKw.out hb2)
    have HCw := Lib.hid (HCw.out.below hb2)
    obtain ⟨k0, k1, k2, k3, k4, k5, k6, k7, k8, k9, k10, k11, k12⟩ := HCw.out
    clear hb2
    simp only []
    repeat ((first | go_values | go_skip | go_guarded | go_step | go_upon | go_back); refine ?_)
    go_ret
    exact ⟨ret_int HV.out.symm, HBc.out⟩
  have hBS : BS = false := by rw [HBB.out]; simp
  have hBM : BM = false := by rw [HBM.out]; simp
  have hR := X3.out hBS hBM (by simp)
  have HV : Hid (R = 0) := by show _ = _; rw [hR]; simp [show ¬ 12 < d by have := of_decide_eq_false hdd; omega]
  clear hBS hBM hR
  go_enter Tryz.func50, Tryz.ntmps50
  obtain ⟨k0, k1, k2, k3, k4, k5, k6, k7, k8, k9, k10, k11, k12⟩ := HCw.out
  go_wp2_with fail
  refine (HUs.out _).mono ?_; rintro e' w1 ⟨rfl, hww⟩
  subst hww
  simp only []
  repeat ((first | (simp only [List.append_eq, List.cons_append, List.nil_append]) | go_values | go_skip | go_guarded | go_step | go_upon | go_back); refine ?_)
  refine (HWs.out.aa _).mono ?_; rintro e' w2 ⟨rfl, hb2⟩
  have HBc := Lib.hid (below_2 HBc.out hb2)
  have HKw := Lib.hid (StKids.below HKw.out hb2)
  have HCw := Lib.hid (HCw.out.below hb2)
  obtain ⟨k0, k1, k2, k3, k4, k5, k6, k7, k8, k9, k10, k11, k12⟩ := HCw.out
  clear hb2
  simp only []
  repeat ((first | go_values | go_skip | go_guarded | go_step | go_upon | go_back); refine ?_)
  refine (HWs.out.ab _).mono ?_; rintro e' w2 ⟨rfl, hb2⟩
  have HBc := Lib.hid (below_2 HBc.out hb2)
  have HKw := Lib.hid (StKids.below HKw.out hb2)
  have HCw := Lib.hid (HCw.out.below hb2)
  obtain ⟨k0, k1, k2, k3, k4, k5, k6, k7, k8, k9, k10, k11, k12⟩ := HCw.out
  clear hb2
  simp only []
  repeat ((first | go_values | go_skip | go_guarded | go_step | go_upon | go_back); refine ?_)
  go_ret
  exact ⟨ret_int HV.out.symm, HBc.out⟩
end Go.Proofs.YtkjefigebdbkaaaGreatDoor.A
namespace Go.Proofs.YtkjefigebdbkaaaGreatDoor.A

theorem rstmt : RStmt := by
  intro s a1 c1 a2 c2 a3 c3 a4 c4 d hd hok w0 hks
  by_cases h : 1 ≤ s.op ∧ s.op ≤ 8
  · obtain ⟨h1, h2⟩ := h
    have : s.op = 1 ∨ s.op = 2 ∨ s.op = 3 ∨ s.op = 4 ∨ s.op = 5 ∨ s.op = 6 ∨ s.op = 7 ∨ s.op = 8 := by omega
    rcases this with h | h | h | h | h | h | h | h
    · exact rstmt_g1 s a1 c1 a2 c2 a3 c3 a4 c4 d hd (Or.inl h) hok w0 hks
    · exact rstmt_g1 s a1 c1 a2 c2 a3 c3 a4 c4 d hd (Or.inr h) hok w0 hks
    · exact rstmt_g3 s a1 c1 a2 c2 a3 c3 a4 c4 d hd h hok w0 hks
    · exact rstmt_g4 s a1 c1 a2 c2 a3 c3 a4 c4 d hd (Or.inl h) hok w0 hks
    · exact rstmt_g5 s a1 c1 a2 c2 a3 c3 a4 c4 d hd h hok w0 hks
    · exact rstmt_g6 s a1 c1 a2 c2 a3 c3 a4 c4 d hd h hok w0 hks
    · exact rstmt_g4 s a1 c1 a2 c2 a3 c3 a4 c4 d hd (Or.inr h) hok w0 hks
    · exact rstmt_g8 s a1 c1 a2 c2 a3 c3 a4 c4 d hd h hok w0 hks
  · exact rstmt_g0 s a1 c1 a2 c2 a3 c3 a4 c4 d (by omega) w0
end Go.Proofs.YtkjefigebdbkaaaGreatDoor.A
namespace Go.Proofs.YtkjefigebdbkaaaGreatDoor.A
open Go.RowKit
open L (Str isName prt size_len below_2 below_box ret_bool ret_int eql_eq bytes_eq)

def kE0 : RowK ET := { kE with inn := fun _ _ _ => True, next := fun _ _ => trivial }
def GivesXs (w : World) (x : List Ex) (e' : Ending) (w' : World) : Prop := ∃ p q, e' = .returned (.slice p x.length q) ∧ Kids w' p x ∧ Below w.heap.size w w'
theorem Own1.kids0 {w : World} {b0 : Nat} {Z : Nat → Prop} {p : Option Addr} {q : Nat} {l : List ET} (h : Own1 kE0 w b0 Z (.slice p l.length q) l) (hk : ∀ x ∈ l, Kids w x.a x.e.args) : Kids w p (l.map ET.e) := by
  by_cases h0 : l = []
  · left; rw [h0]; rfl
  · have hpos : 0 < l.length := List.length_pos_iff.2 h0
    obtain ⟨g, rfl, hz, _⟩ := h.cell hpos
    refine Or.inr ⟨g, 0, rfl, exs_of l 0 (fun j hj r hr => ?_) hk⟩
    obtain ⟨g2, hg, hz2, hc⟩ := h.cell hj
    cases hg
    rw [Nat.zero_add]
    exact hc r hr
theorem fm_take {α β : Type} (g : α → Option β) {l : List α} {k : Nat} (h : k < l.length) : (l.take (k + 1)).filterMap g = (l.take k).filterMap g ++ (match g l[k] with | some x => [x] | none => []) := by
  rw [List.take_succ_eq_append_getElem h, List.filterMap_append]
  congr 1
  rw [List.filterMap_cons]
  cases g l[k] <;> rfl
theorem fm_le {α β : Type} (g : α → Option β) (l : List α) (k : Nat) : ((l.take k).filterMap g).length ≤ k := by
  have := List.length_filterMap_le g (l.take k)
  rw [List.length_take] at this
  omega
set_option maxHeartbeats 8000000 in
set_option maxRecDepth 100000 in
theorem rexprs_any (p : Pr) (a1 a2 : Option Addr) (c1 c2 : Nat) (hok : okB p.body) (hl : p.body.length ≤ 1000000000000000) (w : World) (hK : Bodies w a2 p.body) :
    Calls Tryz.prog 22 #[prV p a1 c1 a2 c2] w fun e' w' => GivesXs w (exprs p) e' w' := by
  have hb := below_box w (prO p a1 c1 a2 c2)
  have HC := Lib.hid (rwalk_any p a1 a2 c1 c2 hok hl (w.alloc (prO p a1 c1 a2 c2)) (hK.below hb))
  have HB := Lib.hid hb
  have hn : (walk p).length ≤ 401 := by unfold walk; rw [List.length_take]; omega
  unfold prO at HC HB
  unfold prV at HC ⊢
  clear hok hK hb
  go_enter Tryz.func22, Tryz.ntmps22
  go_wp2_with fail
  refine HC.out.mono ?_; rintro e w2 ⟨p3, q3, l', rfl, ho, hi, hv, hb2⟩
  have HO := Lib.hid ho
  have HI := Lib.hid hi
  have HW := Lib.hid hv
  have HB2 := Lib.hid hb2
  have hln : l'.length ≤ 401 := by rw [← vs_len, hv]; exact hn
  clear ho hi hv hb2
  go_wp2_with fail
  go_loopw [4, 5] (fun s4 s5 wr => ∃ (k : Nat) (lt : List ET) (pl : Option Addr) (ql : Nat), k ≤ l'.length ∧ s5 = .int .i64 k ∧ s4 = .slice pl lt.length ql ∧ Hid (lt.map ET.e = ((walk p).take k).filterMap V.rooted) ∧ Hid (Own1 kE0 wr w2.heap.size (fun j => j < w2.heap.size) (.slice pl lt.length ql) lt) ∧ Hid (∀ x ∈ lt, Kids (w.alloc (.cells #[.string p.name, .slice a1 p.params.length c1, .slice a2 p.body.length c2] 25)) x.a x.e.args) ∧ Hid (Below w2.heap.size w2 wr)) (fun _ i _ => l'.length - (intOf i).toNat)
  case atStart => exact ⟨0, [], none, 0, Nat.zero_le _, rfl, rfl, rfl, Own1.nil, (fun x h => by cases h), Below.refl _ _⟩
  case round =>
    obtain ⟨k, lt, pl, ql, hk, rfl, rfl, HX, HR, HKs, HBr⟩ := hrel
    have hllk : lt.length ≤ k := by have := congrArg List.length HX.out; rw [List.length_map] at this; have h2 := fm_le V.rooted (walk p) k; omega
    by_cases hlt : k < l'.length
    · obtain ⟨g3, rfl, hcell⟩ := visit_cells HO.out hlt
      have hlw : k < (walk p).length := by rw [← HW.out, vs_len]; exact hlt
      have hvk : (walk p)[k] = (l'[k]).v := by simp only [← HW.out, vs, List.getElem_map]
      have hxt := fm_take V.rooted hlw
      rw [hvk] at hxt
      have hin := HI.out _ (List.getElem_mem hlt)
      have hg3 : g3 < w2.heap.size := by
        have h := hcell 0 (by omega)
        cases hh : l'[k] with
        | st s d a5 c5 a6 c6 a7 c7 a8 c8 => rw [hh] at h; exact block_lt_of_cell (show w2.cell? ⟨g3, k * 20 + 0, none⟩ = some (.bool true) from h)
        | ex e r a5 c5 => rw [hh] at h; exact block_lt_of_cell (show w2.cell? ⟨g3, k * 20 + 0, none⟩ = some (.bool false) from h)
      have hcr : ∀ r, r < 20 → wr.cell? ⟨g3, k * 20 + r, none⟩ = (l'[k]).cells[r]? := fun r hr => (HBr.out.cell (by exact hg3)).trans (hcell r hr)
      generalize l'[k] = y at hcr hxt hin
      clear hvk hlw hcell
      cases y with
      | st s d a5 c5 a6 c6 a7 c7 a8 c8 =>
        have f19 : wr.cell? ⟨g3, k * 20 + 19, none⟩ = some (.bool false) := hcr 19 (by omega)
        have HX2 : Hid (lt.map ET.e = ((walk p).take (k + 1)).filterMap V.rooted) := by show _ = _; rw [hxt, HX.out]; exact (List.append_nil _).symm
        clear hcr hxt hin
        go_wp2_with fail
        go_roundw
        case rel => exact ⟨k + 1, lt, pl, ql, by omega, by go_num, rfl, HX2.out, HR.out, HKs.out, HBr.out⟩
        case measure => simp [intOf]; omega
      | ex e r a5 c5 =>
        have f19 : wr.cell? ⟨g3, k * 20 + 19, none⟩ = some (.bool r) := hcr 19 (by omega)
        cases r
        · have HX2 : Hid (lt.map ET.e = ((walk p).take (k + 1)).filterMap V.rooted) := by show _ = _; rw [hxt, HX.out]; exact (List.append_nil _).symm
          clear hcr hxt hin
          go_wp2_with fail
          go_roundw
          case rel => exact ⟨k + 1, lt, pl, ql, by omega, by go_num, rfl, HX2.out, HR.out, HKs.out, HBr.out⟩
          case measure => simp [intOf]; omega
        · have f15 : wr.cell? ⟨g3, k * 20 + 15, none⟩ = some (.int .i64 e.op) := hcr 15 (by omega)
          have f16 : wr.cell? ⟨g3, k * 20 + 16, none⟩ = some (.int .i64 e.n) := hcr 16 (by omega)
          have f17 : wr.cell? ⟨g3, k * 20 + 17, none⟩ = some (.string e.s) := hcr 17 (by omega)
          have f18 : wr.cell? ⟨g3, k * 20 + 18, none⟩ = some (.slice a5 e.args.length c5) := hcr 18 (by omega)
          have h15 : k * 20 + 16 = k * 20 + 15 + 1 := by omega
          have h16 : k * 20 + 17 = k * 20 + 15 + 2 := by omega
          have h17 : k * 20 + 18 = k * 20 + 15 + 3 := by omega
          have t16 := f16
          have t17 := f17
          have t18 := f18
          rw [h15] at t16
          rw [h16] at t17
          rw [h17] at t18
          have HX2 : Hid ((lt ++ [(⟨e, a5, c5⟩ : ET)]).map ET.e = ((walk p).take (k + 1)).filterMap V.rooted) := by show _ = _; rw [hxt, List.map_append, HX.out]; rfl
          have HK2 : Hid (∀ x ∈ lt ++ [(⟨e, a5, c5⟩ : ET)], Kids (w.alloc (.cells #[.string p.name, .slice a1 p.params.length c1, .slice a2 p.body.length c2] 25)) x.a x.e.args) := fun x hx => by
            rcases List.mem_append.1 hx with hx | hx
            · exact HKs.out x hx
            · rw [List.mem_singleton] at hx; rw [hx]; exact hin
          have hz := HBr.out.size
          have HL6 : Hid ((lt ++ [(⟨e, a5, c5⟩ : ET)]).length = lt.length + 1) := by show _ = _; simp
          clear hcr hxt hin h15 h16 h17
          go_wp2_with (at_builtin; refine kE0.wpList rfl (.tmp 19) (.tmp 25) rfl w2.heap.size (.slice pl lt.length ql) lt rfl HR.out.row ⟨e, a5, c5⟩ _ rfl wr.heap.size rfl rfl (by omega) (by omega) ?_; intro g6 cap6 w6 hown6 hgrow6 hlie6)
          have HR6 := Lib.hid (HR.out.push trivial (fun j hj => by omega) hown6 hgrow6 hlie6)
          have HB6 := Lib.hid (HR.out.frame HBr.out hz hgrow6)
          clear hown6 hgrow6 hlie6
          go_wp2_with fail
          go_roundw
          case rel => exact ⟨k + 1, lt ++ [(⟨e, a5, c5⟩ : ET)], some ⟨g6, 0, none⟩, cap6, by omega, by go_num, by rw [HL6.out], HX2.out, by show Own1 _ _ _ _ _ _; rw [HL6.out]; exact HR6.out, HK2.out, HB6.out⟩
          case measure => simp [intOf]; omega
    · have hX := HX.out
      rw [List.take_of_length_le (by rw [← HW.out, vs_len]; omega)] at hX
      have hX2 : lt.map ET.e = exprs p := hX
      have hlen : lt.length = (exprs p).length := by rw [← hX2, List.length_map]
      have HV : Hid (GivesXs w (exprs p) (.returned (.slice pl lt.length ql)) wr) := by
        refine ⟨pl, ql, by rw [hlen], ?_, below_2 HB.out (below_2 HB2.out HBr.out)⟩
        rw [← hX2]
        exact HR.out.kids0 fun x hx => (HKs.out x hx).below (below_2 HB2.out HBr.out)
      clear hX hX2 hlen
      go_wp2_with fail
      go_ret
      exact HV.out
end Go.Proofs.YtkjefigebdbkaaaGreatDoor.A
namespace Go.Proofs.YtkjefigebdbkaaaGreatDoor.A
open L (Str isName prt size_len)

def VE (n : Nat) : V → Prop
  | .st _ _ => True
  | .ex e _ => okE e ∧ cE e ≤ n
mutual
theorem preE_ve (n : Nat) : ∀ (e : Ex) (r : Bool), okE e → cE e ≤ n → ∀ v ∈ preE e r, VE n v
  | .mk o m s l, r, hok, hc, v, h => by
    rw [preE] at h
    rcases List.mem_cons.1 h with rfl | h
    · exact ⟨hok, hc⟩
    · rw [okE] at hok
      rw [cE] at hc
      exact preEs_ve n l hok.2.2.2.2 (by omega) v h
theorem preEs_ve (n : Nat) : ∀ (l : List Ex), okEs l → cEs l ≤ n → ∀ v ∈ preEs l, VE n v
  | [], _, _, v, h => by rw [preEs] at h; cases h
  | e :: r, hok, hc, v, h => by
    rw [okEs] at hok
    rw [cEs] at hc
    rw [preEs] at h
    rcases List.mem_append.1 h with h | h
    · exact preE_ve n e false hok.1 (by omega) v h
    · exact preEs_ve n r hok.2 (by omega) v h
end
theorem preR_ve (n : Nat) (e : Ex) (hok : okE e) (hc : cE e ≤ n) : ∀ v ∈ preR e, VE n v := by
  intro v h
  unfold preR at h
  split at h
  · cases h
  · exact preE_ve n e true hok hc v h
mutual
theorem preS_ve (n : Nat) : ∀ (s : St) (d : Nat), okS s → cS s ≤ n → ∀ v ∈ preS s d, VE n v
  | .mk o nm mx a b bd el, d, hok, hc, v, h => by
    rw [okS] at hok
    obtain ⟨_, _, _, h1, h2, _, h3, _, h4⟩ := hok
    rw [cS] at hc
    rw [preS] at h
    rcases List.mem_cons.1 h with rfl | h
    · trivial
    rcases List.mem_append.1 h with h | h
    · rcases List.mem_append.1 h with h | h
      · rcases List.mem_append.1 h with h | h
        · exact preR_ve n a h1 (by omega) v h
        · exact preR_ve n b h2 (by omega) v h
      · exact preB_ve n bd (d + 1) h3 (by omega) v h
    · exact preB_ve n el (d + 1) h4 (by omega) v h
theorem preB_ve (n : Nat) : ∀ (l : List St) (d : Nat), okB l → cB l ≤ n → ∀ v ∈ preB l d, VE n v
  | [], d, _, _, v, h => by rw [preB] at h; cases h
  | s :: r, d, hok, hc, v, h => by
    rw [okB] at hok
    rw [cB] at hc
    rw [preB] at h
    rcases List.mem_append.1 h with h | h
    · exact preS_ve n s d hok.1 (by omega) v h
    · exact preB_ve n r d hok.2 (by omega) v h
end
theorem exprs_ve {p : Pr} (hok : okB p.body) : ∀ e ∈ exprs p, okE e ∧ cE e ≤ cB p.body := fun e h => by
  unfold exprs at h
  obtain ⟨v, hv, he⟩ := List.mem_filterMap.1 h
  have hve := preB_ve (cB p.body) p.body 1 hok (Nat.le_refl _) v (List.mem_of_mem_take (by unfold walk at hv; exact hv))
  cases v with
  | st s d => cases he
  | ex x r =>
    cases r
    · cases he
    · injection he with he; subst he; exact hve
end Go.Proofs.YtkjefigebdbkaaaGreatDoor.A
