/-
  What the program's functions of layer 11 return: when and loop, over what list returns for the statements in them: contracts.
  What the program's functions of layer 11 return: stmt and list: contracts.
  What the program's function stmt of layer 11 returns where an expression has no type: a contract.
-/
import Derived.Test.YtnelpgeiioflmaaGreatDoorM14
import Derived.Test.YtnelpgeiioflmaaGreatDoorM11
import Derived.Lib.QuietBelow
namespace Go.Proofs.YtnelpgeiioflmaaGreatDoor.Y
open Go.RowKit
open L (Str isName prt size_len below_2 below_box ret_bool ret_int eql_eq bytes_eq)
open A (Ex St Pm Pr V arity vE vEs absent exV exO Bx RowK Own1 exV_mk exO_mk okE cE PmsAt Stays Bodies stC)

def PL (w0 : World) (X : Nat → Prop) (g bv bl n : Nat) (w : World) (r : Cx × Int) (e' : Ending) (w' : World) : Prop :=
  e' = .returned (.int .i64 r.2) ∧ CK w' w0.heap.size X g bv bl n r.1 ∧ Kx w0.heap.size X w w'
def QL (w0 : World) (l : List St) : Prop := ∀ (a : Option Addr) (cap g bv bl n : Nat) (X : Nat → Prop) (c : Cx) (w : World), gB l → l.length ≤ 1000000000000000 → Below w0.heap.size w0 w → Bodies w0 a l →
  CK w w0.heap.size X g bv bl n c → n + 2 * (dB l).length ≤ 900000 → Calls Tryz.prog 86 #[.pointer (some ⟨g, 0, none⟩), .slice a l.length cap] w (PL w0 X g bv bl (n + 2 * (dB l).length) w (lst (ckB c l) l))
def whenR (c : Cx) (t : Int) (bd el : List St) : Cx × Int := if t ≠ 3 then (c, 10) else if (lst (ckB c bd) bd).2 ≠ 0 then lst (ckB c bd) bd else lst (ckB (lst (ckB c bd) bd).1 el) el
def loopR (c : Cx) (nm : ByteArray) (t u : Int) (bd : List St) : Cx × Int := if t ≠ 1 ∨ u ≠ 1 then (c, 10) else unl (lst (ckB (c.loop nm) bd) bd) nm
set_option maxHeartbeats 8000000 in
set_option maxRecDepth 100000 in
theorem owhen_any {w0 : World} {s : St} (hqb : QL w0 s.body) (hqe : QL w0 s.els) (hgb : gB s.body) (hge : gB s.els) (hlb : s.body.length ≤ 1000000000000000) (hle : s.els.length ≤ 1000000000000000) (a1 a2 a3 a4 : Option Addr) (c1 c2 c3 c4 : Nat) (t : Int)
    (hK3 : Bodies w0 a3 s.body) (hK4 : Bodies w0 a4 s.els) {g bv bl n : Nat} {X : Nat → Prop} {c : Cx} {w : World} (hb : Below w0.heap.size w0 w) (hC : CK w w0.heap.size X g bv bl n c) (hn : n + 2 * ((dB s.body).length + (dB s.els).length) ≤ 900000) :
    Calls Tryz.prog 121 #[.pointer (some ⟨g, 0, none⟩), stC s a1 c1 a2 c2 a3 c3 a4 c4, .int .i64 t] w (PL w0 X g bv bl (n + 2 * ((dB s.body).length + (dB s.els).length)) w (whenR c t s.body s.els)) := by
  obtain ⟨C, hCdef⟩ : ∃ C : Array Value, C = #[.int .i64 s.op, .string s.name, .int .i64 s.mx, .int .i64 s.a.op, .int .i64 s.a.n, .string s.a.s, .slice a1 s.a.args.length c1, .int .i64 s.b.op, .int .i64 s.b.n, .string s.b.s, .slice a2 s.b.args.length c2, .slice a3 s.body.length c3, .slice a4 s.els.length c4] := ⟨_, rfl⟩
  have hbw := below_box w (.cells C 44)
  have hbx := Bx.new w C 44
  have hC1 := hC.wide (Nat.le_refl _) hbw (by simp)
  have hB1 : Below w0.heap.size w0 (w.alloc (.cells C 44)) := hb.trans (hbw.mono (Nat.le_of_lt hC.size))
  have hkx : Kx w0.heap.size X w (w.alloc (.cells C 44)) := Kx.of hbw (Nat.le_of_lt hC.size) hC.xs
  have HW := Lib.hid hkx
  have HC1 := Lib.hid hC1
  have HBX := Lib.hid hbx
  have HB1 := Lib.hid hB1
  by_cases ht : t = 3
  · subst ht
    have hR : whenR c 3 s.body s.els = if (lst (ckB c s.body) s.body).2 ≠ 0 then lst (ckB c s.body) s.body else lst (ckB (lst (ckB c s.body) s.body).1 s.els) s.els := by unfold whenR; rw [if_neg (fun z => z rfl)]
    obtain ⟨R, hRR⟩ : ∃ R, whenR c 3 s.body s.els = R := ⟨_, rfl⟩
    rw [hRR] at hR ⊢
    have HL1 := Lib.hid (hqb a3 c3 g bv bl n _ c _ hgb hlb hB1 hK3 hC1 (by omega))
    have HL2 := Lib.hid (fun n c' w' hb hC hn => hqe a4 c4 g bv bl n (fun k => X k ∨ k = w.heap.size) c' w' hge hle hb hK4 hC hn)
    have HR := Lib.hid hR
    clear hqb hqe hK3 hK4 hb hC hbw hbx hC1 hB1 hkx hRR hR hgb hge
    unfold stC
    subst hCdef
    go_enter Tryz.func121, Tryz.ntmps121
    go_wp2_with fail
    refine HL1.out.mono ?_; rintro e' w2 ⟨rfl, hc2, hk2⟩
    have HC2 := Lib.hid hc2
    have HK2 := Lib.hid hk2
    clear hc2 hk2
    generalize lst (ckB c s.body) s.body = L1 at *
    have HN := Lib.hid hn
    have hx : ∀ k, X k → X k ∨ k = w.heap.size := fun k hk => Or.inl hk
    by_cases h1 : L1.2 = 0
    · have b1 : (L1.2 != 0) = false := by rw [h1]; rfl
      have hbx2 := HBX.out.keep (HK2.out.keep w.heap.size (Or.inr rfl))
      have x12 := hbx2.cell 12
      simp at x12
      have HR2 : Hid (R = lst (ckB L1.1 s.els) s.els) := by show _ = _; rw [HR.out, if_neg (fun z => z h1)]
      have HL3 := Lib.hid (HL2.out _ L1.1 w2 (HB1.out.trans HK2.out.below) HC2.out (by have := HN.out; omega))
      clear hbx2 h1 hn
      go_wp2_with fail
      refine HL3.out.mono ?_; rintro e' w3 ⟨rfl, hc3, hk3⟩
      have HP : Hid (PL w0 X g bv bl (n + 2 * ((dB s.body).length + (dB s.els).length)) w R (.returned (.int .i64 (lst (ckB L1.1 s.els) s.els).2)) w3) := by
        refine ⟨by rw [HR2.out], ?_, HW.out.trans ((HK2.out.sub hx).trans (hk3.sub hx))⟩
        have := hc3.narrow hx
        rw [HR2.out, Nat.mul_add, ← Nat.add_assoc]; exact this
      clear hc3 hk3 x12
      go_wp2_with fail
      go_ret
      exact HP.out
    · have b1 : (L1.2 != 0) = true := bne_iff_ne.2 h1
      have HP : Hid (PL w0 X g bv bl (n + 2 * ((dB s.body).length + (dB s.els).length)) w R (.returned (.int .i64 L1.2)) w2) := by
        have hr : R = L1 := by rw [HR.out, if_pos h1]
        exact ⟨by rw [hr], by rw [hr]; exact (HC2.out.narrow hx).mono (by omega), HW.out.trans (HK2.out.sub hx)⟩
      clear h1 hn
      go_wp2_with fail
      go_ret
      exact HP.out
  · have b1 : (t != 3) = true := bne_iff_ne.2 ht
    have HP : Hid (PL w0 X g bv bl (n + 2 * ((dB s.body).length + (dB s.els).length)) w (whenR c t s.body s.els) (.returned (.int .i64 10)) (w.alloc (.cells C 44))) := by
      have hr : whenR c t s.body s.els = (c, 10) := by unfold whenR; rw [if_pos ht]
      rw [hr]
      exact ⟨rfl, (HC1.out.narrow (fun k hk => Or.inl hk)).mono (Nat.le_add_right _ _), HW.out⟩
    generalize whenR c t s.body s.els = R at *
    clear hqb hqe hK3 hK4 hb hC hbw hbx hC1 hB1 hkx hgb hge HW HBX HB1 HC1 ht
    unfold stC
    subst hCdef
    go_enter Tryz.func121, Tryz.ntmps121
    go_wp2_with fail
    go_ret
    exact HP.out
set_option maxHeartbeats 8000000 in
set_option maxRecDepth 100000 in
theorem oloop_any {w0 : World} {s : St} (hqb : QL w0 s.body) (hgb : gB s.body) (hlb : s.body.length ≤ 1000000000000000) (hnm : s.name.size ≤ 1000) (a1 a2 a3 a4 : Option Addr) (c1 c2 c3 c4 : Nat) (t u : Int)
    (hK3 : Bodies w0 a3 s.body) {g bv bl n : Nat} {X : Nat → Prop} {c : Cx} {w : World} (hb : Below w0.heap.size w0 w) (hC : CK w w0.heap.size X g bv bl n c) (hn : n + 2 * (1 + (dB s.body).length) ≤ 900000) :
    Calls Tryz.prog 122 #[.pointer (some ⟨g, 0, none⟩), stC s a1 c1 a2 c2 a3 c3 a4 c4, .int .i64 t, .int .i64 u] w (PL w0 X g bv bl (n + 2 * (1 + (dB s.body).length)) w (loopR c s.name t u s.body)) := by
  obtain ⟨C, hCdef⟩ : ∃ C : Array Value, C = #[.int .i64 s.op, .string s.name, .int .i64 s.mx, .int .i64 s.a.op, .int .i64 s.a.n, .string s.a.s, .slice a1 s.a.args.length c1, .int .i64 s.b.op, .int .i64 s.b.n, .string s.b.s, .slice a2 s.b.args.length c2, .slice a3 s.body.length c3, .slice a4 s.els.length c4] := ⟨_, rfl⟩
  have hbw := below_box w (.cells C 44)
  have hbx := Bx.new w C 44
  have hC1 := hC.wide (Nat.le_refl _) hbw (by simp)
  have hB1 : Below w0.heap.size w0 (w.alloc (.cells C 44)) := hb.trans (hbw.mono (Nat.le_of_lt hC.size))
  have hkx : Kx w0.heap.size X w (w.alloc (.cells C 44)) := Kx.of hbw (Nat.le_of_lt hC.size) hC.xs
  have HW := Lib.hid hkx
  have HC1 := Lib.hid hC1
  have HBX := Lib.hid hbx
  have HB1 := Lib.hid hB1
  obtain ⟨R, hRR⟩ : ∃ R, loopR c s.name t u s.body = R := ⟨_, rfl⟩
  rw [hRR]
  by_cases ht : t ≠ 1 ∨ u ≠ 1
  · have HP : Hid (PL w0 X g bv bl (n + 2 * (1 + (dB s.body).length)) w R (.returned (.int .i64 10)) (w.alloc (.cells C 44))) := by
      have hr : R = (c, 10) := by rw [← hRR]; unfold loopR; rw [if_pos ht]
      rw [hr]
      exact ⟨rfl, (HC1.out.narrow (fun k hk => Or.inl hk)).mono (Nat.le_add_right _ _), HW.out⟩
    clear hqb hK3 hb hC hbw hbx hC1 hB1 hkx hgb HW HBX HB1 HC1 hRR
    unfold stC
    subst hCdef
    by_cases h1 : t = 1
    · subst h1
      have b2 : (u != 1) = true := bne_iff_ne.2 (ht.resolve_left (fun z => z rfl))
      clear ht
      go_enter Tryz.func122, Tryz.ntmps122
      go_wp2_with fail
      go_ret
      exact HP.out
    · have b1 : (t != 1) = true := bne_iff_ne.2 h1
      clear ht h1
      go_enter Tryz.func122, Tryz.ntmps122
      go_wp2_with fail
      go_ret
      exact HP.out
  · obtain ⟨rfl, rfl⟩ : t = 1 ∧ u = 1 := ⟨Decidable.byContradiction fun z => ht (Or.inl z), Decidable.byContradiction fun z => ht (Or.inr z)⟩
    have hR : R = unl (lst (ckB (c.loop s.name) s.body) s.body) s.name := by rw [← hRR]; unfold loopR; rw [if_neg ht]
    have HR := Lib.hid hR
    obtain ⟨p, q, hk⟩ := hC1
    have HK := Lib.hid hk
    have HD := Lib.hid (fun c' w' (h : CK w' w0.heap.size (fun k => X k ∨ k = w.heap.size) g bv bl (n + 1) c') => odeclare_any h s.name (by omega) 1 (by omega) (by omega))
    have HL := Lib.hid (fun c' w' hb hC => hqb a3 c3 g bv bl (n + 2) (fun k => X k ∨ k = w.heap.size) c' w' hgb hlb hb hK3 hC (by omega))
    have g1 := hk.box.cell 1
    simp at g1
    have hkd := hk.below (L.below_drew _)
    obtain ⟨w5, hrun, hm5, ho5⟩ := hkd.loops.set_run (y := s.name) (by unfold maxLen; omega) (by unfold maxLen; omega) 54 Tryz.underlying54
    have hk5 := hkd.only_l ho5 (Nat.le_succ n) hm5
    have hkx5 := Only.kx (X := fun k => X k ∨ k = w.heap.size) ho5 hkd.lo.2.2 (Nat.le_of_lt hkd.size) hkd.off.2.2
    have HK5 : Hid (CK w5 w0.heap.size (fun k => X k ∨ k = w.heap.size) g bv bl (n + 1) ⟨c.vis, setB c.loops s.name, c.decl⟩) := ⟨_, _, hk5⟩
    have HX5 := Lib.hid ((Kx.of (L.below_drew _) (Nat.le_of_lt hk.size) hk.xs).trans hkx5)
    clear hqb hK3 hb hC hbw hbx hB1 hkx hgb hRR hR ht hk hkd hm5 ho5 hk5 hkx5
    unfold stC
    subst hCdef
    go_enter Tryz.func122, Tryz.ntmps122
    go_wp2_with fail
    go_region
    have hx : ∀ k, X k → X k ∨ k = w.heap.size := fun k hk => Or.inl hk
    have hbx5 := HBX.out.keep (HX5.out.keep w.heap.size (Or.inr rfl))
    have x1 := hbx5.cell 1
    simp at x1
    have HD5 := Lib.hid (HD.out _ _ HK5.out)
    clear hrun g1 hbx5
    go_wp2_with fail
    refine HD5.out.mono ?_; rintro e' w6 ⟨rfl, hc6, hk6⟩
    have HX6 := Lib.hid (HX5.out.trans hk6)
    have hbx6 := HBX.out.keep (HX6.out.keep w.heap.size (Or.inr rfl))
    have x11 := hbx6.cell 11
    simp at x11
    have HC6 : Hid (CK w6 w0.heap.size (fun k => X k ∨ k = w.heap.size) g bv bl (n + 2) (c.loop s.name)) := hc6
    have HL6 := Lib.hid (HL.out _ w6 (HB1.out.trans HX6.out.below) HC6.out)
    clear hc6 hk6 hbx6 x1
    go_wp2_with fail
    refine HL6.out.mono ?_; rintro e' w7 ⟨rfl, hc7, hk7⟩
    have HX7 := Lib.hid (HX6.out.trans hk7)
    have hbx7 := HBX.out.keep (HX7.out.keep w.heap.size (Or.inr rfl))
    have HBX7 := Lib.hid hbx7
    have HC7 := Lib.hid hc7
    generalize lst (ckB (c.loop s.name) s.body) s.body = L1 at *
    obtain ⟨p7, q7, hk8⟩ := HC7.out
    have hkd := hk8.below (L.below_drew _)
    obtain ⟨w8, hrun, hm8, ho8⟩ := hkd.vis.del_run (y := s.name) (by unfold maxLen; omega) 103 0 Tryz.underlying103
    have hkx8 := Only.kx (X := fun k => X k ∨ k = w.heap.size) ho8 hkd.lo.2.1 (Nat.le_of_lt hkd.size) hkd.off.2.1
    have HX8 := Lib.hid (HX7.out.trans ((Kx.of (L.below_drew _) (Nat.le_of_lt hk8.size) hk8.xs).trans hkx8))
    have HP : Hid (PL w0 X g bv bl (n + 2 * (1 + (dB s.body).length)) w R (.returned (.int .i64 L1.2)) w8) := by
      rw [HR.out]
      refine ⟨rfl, ?_, HW.out.trans (HX8.out.sub hx)⟩
      have : CK w8 w0.heap.size (fun k => X k ∨ k = w.heap.size) g bv bl (n + 2 + 2 * (dB s.body).length) ⟨del L1.1.vis s.name, L1.1.loops, L1.1.decl⟩ := ⟨_, _, hkd.only_v ho8 (Nat.le_refl _) hm8⟩
      exact (this.narrow hx).mono (by omega)
    have g0 := hk8.box.cell 0
    have x1 := hbx7.cell 1
    simp at g0 x1
    clear hc7 hk7 x11 hk8 hkd hm8 ho8 hkx8 hbx7
    go_wp2_with fail
    go_region
    go_wp2_with fail
    go_ret
    exact HP.out
end Go.Proofs.YtnelpgeiioflmaaGreatDoor.Y
namespace Go.Proofs.YtnelpgeiioflmaaGreatDoor.Y
open Go.RowKit
open L (Str isName prt size_len below_2 below_box ret_bool ret_int eql_eq bytes_eq)
open A (Ex St Pm Pr V arity vE vEs absent exV exO Bx RowK Own1 exV_mk exO_mk okE cE PmsAt Stays Bodies stC)

theorem below_now {W w4 : World} {d : Nat} {os : Array Obj} (h : w4 = Sort.grow (redrawn W d) os) : Below W.heap.size W w4 := h ▸ below_regrown W d os
theorem vd_a {s : St} {d : Nat} (h : A.Good s d) : Vd s.a := by
  cases hu : A.uA s.op
  · exact Or.inr (abs_uA h hu)
  · exact Or.inl ⟨1, h.a hu⟩
theorem vd_b {s : St} {d : Nat} (h : A.Good s d) : Vd s.b := by
  cases hu : A.uB s.op
  · exact Or.inr (abs_uB h hu)
  · exact Or.inl ⟨1, h.b hu⟩
theorem gS_open {s : St} (h : gS s) : (∃ d, A.Good s d) ∧ gB s.body ∧ gB s.els := by
  obtain ⟨o, nm, mx, a, b, bd, el⟩ := s
  rw [gS] at h; exact h
theorem dS_open (s : St) : dS s = (if s.op = 1 ∨ s.op = 6 then [s.name] else []) ++ (dB s.body ++ dB s.els) := by
  obtain ⟨o, nm, mx, a, b, bd, el⟩ := s
  rw [dS]; rfl
theorem ckS_a {c : Cx} {s : St} (h : (tyE c.vis s.a).2 ≠ 0) : ckS c s = (c, (tyE c.vis s.a).2) := by
  obtain ⟨o, nm, mx, a, b, bd, el⟩ := s
  have h' : (tyE c.vis a).2 ≠ 0 := h
  rw [ckS, if_pos h']; rfl
theorem ckS_b {c : Cx} {s : St} (h : (tyE c.vis s.a).2 = 0) (h2 : (tyE c.vis s.b).2 ≠ 0) : ckS c s = (c, (tyE c.vis s.b).2) := by
  obtain ⟨o, nm, mx, a, b, bd, el⟩ := s
  have h' : (tyE c.vis a).2 = 0 := h
  have h2' : (tyE c.vis b).2 ≠ 0 := h2
  rw [ckS, if_neg (fun z => z h'), if_pos h2']; rfl
theorem ckS_ok {c : Cx} {s : St} (h : (tyE c.vis s.a).2 = 0) (h2 : (tyE c.vis s.b).2 = 0) : ckS c s =
    if s.op = 1 then (c.declare s.name (tyE c.vis s.a).1, 0) else if s.op = 2 then (c, c.asg s.name (tyE c.vis s.a).1)
    else if s.op = 3 then (c, fitE (decide ((tyE c.vis s.a).1 = 2) && !decide ((tyE c.vis s.b).1 = 3))) else if s.op = 4 then (c, fitE (decide ((tyE c.vis s.a).1 = 2)))
    else if s.op = 5 then whenR c (tyE c.vis s.a).1 s.body s.els else if s.op = 6 then loopR c s.name (tyE c.vis s.a).1 (tyE c.vis s.b).1 s.body
    else if s.op = 7 then (c, fitE (!decide ((tyE c.vis s.a).1 = 3))) else (c, 0) := by
  obtain ⟨o, nm, mx, a, b, bd, el⟩ := s
  have h' : (tyE c.vis a).2 = 0 := h
  have h2' : (tyE c.vis b).2 = 0 := h2
  rw [ckS, if_neg (fun z => z h'), if_neg (fun z => z h2')]; rfl
theorem PL.fin {w0 w w2 w' : World} {X X' : Nat → Prop} {g bv bl k m : Nat} {r : Cx × Int} {e' : Ending} (h : PL w0 X' g bv bl k w2 r e' w') (hx : ∀ k, X k → X' k) (hkx : Kx w0.heap.size X w w2) (hk : k ≤ m) : PL w0 X g bv bl m w r e' w' :=
  ⟨h.1, (h.2.1.narrow hx).mono hk, hkx.trans (h.2.2.sub hx)⟩
end Go.Proofs.YtnelpgeiioflmaaGreatDoor.Y
namespace Go.Proofs.YtnelpgeiioflmaaGreatDoor.Y
open Go.RowKit
open L (Str isName prt size_len below_2 below_box ret_bool ret_int eql_eq bytes_eq)
open A (Ex St Pm Pr V arity vE vEs absent exV exO Bx RowK Own1 exV_mk exO_mk okE cE PmsAt Stays Bodies stC)

set_option maxHeartbeats 8000000 in
set_option maxRecDepth 100000 in
theorem ostmt_e {w0 : World} (hT : Tb w0) {s : St} (hg : gS s) (a1 a2 a3 a4 : Option Addr) (c1 c2 c3 c4 : Nat)
    (hK1 : A.Kids w0 a1 s.a.args) (hK2 : A.Kids w0 a2 s.b.args) {g bv bl n : Nat} {X : Nat → Prop} {c : Cx} {w : World} (hb : Below w0.heap.size w0 w) (hC : CK w w0.heap.size X g bv bl n c) (hne : (tyE c.vis s.a).2 ≠ 0 ∨ (tyE c.vis s.b).2 ≠ 0) :
    Calls Tryz.prog 102 #[.pointer (some ⟨g, 0, none⟩), stC s a1 c1 a2 c2 a3 c3 a4 c4] w (PL w0 X g bv bl (n + 2 * (dS s).length) w (ckS c s)) := by
  obtain ⟨⟨d0, hgood⟩, -⟩ := gS_open hg
  obtain ⟨C, hCdef⟩ : ∃ C : Array Value, C = #[.int .i64 s.op, .string s.name, .int .i64 s.mx, .int .i64 s.a.op, .int .i64 s.a.n, .string s.a.s, .slice a1 s.a.args.length c1, .int .i64 s.b.op, .int .i64 s.b.n, .string s.b.s, .slice a2 s.b.args.length c2, .slice a3 s.body.length c3, .slice a4 s.els.length c4] := ⟨_, rfl⟩
  have hbw := below_box w (.cells C 44)
  have hbx := Bx.new w C 44
  have hC1 := hC.wide (Nat.le_refl _) hbw (by simp)
  have hB1 : Below w0.heap.size w0 (w.alloc (.cells C 44)) := hb.trans (hbw.mono (Nat.le_of_lt hC.size))
  have hkx : Kx w0.heap.size X w (w.alloc (.cells C 44)) := Kx.of hbw (Nat.le_of_lt hC.size) hC.xs
  obtain ⟨p, q, hk⟩ := hC1
  have HTA := Lib.hid (fun (d : Nat) (os : Array Obj) => Calls.regrown_of (d := d) (os := os) (otypeOf_any (f := c.vis) s.a a1 c1 (Sort.grow (redrawn (w.alloc (.cells C 44)) d) os) bv n (hk.below (below_regrown _ d os)).vis (vd_a hgood) ((hT.below hB1).below (below_regrown _ d os)) ((hK1.below hB1).below (below_regrown _ d os))))
  have HTB := Lib.hid (fun (w2 : World) (hb2 : Below (w.alloc (.cells C 44)).heap.size (w.alloc (.cells C 44)) w2) (d : Nat) (os : Array Obj) => Calls.regrown_of (d := d) (os := os) (otypeOf_any (f := c.vis) s.b a2 c2 (Sort.grow (redrawn w2 d) os) bv n ((hk.below hb2).below (below_regrown _ d os)).vis (vd_b hgood) (((hT.below hB1).below hb2).below (below_regrown _ d os)) (((hK2.below hB1).below hb2).below (below_regrown _ d os))))
  have hE1 := ckS_a (c := c) (s := s)
  have hE2 := ckS_b (c := c) (s := s)
  generalize tyE c.vis s.a = ra at *
  generalize tyE c.vis s.b = rb at *
  generalize ckS c s = R at *
  have HE1 := Lib.hid hE1
  have HE2 := Lib.hid hE2
  have HB1 := Lib.hid hB1
  have HBX := Lib.hid hbx
  have HW := Lib.hid hkx
  have HCK : Hid (CK (w.alloc (.cells C 44)) w0.heap.size (fun k => X k ∨ k = w.heap.size) g bv bl n c) := ⟨p, q, hk⟩
  have g0 := hk.box.cell 0
  simp at g0
  have g0' := fun (d : Nat) (os : Array Obj) => cell_regrown g0 d os
  have hx : ∀ k, X k → X k ∨ k = w.heap.size := fun k hk => Or.inl hk
  clear hE1 hE2 hB1 hbx hkx hk hbw hC hb hK1 hK2 hT
  subst hCdef
  unfold stC
  unfold exV at HTA HTB
  go_enter Tryz.func102, Tryz.ntmps102
  have hbx := HBX.out
  have x3 := hbx.cell 3
  have x4 := hbx.cell (3 + 1)
  have x5 := hbx.cell (3 + 2)
  have x6 := hbx.cell (3 + 3)
  simp only [List.getElem?_toArray, List.getElem?_cons_succ, List.getElem?_cons_zero] at x3 x4 x5 x6
  have r3 := fun (d : Nat) (os : Array Obj) => cell_regrown x3 d os
  have r4 := fun (d : Nat) (os : Array Obj) => cell_regrown x4 d os
  have r5 := fun (d : Nat) (os : Array Obj) => cell_regrown x5 d os
  have r6 := fun (d : Nat) (os : Array Obj) => cell_regrown x6 d os
  clear hbx
  go_wp2_with fail
  refine wp_region_quiet_below (by kernel_rfl) (by kernel_rfl) ?_
  repeat (go_big_quiet_step (with_reducible exact HTA.out _ _))
  refine wpQuiet_nil ?_
  intro w2 hw'
  obtain ⟨⟨dq, osq⟩, hw2⟩ := hw'
  have hb2 := below_now hw2
  have HB2 := Lib.hid hb2
  clear hw2 hb2
  have HK2 : Hid (Kx w0.heap.size X w w2) := HW.out.trans (Kx.of HB2.out (Nat.le_of_lt HCK.out.size) (fun k hk => HCK.out.xs k (Or.inl hk)))
  have HC2 := Lib.hid (HCK.out.below HB2.out)
  clear x3 x4 x5 x6 r3 r4 r5 r6 g0'
  by_cases h1 : ra.2 = 0
  case neg =>
    have b1 : (ra.2 != 0) = true := bne_iff_ne.2 h1
    have HP : Hid (PL w0 X g bv bl (n + 2 * (dS s).length) w R (.returned (.int .i64 ra.2)) w2) := by
      rw [HE1.out h1]
      exact ⟨rfl, (HC2.out.narrow hx).mono (Nat.le_add_right _ _), HK2.out⟩
    clear h1 g0
    go_wp2_with fail
    go_ret
    exact HP.out
  have b1 : (ra.2 != 0) = false := by rw [h1]; rfl
  have HTB2 := Lib.hid (HTB.out w2 HB2.out)
  have hbx := HBX.out.below HB2.out
  have x7 := hbx.cell 7
  have x8 := hbx.cell (7 + 1)
  have x9 := hbx.cell (7 + 2)
  have x10 := hbx.cell (7 + 3)
  simp only [List.getElem?_toArray, List.getElem?_cons_succ, List.getElem?_cons_zero] at x7 x8 x9 x10
  have y0 := (HB2.out.cell (block_lt_of_cell g0)).trans g0
  have r0 := fun (d : Nat) (os : Array Obj) => cell_regrown y0 d os
  have r7 := fun (d : Nat) (os : Array Obj) => cell_regrown x7 d os
  have r8 := fun (d : Nat) (os : Array Obj) => cell_regrown x8 d os
  have r9 := fun (d : Nat) (os : Array Obj) => cell_regrown x9 d os
  have r10 := fun (d : Nat) (os : Array Obj) => cell_regrown x10 d os
  clear hbx g0
  go_wp2_with fail
  refine wp_region_quiet_below (by kernel_rfl) (by kernel_rfl) ?_
  repeat (go_big_quiet_step (with_reducible exact HTB2.out _ _))
  refine wpQuiet_nil ?_
  intro w4 hw'
  obtain ⟨⟨dq, osq⟩, hw2⟩ := hw'
  have hb4 := below_now hw2
  have HB4 := Lib.hid hb4
  have HK4 : Hid (Kx w0.heap.size X w w4) := HK2.out.trans (Kx.of hb4 (Nat.le_of_lt HC2.out.size) (fun k hk => HC2.out.xs k (Or.inl hk)))
  have HC4 := Lib.hid (HC2.out.below hb4)
  have HB04 := Lib.hid ((HB1.out.trans (HB2.out.mono (Nat.le_of_lt HCK.out.size))).trans (hb4.mono (Nat.le_of_lt HC2.out.size)))
  have HBX4 := Lib.hid ((HBX.out.below HB2.out).below hb4)
  clear hw2 hb4 x7 x8 x9 x10 r0 r7 r8 r9 r10 y0
  by_cases h2 : rb.2 = 0
  case neg =>
    have b2 : (rb.2 != 0) = true := bne_iff_ne.2 h2
    have HP : Hid (PL w0 X g bv bl (n + 2 * (dS s).length) w R (.returned (.int .i64 rb.2)) w4) := by
      rw [HE2.out h1 h2]
      exact ⟨rfl, (HC4.out.narrow hx).mono (Nat.le_add_right _ _), HK4.out⟩
    clear h1 h2
    go_wp2_with fail
    go_ret
    exact HP.out
  exact absurd hne (fun z => z.elim (fun y => y h1) (fun y => y h2))
end Go.Proofs.YtnelpgeiioflmaaGreatDoor.Y
