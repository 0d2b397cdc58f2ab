/-
  What the reference of layer 8 returns: valid, ValidExpr, countExpr: contracts by induction on the tree.
  What the reference of layer 8 returns: countExpr, SmallExpr, EqualExpr: contracts by induction on the tree.
  What the reference of layer 8 returns: EqualExpr: its contract, by induction on the tree.
  What the reference of layer 8 returns: countBody, Small: contracts.
  What the reference of layer 8 returns: Small: its contract.
-/
import Derived.Test.YtbmdadhbkdkgmaaGreatDoorARefsB
import Derived.Test.YtbmdadhbkdkgmaaGreatDoorGA
namespace Go.Proofs.YtbmdadhbkdkgmaaGreatDoor.A
open Go.RowKit
open L (Str isName prt size_len below_2 below_box ret_bool ret_int)

theorem drop_ex {l : List Ex} {k : Nat} (h : k < l.length) : l.drop k = l[k] :: l.drop (k + 1) := List.drop_eq_getElem_cons h
theorem okE_open {o n : Int} {s : ByteArray} {l : List Ex} (h : okE (.mk o n s l)) : s.size ≤ 1000000000000000 ∧ l.length ≤ 1000000000000000 ∧ okEs l := by
  rw [okE] at h
  exact ⟨h.2.2.1, h.2.2.2.1, h.2.2.2.2⟩
theorem exV_mk (o n : Int) (s : ByteArray) (l : List Ex) (a : Option Addr) (c : Nat) : exV (.mk o n s l) a c = .agg #[.int .i64 o, .int .i64 n, .string s, .slice a l.length c] := rfl
theorem exO_mk (o n : Int) (s : ByteArray) (l : List Ex) (a : Option Addr) (c : Nat) : exO (.mk o n s l) a c = .cells #[.int .i64 o, .int .i64 n, .string s, .slice a l.length c] 33 := rfl
theorem op_mk (o n : Int) (s : ByteArray) (l : List Ex) : (Ex.mk o n s l).op = o := rfl
theorem n_mk (o n : Int) (s : ByteArray) (l : List Ex) : (Ex.mk o n s l).n = n := rfl
theorem s_mk (o n : Int) (s : ByteArray) (l : List Ex) : (Ex.mk o n s l).s = s := rfl
theorem args_mk (o n : Int) (s : ByteArray) (l : List Ex) : (Ex.mk o n s l).args = l := rfl
/-- the box of an expression, later -/
theorem box_later {w w' : World} {e : Ex} {a : Option Addr} {c : Nat} (hb : Below (w.alloc (exO e a c)).heap.size (w.alloc (exO e a c)) w') :
    w'.cell? ⟨w.heap.size, 0, none⟩ = some (.int .i64 e.op) ∧ w'.cell? ⟨w.heap.size, 1, none⟩ = some (.int .i64 e.n) ∧ w'.cell? ⟨w.heap.size, 2, none⟩ = some (.string e.s) ∧ w'.cell? ⟨w.heap.size, 3, none⟩ = some (.slice a e.args.length c) := by
  obtain ⟨c0, c1, c2, c3⟩ := exO_cells w e a c
  have hlt : w.heap.size < (w.alloc (exO e a c)).heap.size := by simp
  exact ⟨(hb.cell hlt).trans c0, (hb.cell hlt).trans c1, (hb.cell hlt).trans c2, (hb.cell hlt).trans c3⟩
set_option maxHeartbeats 4000000 in
set_option maxRecDepth 100000 in
theorem rvalid_any : ∀ (e : Ex) (a : Option Addr) (c : Nat) (d : Nat), d ≤ 1000 → okE e → ∀ w : World, Kids w a e.args →
    Calls Tryz.prog 44 #[exV e a c, .int .i64 (d : Int)] w fun e' w' => e' = .returned (.int .i64 (vE e d)) ∧ Below w.heap.size w w' := by
  refine Ex.ind (P := fun e => ∀ (a : Option Addr) (c : Nat) (d : Nat), d ≤ 1000 → okE e → ∀ w : World, Kids w a e.args → Calls Tryz.prog 44 #[exV e a c, .int .i64 (d : Int)] w fun e' w' => e' = .returned (.int .i64 (vE e d)) ∧ Below w.heap.size w w') ?_
  intro o n s l ih a c d hd hok w hK
  obtain ⟨hs, hl, hoks⟩ := okE_open hok
  have HNd := Lib.hid (rnode_any (.mk o n s l) a c d (by omega) hs)
  have HW := Lib.hid (below_box w (exO (.mk o n s l) a c))
  have HBL := Lib.hid (fun w' hb => box_later (w := w) (w' := w') (e := .mk o n s l) (a := a) (c := c) hb)
  have HKK : Hid (Kids w a l) := hK
  have HIH := Lib.hid ih
  have HOK := Lib.hid hoks
  by_cases hx : nodeE (.mk o n s l) d = 0
  · have hv : vE (.mk o n s l) d = vEs l (d + 1) := by rw [vE, if_neg (fun h => h hx)]
    have h12 : d ≤ 12 := by
      apply Decidable.byContradiction
      intro h
      unfold nodeE at hx
      repeat' split at hx
      all_goals first | omega | cases hx
    rw [hv]
    rw [hx] at HNd
    obtain ⟨R, hR⟩ : ∃ R, vEs l (d + 1) = R := ⟨_, rfl⟩
    rw [hR]
    have HR : Hid (vEs (l.drop 0) (d + 1) = R) := hR
    simp only [exV_mk, exO_mk, op_mk, n_mk, s_mk, args_mk] at HNd HW HBL ⊢
    obtain ⟨m, hm⟩ : ∃ m, l.length = m := ⟨_, rfl⟩
    have HL := Lib.hid hm
    rw [hm] at HNd HW HBL hl ⊢
    clear hx hv hR hm hK ih hoks hok
    go_enter Tryz.func44, Tryz.ntmps44
    go_wp2_with fail
    refine (HNd.out _).mono ?_; rintro e w1 ⟨rfl, hb1⟩
    have HB1 := Lib.hid hb1
    clear hb1
    go_wp2_with fail
    go_loopw [6] (fun s6 wr => ∃ k : Nat, k ≤ m ∧ s6 = .int .i64 k ∧ Hid (vEs (l.drop k) (d + 1) = R) ∧ Hid (Below (w.alloc (.cells #[.int .i64 o, .int .i64 n, .string s, .slice a m c] 33)).heap.size (w.alloc (.cells #[.int .i64 o, .int .i64 n, .string s, .slice a m c] 33)) wr)) (fun s6 _ => m - (intOf s6).toNat)
    case atStart => exact ⟨0, Nat.zero_le _, rfl, HR, HB1⟩
    case round =>
      obtain ⟨k, hk, rfl, HK, HB⟩ := hrel
      obtain ⟨c0, c1, c2, c3⟩ := HBL.out _ HB.out
      have HBB := Lib.hid (below_2 HW.out HB.out)
      by_cases hlt : k < m
      · have hlx : k < l.length := by rw [HL.out]; exact hlt
        have hkk := HK.out
        rw [drop_ex hlx, vEs] at hkk
        obtain ⟨b2, i2, rfl, hat⟩ := (HKK.out.below HBB.out).open hlx
        obtain ⟨d0, d1, d2, a2, cc, d3, hk2⟩ := hat.open
        have HC := Lib.hid (HIH.out k hlx a2 cc (d + 1) (by omega) (HOK.out.get k hlx) _ hk2)
        clear hat hk2
        generalize vE l[k] (d + 1) = x at HC hkk
        unfold exV at HC
        simp only [Int.natCast_add, Int.natCast_one] at HC
        generalize l[k].args.length = m2 at d3 HC
        generalize l[k].op = o2 at d0 HC
        generalize l[k].n = n2 at d1 HC
        generalize l[k].s = s2 at d2 HC
        by_cases hx : x = 0
        · have bx : (x != 0) = false := by rw [bne_eq_false_iff_eq]; exact hx
          rw [if_neg (fun h => h hx)] at hkk
          have HN := Lib.hid hkk
          clear hkk hx
          go_wp2_with fail
          refine HC.out.mono ?_; rintro e w2 ⟨rfl, hb2⟩
          go_wp2_with fail
          go_roundw
          case rel => exact ⟨k + 1, by omega, by go_num, HN, below_2 HB.out hb2⟩
          case measure => simp [intOf]; omega
        · have bx : (x != 0) = true := bne_iff_ne.2 hx
          rw [if_pos hx] at hkk
          have HV := Lib.hid hkk
          clear hkk hx
          go_wp2_with fail
          refine HC.out.mono ?_; rintro e w2 ⟨rfl, hb2⟩
          go_wp2_with fail
          go_ret
          exact ⟨ret_int HV.out, below_2 HBB.out hb2⟩
      · have HV : Hid (R = 0) := by
          show _ = _
          rw [← HK.out, List.drop_of_length_le (by rw [HL.out]; omega), vEs]
        go_wp2_with fail
        go_ret
        exact ⟨ret_int HV.out.symm, HBB.out⟩
  · have HV : Hid (vE (.mk o n s l) d = nodeE (.mk o n s l) d) := by show _ = _; rw [vE, if_pos hx]
    have bx : (nodeE (.mk o n s l) d != 0) = true := bne_iff_ne.2 hx
    generalize nodeE (.mk o n s l) d = x at HNd HV bx
    rw [HV.out]
    simp only [exV_mk, exO_mk] at HNd HW ⊢
    clear hx HV HIH HBL hK ih hoks hok
    go_enter Tryz.func44, Tryz.ntmps44
    go_wp2_with fail
    refine (HNd.out _).mono ?_; rintro e w1 ⟨rfl, hb1⟩
    go_wp2_with fail
    go_ret
    exact ⟨rfl, below_2 HW.out hb1⟩
theorem rvalidExpr_any (e : Ex) (a : Option Addr) (c : Nat) (hok : okE e) (w : World) (hK : Kids w a e.args) :
    Calls Tryz.prog 23 #[exV e a c] w fun e' w' => e' = .returned (.int .i64 (vE e 1)) ∧ Below w.heap.size w w' := by
  have HC := Lib.hid (fun w h => rvalid_any e a c 1 (by decide) hok w h)
  have hw := below_box w (exO e a c)
  have HK2 := Lib.hid (hK.below hw)
  have HW := Lib.hid hw
  generalize vE e 1 = x at HC ⊢
  unfold exV exO at *
  simp only [show ((1 : Nat) : Int) = 1 from rfl] at HC
  clear hw hK
  go_enter Tryz.func23, Tryz.ntmps23
  go_wp2_with fail
  refine (HC.out _ HK2.out).mono ?_; rintro e w1 ⟨rfl, hb1⟩
  go_wp2_with fail
  go_ret
  exact ⟨rfl, below_2 HW.out hb1⟩
end Go.Proofs.YtbmdadhbkdkgmaaGreatDoor.A
namespace Go.Proofs.YtbmdadhbkdkgmaaGreatDoor.A
open Go.RowKit
open L (Str isName prt size_len below_2 below_box ret_bool ret_int eql_eq bytes_eq)

/-- a number counted up to a bound: exact up to it, beyond it if there are more -/
structure Cnt (x : Nat) (m r : Int) : Prop where
  pos : 0 ≤ r
  le : r ≤ x
  eq : (x : Int) ≤ m → r = x
  gt : m < x → m < r
  top : r ≤ max m 0 + 100000000000000
theorem cEs_take {l : List Ex} {k : Nat} (h : k < l.length) : cEs (l.take (k + 1)) = cEs (l.take k) + cE l[k] := by
  induction l generalizing k with
  | nil => cases h
  | cons e l ih =>
    cases k with
    | zero => simp [cEs]
    | succ k =>
      have := ih (k := k) (by simpa using h)
      simp only [List.take_succ_cons, cEs, List.getElem_cons_succ] at this ⊢
      omega
theorem cEs_le (l : List Ex) (k : Nat) : cEs (l.take k) ≤ cEs l := by
  induction l generalizing k with
  | nil => simp
  | cons e l ih =>
    cases k with
    | zero => simp [cEs]
    | succ k =>
      have := ih k
      simp only [List.take_succ_cons, cEs] at this ⊢
      omega
end Go.Proofs.YtbmdadhbkdkgmaaGreatDoor.A
namespace Go.Proofs.YtbmdadhbkdkgmaaGreatDoor.A
open Go.RowKit
open L (Str isName prt size_len below_2 below_box ret_bool ret_int eql_eq bytes_eq)

theorem eqEs_len {l l2 : List Ex} (h : ¬ l.length = l2.length) : eqEs l l2 = false := by
  cases he : eqEs l l2
  · rfl
  · rw [(eqEs_iff l l2).1 he] at h; exact absurd rfl h
theorem bytes_dec (a b : ByteArray) : (a.toList == b.toList) = decide (a = b) := by
  rw [eql_eq]
  exact decide_eq_decide.2 ⟨fun h => bytes_eq h, fun h => by rw [h]⟩
/-- two boxes, later -/
theorem boxes_later {w w' : World} {e e2 : Ex} {a a2 : Option Addr} {c c2 : Nat} (hb : Below ((w.alloc (exO e a c)).alloc (exO e2 a2 c2)).heap.size ((w.alloc (exO e a c)).alloc (exO e2 a2 c2)) w') :
    (w'.cell? ⟨w.heap.size, 0, none⟩ = some (.int .i64 e.op) ∧ w'.cell? ⟨w.heap.size, 1, none⟩ = some (.int .i64 e.n) ∧ w'.cell? ⟨w.heap.size, 2, none⟩ = some (.string e.s) ∧ w'.cell? ⟨w.heap.size, 3, none⟩ = some (.slice a e.args.length c)) ∧
    (w'.cell? ⟨w.heap.size + 1, 0, none⟩ = some (.int .i64 e2.op) ∧ w'.cell? ⟨w.heap.size + 1, 1, none⟩ = some (.int .i64 e2.n) ∧ w'.cell? ⟨w.heap.size + 1, 2, none⟩ = some (.string e2.s) ∧ w'.cell? ⟨w.heap.size + 1, 3, none⟩ = some (.slice a2 e2.args.length c2)) := by
  have h1 := box_later (below_2 (below_box (w.alloc (exO e a c)) (exO e2 a2 c2)) hb)
  have h2 := box_later (w := w.alloc (exO e a c)) hb
  have hsz : (w.alloc (exO e a c)).heap.size = w.heap.size + 1 := by simp
  rw [hsz] at h2
  exact ⟨h1, h2⟩
end Go.Proofs.YtbmdadhbkdkgmaaGreatDoor.A
namespace Go.Proofs.YtbmdadhbkdkgmaaGreatDoor.A
open Go.RowKit
open L (Str isName prt size_len below_2 below_box ret_bool ret_int eql_eq bytes_eq)

/-- a number counted up to a bound, whatever lies beyond -/
structure Core (x : Nat) (m r : Int) : Prop where
  pos : 0 ≤ r
  le : r ≤ x
  eq : (x : Int) ≤ m → r = x
  gt : m < x → m < r
theorem Cnt.core {x : Nat} {m r : Int} (h : Cnt x m r) : Core x m r := ⟨h.pos, h.le, h.eq, h.gt⟩
theorem Core.add {x y : Nat} {m n r : Int} (h : Core x m n) (h2 : Core y (m - n) r) : Core (x + y) m (n + r) := by
  obtain ⟨a1, a2, a3, a4⟩ := h
  obtain ⟨b1, b2, b3, b4⟩ := h2
  refine ⟨by omega, by omega, fun h => ?_, fun h => ?_⟩
  · have := a3 (by omega); have := b3 (by omega); omega
  · by_cases hx : (x : Int) ≤ m
    · have := a3 hx; have := b4 (by omega); omega
    · have := a4 (by omega); omega
theorem Core.plus {x y : Nat} {m n : Int} (h : Core x m n) (hn : n ≤ m) : Core (x + y) m (n + y) := by
  obtain ⟨a1, a2, a3, a4⟩ := h
  have : n = x := a3 (by apply Decidable.byContradiction; intro hx; have := a4 (by omega); omega)
  exact ⟨by omega, by omega, fun h => by omega, fun h => by omega⟩
theorem cS_parts (s : St) : cS s = 1 + s.name.size / 64 + cE s.a + cE s.b + cB s.body + cB s.els := by
  obtain ⟨o, nm, mx, a, b, bd, el⟩ := s
  rw [cS]; rfl
theorem cB_take {l : List St} {k : Nat} (h : k < l.length) : cB (l.take (k + 1)) = cB (l.take k) + cS l[k] := by
  induction l generalizing k with
  | nil => cases h
  | cons e l ih =>
    cases k with
    | zero => simp [cB]
    | succ k =>
      have := ih (k := k) (by simpa using h)
      simp only [List.take_succ_cons, cB, List.getElem_cons_succ] at this ⊢
      omega
theorem cB_le (l : List St) (k : Nat) : cB (l.take k) ≤ cB l := by
  induction l generalizing k with
  | nil => simp
  | cons e l ih =>
    cases k with
    | zero => simp [cB]
    | succ k =>
      have := ih k
      simp only [List.take_succ_cons, cB] at this ⊢
      omega
/-- what countBody's result is -/
structure CntB (x : Nat) (m r : Int) : Prop where
  core : Core x m r
  top : r ≤ max m 0 + 300000000000000
  none : m < 0 → r = 0
end Go.Proofs.YtbmdadhbkdkgmaaGreatDoor.A
namespace Go.Proofs.YtbmdadhbkdkgmaaGreatDoor.A
open Go.RowKit
open L (Str isName prt size_len below_2 below_box ret_bool ret_int eql_eq bytes_eq)

theorem small_bad {p : Pr} {m k : Nat} (h : k < p.params.length) (h2 : 200 < p.params[k].name.size) : small p m = false := by
  unfold small
  have : p.params.all (fun q => decide (q.name.size ≤ 200)) = false := List.all_eq_false.2 ⟨p.params[k], List.getElem_mem h, by rw [decide_eq_false (by omega)]; decide⟩
  rw [this]; simp
theorem small_long {p : Pr} {m : Nat} (h : 40 < p.params.length) : small p m = false := by unfold small; rw [decide_eq_false (by omega)]; rfl
theorem small_name {p : Pr} {m : Nat} (h : 200 < p.name.size) : small p m = false := by unfold small; rw [decide_eq_false (show ¬ p.name.size ≤ 200 by omega)]; simp
theorem small_end {p : Pr} {m : Nat} (h1 : ¬ 40 < p.params.length) (h2 : ¬ 200 < p.name.size) (h3 : ∀ j (h : j < p.params.length), ¬ 200 < p.params[j].name.size) : small p m = decide (cB p.body ≤ m) := by
  unfold small
  have : p.params.all (fun q => decide (q.name.size ≤ 200)) = true := by
    rw [List.all_eq_true]
    intro q hq
    obtain ⟨j, hj, rfl⟩ := List.getElem_of_mem hq
    exact decide_eq_true (by have := h3 j hj; omega)
  rw [this, decide_eq_true (by omega), decide_eq_true (by omega)]; rfl
end Go.Proofs.YtbmdadhbkdkgmaaGreatDoor.A
