/-
  The laws of layer 11: what the statements of a procedure that passes the check have as types.
-/
import Derived.Test.YtlebflphgeolfaaDoorDP
import Derived.Test.YtlebflphgeolfaaDoorQYLG
namespace Go.Proofs.YtlebflphgeolfaaDoor.Y
open Go.RowKit
open L (Str isName prt size_len below_2 below_box ret_bool ret_int eql_eq bytes_eq)
open A (Ex St Pm Pr V arity vE vEs absent exV exO exV_mk Bx okE okEs cE cEs PmsAt StrsAt PrIn OkP prV prO names valE ExsAt ExAt StsAt StAt Bodies RowK Own1 Stays okS okB cS cB preS preB preR preE walk)
open P (G Kd On off_of wp_region_G)

theorem ofE_ty {g : Env} {e : Ex} (h : vE e 1 = 0) : ofE g e = tyE g e := by unfold ofE; rw [if_neg (fun x => x h)]
def nmE (x : ByteArray) : Ex := .mk 3 0 x []
theorem name_v {x : ByteArray} (h : A.nam x = true) : vE (nmE x) 1 = 0 := by
  have hn : A.nodeE (.mk 3 0 x []) 1 = 0 := by
    unfold A.nodeE
    rw [if_neg (by show ¬ (arity 3 < 0 ∨ _); intro hh; rcases hh with hh | ⟨hh, hh2⟩ | ⟨hh, hh2, hh3⟩; exact absurd hh (by decide); exact hh2 rfl; exact hh2 rfl),
      if_neg (by rintro ⟨-, h2⟩; rw [show A.nam x = false from h2] at h; cases h), if_neg (by rintro (hh | ⟨hh, -⟩ | hh); exact absurd hh (by show ¬ ((0 : Int) < 0); decide); exact absurd hh (by show ¬ ((3 : Int) = 2); decide); exact hh (by show ((0 : Nat) : Int) = arity 3; decide)), if_neg (by decide)]
  unfold nmE
  rw [vE, if_neg (fun x => x hn)]
  rfl
theorem ofE_name {g : Env} {x : ByteArray} {t : Int} (h : A.nam x = true) (hg : g x = some t) (h1 : 1 ≤ t ∧ t ≤ 3) : ofE g (nmE x) = (t, 0) := by
  rw [ofE_ty (name_v h)]
  unfold nmE
  rw [tyE, if_pos rfl, tyV_some hg, if_pos h1]
/-- what the law asks of a statement -/
structure LwSt (g : Env) (s : St) : Prop where
  set : s.op = 1 ∨ s.op = 2 → ∃ t, 1 ≤ t ∧ t ≤ 3 ∧ ofE g (nmE s.name) = (t, 0) ∧ ofE g s.a = (t, 0)
  put : s.op = 3 → ofE g s.a = (2, 0) ∧ ∃ x, ofE g s.b = (x, 0) ∧ (x = 1 ∨ x = 2)
  del : s.op = 4 → ofE g s.a = (2, 0)
  cond : s.op = 5 → ofE g s.a = (3, 0)
  loop : s.op = 6 → ofE g s.a = (1, 0) ∧ ofE g s.b = (1, 0) ∧ ofE g (nmE s.name) = (1, 0)
  emit : s.op = 7 → ∃ x, ofE g s.a = (x, 0) ∧ (x = 1 ∨ x = 2)
theorem uA_op {o : Int} (h : o = 1 ∨ o = 2 ∨ o = 3 ∨ o = 4 ∨ o = 5 ∨ o = 6 ∨ o = 7) : A.uA o = true := decide_eq_true h
theorem lw_of {p : Pr} (C : Chk p) {s : St} {d : Nat} (h : V.st s d ∈ walk p) : LwSt (look (chk p).1) s := by
  have hg : A.Good s d := A.good_of (A.first_each (A.val_parts C.val).2.2.1 s d h)
  have hk : OkSt (look (chk p).1) s := C.ok _ h
  refine ⟨fun ho => ?_, fun ho => ?_, fun ho => ?_, fun ho => ?_, fun ho => ?_, fun ho => ?_⟩
  · obtain ⟨t, h1, h2, h3, h4⟩ := hk.set ho
    refine ⟨t, h1, h2, ofE_name (hg.name (decide_eq_true (by omega))) h3 ⟨h1, h2⟩, ?_⟩
    rw [ofE_ty (hg.a (uA_op (by omega)))]; exact h4
  · obtain ⟨h1, h2⟩ := hk.put ho
    refine ⟨by rw [ofE_ty (hg.a (uA_op (by omega)))]; exact h1, ?_⟩
    rw [ofE_ty (hg.b (decide_eq_true (by omega)))]
    rcases h2 with h2 | h2
    · exact ⟨1, h2, Or.inl rfl⟩
    · exact ⟨2, h2, Or.inr rfl⟩
  · rw [ofE_ty (hg.a (uA_op (by omega)))]; exact hk.del ho
  · rw [ofE_ty (hg.a (uA_op (by omega)))]; exact hk.cond ho
  · obtain ⟨h1, h2, h3⟩ := hk.loop ho
    exact ⟨by rw [ofE_ty (hg.a (uA_op (by omega)))]; exact h1, by rw [ofE_ty (hg.b (decide_eq_true (by omega)))]; exact h2, ofE_name (hg.name (decide_eq_true (by omega))) h3 (by omega)⟩
  · rw [ofE_ty (hg.a (uA_op (by omega)))]
    rcases hk.emit ho with h2 | h2
    · exact ⟨1, h2, Or.inl rfl⟩
    · exact ⟨2, h2, Or.inr rfl⟩
mutual
theorem ok_preS : ∀ (s : St) (d : Nat), okS s → ∀ t e, V.st t e ∈ preS s d → okS t ∧ cS t ≤ cS s
  | .mk o nm mx a b bd el, d, h, t, e, hm => by
    rw [preS] at hm
    rcases List.mem_cons.1 hm with hm | hm
    · injection hm with h1 _; rw [h1]; exact ⟨h, Nat.le_refl _⟩
    · rw [okS] at h
      obtain ⟨-, -, -, -, -, -, h6, -, h8⟩ := h
      simp only [List.mem_append] at hm
      rw [cS]
      rcases hm with ((hm | hm) | hm) | hm
      · obtain ⟨_, _, hv⟩ := preR_ex a _ hm; cases hv
      · obtain ⟨_, _, hv⟩ := preR_ex b _ hm; cases hv
      · obtain ⟨k1, k2⟩ := ok_preB bd (d + 1) h6 t e hm; exact ⟨k1, by omega⟩
      · obtain ⟨k1, k2⟩ := ok_preB el (d + 1) h8 t e hm; exact ⟨k1, by omega⟩
theorem ok_preB : ∀ (l : List St) (d : Nat), okB l → ∀ t e, V.st t e ∈ preB l d → okS t ∧ cS t ≤ cB l
  | [], d, h, t, e, hm => by rw [preB] at hm; cases hm
  | s :: r, d, h, t, e, hm => by
    rw [preB] at hm
    rw [okB] at h
    rw [cB]
    rcases List.mem_append.1 hm with hm | hm
    · obtain ⟨k1, k2⟩ := ok_preS s d h.1 t e hm; exact ⟨k1, by omega⟩
    · obtain ⟨k1, k2⟩ := ok_preB r d h.2 t e hm; exact ⟨k1, by omega⟩
end
theorem ok_walk {p : Pr} (h : okB p.body) {s : St} {d : Nat} (hm : V.st s d ∈ walk p) : okS s ∧ cS s ≤ cB p.body := ok_preB p.body 1 h s d (List.mem_of_mem_take hm)
theorem okS_ab {s : St} (h : okS s) : okE s.a ∧ okE s.b := by
  obtain ⟨o, nm, mx, a, b, bd, el⟩ := s
  rw [okS] at h
  exact ⟨h.2.2.2.1, h.2.2.2.2.1⟩
theorem cS_ab (s : St) : 1 + cE s.a ≤ cS s ∧ 1 + cE s.b ≤ cS s := by
  obtain ⟨o, nm, mx, a, b, bd, el⟩ := s
  rw [cS]
  show 1 + cE a ≤ _ ∧ 1 + cE b ≤ _
  constructor <;> omega
set_option maxHeartbeats 4000000 in
set_option maxRecDepth 100000 in
theorem typed_any (e : Ex) (a : Option Addr) (c : Nat) (vs : List Pm) (av : Option Addr) (cv : Nat) (hok : okE e) (hsz : 1 + cE e ≤ 1000000) (hv : OkV vs) (s t x : Int) (hx : ofE (look vs) e = (x, 0)) (hst : x = s ∨ x = t)
    (w : World) (ht : Tb w) (hK : A.Kids w a e.args) (hP : PmsAt w av vs) :
    Calls Tryd.prog 30 #[exV e a c, .slice av vs.length cv, .int .i64 s, .int .i64 t] w fun e' w' => e' = .returned (.bool true) ∧ Below w.heap.size w w' := by
  have hb := below_box w (exO e a c)
  have HC := Lib.hid (oOf_any e a c vs av cv hok hsz hv _ (ht.below hb) (hK.below hb) (hP.below hb))
  rw [hx] at HC
  have HB := Lib.hid hb
  unfold exV exO at *
  clear hok hsz hv hx ht hK hP hb
  by_cases h1 : x = s
  · have b1 : decide (x = s) = true := decide_eq_true h1
    clear hst h1
    go_enter Tryd.func30, Tryd.ntmps30
    go_wp2_with fail
    refine HC.out.mono ?_; rintro e' w2 ⟨rfl, hb2⟩
    have HB2 := Lib.hid (below_2 HB.out hb2)
    clear hb2
    go_wp2_with fail
    all_goals go_ret
    all_goals exact ⟨ret_bool (by simp_all), HB2.out⟩
  · have b1 : decide (x = s) = false := decide_eq_false h1
    have b2 : decide (x = t) = true := decide_eq_true (by rcases hst with h | h; exact absurd h h1; exact h)
    clear hst h1
    go_enter Tryd.func30, Tryd.ntmps30
    go_wp2_with fail
    refine HC.out.mono ?_; rintro e' w2 ⟨rfl, hb2⟩
    have HB2 := Lib.hid (below_2 HB.out hb2)
    clear hb2
    go_wp2_with fail
    all_goals go_ret
    all_goals exact ⟨ret_bool (by simp_all), HB2.out⟩
end Go.Proofs.YtlebflphgeolfaaDoor.Y
