/-
  Plain mathematics of layer 14 over memory: what the nodes of the walk fit; a visit's statement.
  Plain mathematics of layer 14: a reading node's operand; what a visit says of assigned variables and keys.
  What the reference of layer 14 returns: ControlTainted, over what Check returns: contract.
  What the reference of layer 14 returns: KeysTainted, over what Check returns: contract.
  What the reference of layer 14 returns: Independent, over what Check returns: contract.
-/
import Derived.Test.YtnelpgeiioflmaaGreatDoorM24
import Derived.Test.YtnelpgeiioflmaaGreatDoorM07
import Derived.Deep.MidRow
import Derived.Test.YtnelpgeiioflmaaGreatDoorM19
import Derived.Test.YtnelpgeiioflmaaGreatDoorSYRK
namespace Go.Proofs.YtnelpgeiioflmaaGreatDoor.F
open Go.RowKit
open A (Ex St Pm Pr V preE preEs preR preS preB exV okE okEs okS okB VT walk)
open Y (chk)

mutual
theorem ok_inE : ∀ (e : Ex) (r : Bool) (x : Ex) (q : Bool), okE e → V.ex x q ∈ preE e r → okE x
  | .mk o n s l, r, x, q, h, hx => by
    rw [preE] at hx
    rcases List.mem_cons.1 hx with hx | hx
    · injection hx with h1 h2; rw [h1]; exact h
    · rw [okE] at h
      exact ok_inEs l x q h.2.2.2.2 hx
theorem ok_inEs : ∀ (l : List Ex) (x : Ex) (q : Bool), okEs l → V.ex x q ∈ preEs l → okE x
  | [], _, _, _, hx => by rw [preEs] at hx; cases hx
  | e :: r, x, q, h, hx => by
    rw [okEs] at h
    rw [preEs] at hx
    rcases List.mem_append.1 hx with hx | hx
    · exact ok_inE e false x q h.1 hx
    · exact ok_inEs r x q h.2 hx
end
theorem ok_inR {e x : Ex} {q : Bool} (h : okE e) (hx : V.ex x q ∈ preR e) : okE x := ok_inE e true x q h (root_of hx).2.1
def OkV : V → Prop
  | .st s _ => okS s
  | .ex e _ => okE e
mutual
theorem ok_inS : ∀ (s : St) (d : Nat), okS s → ∀ v ∈ preS s d, OkV v
  | .mk o nm mx a b bd el, d, h, v, hv => by
    have ho := A.okS_open h
    rw [preS] at hv
    rcases List.mem_cons.1 hv with hv | hv
    · rw [hv]; exact h
    · simp only [List.mem_append] at hv
      rcases hv with ((hv | hv) | hv) | hv
      · obtain ⟨x, q, rfl⟩ := Y.preR_ex a v hv
        exact ok_inR (show okE a from ho.a) hv
      · obtain ⟨x, q, rfl⟩ := Y.preR_ex b v hv
        exact ok_inR (show okE b from ho.b) hv
      · exact ok_inB bd (d + 1) ho.body v hv
      · exact ok_inB el (d + 1) ho.els v hv
theorem ok_inB : ∀ (l : List St) (d : Nat), okB l → ∀ v ∈ preB l d, OkV v
  | [], _, _, v, hv => by rw [preB] at hv; cases hv
  | s :: r, d, h, v, hv => by
    rw [okB] at h
    rw [preB] at hv
    rcases List.mem_append.1 hv with hv | hv
    · exact ok_inS s d h.1 v hv
    · exact ok_inB r d h.2 v hv
end
theorem ok_walkV {p : Pr} (h : okB p.body) : ∀ v ∈ walk p, OkV v := fun v hv => ok_inB p.body 1 h v (List.mem_of_mem_take hv)
def stOf : V → St
  | .st s _ => s
  | .ex _ _ => .mk 0 ⟨#[]⟩ 0 (.mk 0 0 ⟨#[]⟩ []) (.mk 0 0 ⟨#[]⟩ []) [] []
theorem okE_zero : okE (.mk 0 0 ⟨#[]⟩ []) := by
  rw [okE, okEs]
  exact ⟨by decide, by decide, (show 0 ≤ 1000000000000000 from Nat.zero_le _), Nat.zero_le _, trivial⟩
theorem brV_of (T : ByteArray → Bool) (v : V) : brV T v = (((decide ((stOf v).op = 5) || decide ((stOf v).op = 6)) && tE T (stOf v).a) || (decide ((stOf v).op = 6) && tE T (stOf v).b)) := by
  cases v with
  | st s d => rfl
  | ex e r => rfl
theorem vt_st (y : VT) {w : World} (h : y.In w) (ho : OkV y.v) : ∃ a1 c1 a2 c2 a3 c3 a4 c4 x0 rest, y.cells = x0 :: ((stF (stOf y.v) a1 c1 a2 c2 a3 c3 a4 c4).toList ++ rest) ∧ A.Kids w a1 (stOf y.v).a.args ∧ A.Kids w a2 (stOf y.v).b.args ∧ okE (stOf y.v).a ∧ okE (stOf y.v).b := by
  cases y with
  | st s d a1 c1 a2 c2 a3 c3 a4 c4 =>
    have h' : A.StKids w s a1 a2 a3 a4 := h
    have ho' := A.okS_open (show okS s from ho)
    exact ⟨a1, c1, a2, c2, a3, c3, a4, c4, _, _, rfl, h'.a, h'.b, ho'.a, ho'.b⟩
  | ex e r a c =>
    refine ⟨none, 0, none, 0, none, 0, none, 0, _, _, rfl, ?_, ?_, okE_zero, okE_zero⟩
    · exact Or.inl rfl
    · exact Or.inl rfl
theorem ctrl_of {p : Pr} {v : List ByteArray} (h : (chk p).2 = 0) (hv : Least p.body v) : ctrlT p = (walk p).any (brV (mem v)) := by
  rw [ctrlT, if_neg (fun z => z h), (tnt_least p.body).same hv]
theorem keys_of {p : Pr} {v : List ByteArray} (h : (chk p).2 = 0) (hv : Least p.body v) : keysT p = (walk p).any (keyV (mem v)) := by
  rw [keysT, if_neg (fun z => z h), (tnt_least p.body).same hv]
end Go.Proofs.YtnelpgeiioflmaaGreatDoor.F
namespace Go.Proofs.YtnelpgeiioflmaaGreatDoor.F
open A (Ex St Pm Pr V walk)
open Y (chk)

theorem head_tE {T : ByteArray → Bool} {e : Ex} (h : 0 < e.args.length) : (match e.args with | k :: _ => tE T k | [] => false) = tE T e.args[0] := by
  obtain ⟨o, n, s, l⟩ := e
  cases l with
  | nil => exact absurd h (Nat.lt_irrefl 0)
  | cons q rest => rfl
theorem head_ok {e : Ex} (hoe : A.okE e) (h : 0 < e.args.length) : A.okE e.args[0] := by
  obtain ⟨o, n, s, l⟩ := e
  rw [A.okE] at hoe
  exact A.okEs.get hoe.2.2.2.2 0 h
theorem ex_args {p : Pr} (h : (chk p).2 = 0) {e : Ex} {r : Bool} (hm : A.V.ex e r ∈ walk p) (ha : acc e.op = true) : 0 < e.args.length := by
  obtain ⟨hw, ho⟩ := ok_walk h
  rw [hw] at hm
  obtain ⟨e0, h1, h2, -⟩ := ex_rootB p.body 1 e r hm
  obtain ⟨d, hd⟩ := vE_sub e0 true 1 e r (A.preB_root p.body 1 ho e0 h1).1 h2
  have hn := node_of hd
  obtain ⟨o, n, s, l⟩ := e
  have ho3 : o = 22 ∨ o = 23 ∨ o = 24 := by
    have : acc o = true := ha
    unfold acc at this
    simp only [Bool.or_eq_true, decide_eq_true_eq] at this
    rcases this with (h | h) | h
    · exact Or.inl h
    · exact Or.inr (Or.inl h)
    · exact Or.inr (Or.inr h)
  have har : A.arity o = 1 := by rcases ho3 with rfl | rfl | rfl <;> rfl
  unfold A.nodeE at hn
  split at hn
  · cases hn
  · split at hn
    · cases hn
    · split at hn
      · cases hn
      · rename_i h3
        have h4 : ¬ ((l.length : Int) ≠ A.arity o) := fun z => h3 (Or.inr (Or.inr z))
        rw [har] at h4
        show 0 < l.length
        omega
theorem sets_of (v : V) : V.sets v = if (stOf v).op = 2 then some (stOf v).name else none := by
  cases v with
  | st s d => rfl
  | ex e r => rfl
theorem fm_take {α β : Type} {g : α → Option β} {l : List α} {k : Nat} (h : k < l.length) : (l.take (k + 1)).filterMap g = (l.take k).filterMap g ++ (match g l[k] with | some y => [y] | none => []) := by
  rw [List.take_succ_eq_append_getElem h, List.filterMap_append]
  congr 1
  rw [List.filterMap_cons]
  cases g l[k] <;> rfl
theorem all_take {α : Type} {g : α → Bool} {l : List α} {k : Nat} (h : k < l.length) : (l.take (k + 1)).all g = ((l.take k).all g && g l[k]) := by
  rw [List.take_succ_eq_append_getElem h, List.all_append, List.all_cons, List.all_nil, Bool.and_true]
theorem head_plain {T : ByteArray → Bool} {e : Ex} (h : 0 < e.args.length) : (match e.args with | k :: _ => plainK T k | [] => true) = plainK T e.args[0] := by
  obtain ⟨o, n, s, l⟩ := e
  cases l with
  | nil => exact absurd h (Nat.lt_irrefl 0)
  | cons q rest => rfl
end Go.Proofs.YtnelpgeiioflmaaGreatDoor.F
namespace Go.Proofs.YtnelpgeiioflmaaGreatDoor.F
open Go.RowKit
open L (Str isName prt size_len below_2 below_box ret_bool ret_int eql_eq bytes_eq)
open A (Ex St Pm Pr Bx PrIn OkP prV prO exV okB StrsAt RowK Own1 kN cB cS names walk vs vs_len vcs VT)
open Y (chk)

theorem any_drop {α : Type} {g : α → Bool} {l : List α} {k : Nat} (h : k < l.length) : (l.drop k).any g = (g l[k] || (l.drop (k + 1)).any g) := by
  rw [List.drop_eq_getElem_cons h, List.any_cons]
set_option maxHeartbeats 8000000 in
set_option maxRecDepth 100000 in
theorem rCtrl_any (p : Pr) (a1 a2 : Option Addr) (c1 c2 : Nat) (hok : OkP p) (w : World) (hK : PrIn w p a1 a2)
    (hck : ∀ w', PrIn w' p a1 a2 → Calls Tryz.prog 20 #[prV p a1 c1 a2 c2] w' fun e' w'' => e' = .returned (.int .i64 (chk p).2) ∧ Below w'.heap.size w' w'')
    (hsz : (chk p).2 = 0 → cB p.body ≤ 10000) :
    Calls Tryz.prog 17 #[prV p a1 c1 a2 c2] w fun e' w' => e' = .returned (.bool (ctrlT p)) ∧ Below w.heap.size w w' := by
  have hb := below_box w (prO p a1 c1 a2 c2)
  have hbx := Bx.new w #[.string p.name, .slice a1 p.params.length c1, .slice a2 p.body.length c2] 25
  have HC := Lib.hid (hck _ (hK.below hb))
  have HAl : Hid ((chk p).2 = 0 → ∀ w', PrIn w' p a1 a2 → Calls Tryz.prog 37 #[prV p a1 c1 a2 c2] w' (GivesA p.body w')) := fun h0 w' k => rall_any p a1 a2 c1 c2 hok.body hok.bodyLen (hsz h0) w' k.body
  have HWl := Lib.hid (fun w' hk => A.rwalk_any p a1 a2 c1 c2 hok.body hok.bodyLen w' hk)
  have HVO := Lib.hid (ok_walkV hok.body)
  have HT0 : Hid ((chk p).2 ≠ 0 → ctrlT p = false) := fun h => by unfold ctrlT; rw [if_pos h]
  have HT1 : Hid ((chk p).2 = 0 → ∀ v, Least p.body v → ctrlT p = (walk p).any (brV (mem v))) := fun h v hv => ctrl_of h hv
  have hn : (walk p).length ≤ 401 := by unfold walk; rw [List.length_take]; omega
  have HNW := Lib.hid hn
  have HK := Lib.hid (hK.below hb)
  have HB := Lib.hid hb
  have HX := Lib.hid hbx
  generalize ctrlT p = R at *
  generalize (chk p).2 = z at *
  unfold prO at *
  unfold prV at *
  obtain ⟨m, hm⟩ : ∃ m, p.params.length = m := ⟨_, rfl⟩
  rw [hm] at HC HAl HWl HB HX HK ⊢
  clear hb hbx hok hK hck hsz hm hn
  have x0 := HX.out.cell 0
  have x1 := HX.out.cell 1
  have x2 := HX.out.cell 2
  simp only [List.getElem?_toArray, List.getElem?_cons_zero, List.getElem?_cons_succ] at x0 x1 x2
  by_cases hz : z = 0
  case neg =>
    have b1 : (z != 0) = true := bne_iff_ne.2 hz
    have HR : Hid (R = false) := HT0.out hz
    clear hz
    go_enter Tryz.func17, Tryz.ntmps17
    go_wp2_with fail
    refine HC.out.mono ?_; rintro e' w2 ⟨rfl, hb2⟩
    have HB2 := Lib.hid (below_2 HB.out hb2)
    clear hb2
    go_wp2_with fail
    go_ret
    exact ⟨ret_bool HR.out.symm, HB2.out⟩
  subst hz
  go_enter Tryz.func17, Tryz.ntmps17
  go_wp2_with fail
  refine HC.out.mono ?_; rintro e' w2 ⟨rfl, hb2⟩
  have HB2 := Lib.hid hb2
  have HA2 := Lib.hid (HAl.out (by trivial) w2 (HK.out.below hb2))
  have hx2 := HX.out.below hb2
  have y0 := hx2.cell 0
  have y1 := hx2.cell 1
  have y2 := hx2.cell 2
  simp only [List.getElem?_toArray, List.getElem?_cons_zero, List.getElem?_cons_succ] at y0 y1 y2
  clear hb2 hx2 x0 x1 x2
  go_wp2_with fail
  refine HA2.out.mono ?_; rintro e' w3 ⟨v, pv, qv, rfl, hlv, hvl, hvs, hb3⟩
  have HB3 := Lib.hid (below_2 HB2.out hb3)
  have HR : Hid (R = (walk p).any (brV (mem v))) := HT1.out (by trivial) v hlv
  have HVL := Lib.hid hvl
  have HVs := Lib.hid hvs
  have HN3 := Lib.hid (HWl.out w3 (HK.out.below (below_2 HB2.out hb3)).body)
  have hx3 := HX.out.below (below_2 HB2.out hb3)
  have z0 := hx3.cell 0
  have z1 := hx3.cell 1
  have z2 := hx3.cell 2
  simp only [List.getElem?_toArray, List.getElem?_cons_zero, List.getElem?_cons_succ] at z0 z1 z2
  clear hlv hvl hvs hb3 hx3 y0 y1 y2
  go_wp2_with fail
  refine HN3.out.mono ?_; rintro e' w4 ⟨p3, q3, l', rfl, ho, hi, hv, hb4⟩
  have HB4 := Lib.hid (below_2 HB.out (below_2 HB3.out hb4))
  have HO := Lib.hid ho
  have HI := Lib.hid hi
  have HW := Lib.hid hv
  have HB34 := Lib.hid hb4
  have HV4 := Lib.hid (HVs.out.below hb4)
  have hln : l'.length ≤ 401 := by rw [← vs_len, hv]; exact HNW.out
  have HLN := Lib.hid hln
  obtain ⟨g, hg⟩ : ∃ g, l'.length = g := ⟨_, rfl⟩
  have HG := Lib.hid hg
  clear ho hi hv hb4 z0 z1 z2 hg hln
  have HR0 : Hid (((walk p).drop 0).any (brV (mem v)) = R) := HR.out.symm
  rw [HG.out]
  go_wp2_with fail
  go_loopw [5] (fun s5 wr => ∃ k : Nat, k ≤ g ∧ s5 = .int .i64 k ∧ Hid (((walk p).drop k).any (brV (mem v)) = R) ∧ Hid (Below w4.heap.size w4 wr)) (fun s5 _ => g - (intOf s5).toNat)
  case atStart => exact ⟨0, Nat.zero_le _, rfl, HR0, Below.refl _ _⟩
  case round =>
    obtain ⟨k, hk, rfl, HX2, HBr⟩ := hrel
    have hlg : g ≤ 401 := by rw [← HG.out]; exact HLN.out
    by_cases hlt : k < g
    · have hlt2 : k < l'.length := by rw [HG.out]; exact hlt
      obtain ⟨g3, rfl, hcell⟩ := A.visit_cells HO.out hlt2
      have hlw : k < (walk p).length := by rw [← HW.out, vs_len]; exact hlt2
      have hvk : (walk p)[k] = (l'[k]).v := by simp only [← HW.out, vs, List.getElem_map]
      have hx := HX2.out
      rw [any_drop hlw, hvk, brV_of] at hx
      have hvo := HVO.out _ (List.getElem_mem hlw)
      rw [hvk] at hvo
      obtain ⟨a5, c5, a6, c6, a7, c7, a8, c8, d0, rest, hce, hka, hkb, hoa, hob⟩ := vt_st l'[k] (HI.out _ (List.getElem_mem hlt2)) hvo
      have hg3 : g3 < w4.heap.size := (World.ownsRow.lt HO.out g3 rfl).2
      have hcr : ∀ r, r < 20 → wr.cell? ⟨g3, k * 20 + r, none⟩ = (l'[k]).cells[r]? := fun r hr => (HBr.out.cell (p := ⟨g3, k * 20 + r, none⟩) hg3).trans (hcell r hr)
      rw [hce] at hcr
      generalize stOf (l'[k]).v = s at hx hcr hka hkb hoa hob
      have hbz := below_box wr (A.stO s a5 c5 a6 c6 a7 c7 a8 c8)
      have hxz := Bx.new wr (stF s a5 c5 a6 c6 a7 c7 a8 c8) 44
      have TA : Hid (∀ wk, Below wr.heap.size wr wk → Calls Tryz.prog 41 #[exV s.a a5 c5, .slice pv v.length qv] wk fun e' w' => e' = .returned (.bool (tE (mem v) s.a)) ∧ Below wk.heap.size wk w') := fun wk hb =>
        rtainted_any (by have := HVL.out; omega) s.a a5 c5 pv qv wk hoa ((HV4.out.below HBr.out).below hb) (hka.below (below_2 HB34.out (below_2 HBr.out hb)))
      have TB : Hid (∀ wk, Below wr.heap.size wr wk → Calls Tryz.prog 41 #[exV s.b a6 c6, .slice pv v.length qv] wk fun e' w' => e' = .returned (.bool (tE (mem v) s.b)) ∧ Below wk.heap.size wk w') := fun wk hb =>
        rtainted_any (by have := HVL.out; omega) s.b a6 c6 pv qv wk hob ((HV4.out.below HBr.out).below hb) (hkb.below (below_2 HB34.out (below_2 HBr.out hb)))
      have f0 : wr.cell? ⟨g3, k * 20 + 1, none⟩ = some (.int .i64 s.op) := hcr 1 (by omega)
      have f1 : wr.cell? ⟨g3, k * 20 + 1 + 1, none⟩ = some (.string s.name) := hcr 2 (by omega)
      have f2 : wr.cell? ⟨g3, k * 20 + 1 + 2, none⟩ = some (.int .i64 s.mx) := hcr 3 (by omega)
      have f3 : wr.cell? ⟨g3, k * 20 + 1 + 3, none⟩ = some (.int .i64 s.a.op) := hcr 4 (by omega)
      have f4 : wr.cell? ⟨g3, k * 20 + 1 + 4, none⟩ = some (.int .i64 s.a.n) := hcr 5 (by omega)
      have f5 : wr.cell? ⟨g3, k * 20 + 1 + 5, none⟩ = some (.string s.a.s) := hcr 6 (by omega)
      have f6 : wr.cell? ⟨g3, k * 20 + 1 + 6, none⟩ = some (.slice a5 s.a.args.length c5) := hcr 7 (by omega)
      have f7 : wr.cell? ⟨g3, k * 20 + 1 + 7, none⟩ = some (.int .i64 s.b.op) := hcr 8 (by omega)
      have f8 : wr.cell? ⟨g3, k * 20 + 1 + 8, none⟩ = some (.int .i64 s.b.n) := hcr 9 (by omega)
      have f9 : wr.cell? ⟨g3, k * 20 + 1 + 9, none⟩ = some (.string s.b.s) := hcr 10 (by omega)
      have f10 : wr.cell? ⟨g3, k * 20 + 1 + 10, none⟩ = some (.slice a6 s.b.args.length c6) := hcr 11 (by omega)
      have f11 : wr.cell? ⟨g3, k * 20 + 1 + 11, none⟩ = some (.slice a7 s.body.length c7) := hcr 12 (by omega)
      have f12 : wr.cell? ⟨g3, k * 20 + 1 + 12, none⟩ = some (.slice a8 s.els.length c8) := hcr 13 (by omega)
      unfold A.stO at hbz
      unfold stF at hxz
      unfold exV at TA TB
      clear hcr hce hka hkb hoa hob hvo hvk hcell hlw
      generalize tE (mem v) s.a = ta at *
      generalize tE (mem v) s.b = tb at *
      generalize s.a.args.length = n1 at *
      generalize s.b.args.length = n2 at *
      generalize s.a.op = o1 at *
      generalize s.a.n = m1 at *
      generalize s.a.s = s1 at *
      generalize s.b.op = o2 at *
      generalize s.b.n = m2 at *
      generalize s.b.s = s2 at *
      generalize s.body.length = n3 at *
      generalize s.els.length = n4 at *
      generalize s.op = o0 at *
      generalize s.name = s0 at *
      generalize s.mx = m0 at *
      have y0 := hxz.cell 0
      have y3 := hxz.cell 3
      have y4 := hxz.cell 4
      have y5 := hxz.cell 5
      have y6 := hxz.cell 6
      have y7 := hxz.cell 7
      have y8 := hxz.cell 8
      have y9 := hxz.cell 9
      have y10 := hxz.cell 10
      simp only [List.getElem?_toArray, List.getElem?_cons_zero, List.getElem?_cons_succ] at y0 y3 y4 y5 y6 y7 y8 y9 y10
      have HXz := Lib.hid hxz
      have HBz := Lib.hid hbz
      have HXX := Lib.hid hx
      clear hbz hxz hx hg3
      by_cases h5 : o0 = 5
      · subst h5
        go_wp2_with fail
        refine (TA.out _ HBz.out).mono ?_; rintro e' w7 ⟨rfl, hb7⟩
        have HB7 := Lib.hid (below_2 HBz.out hb7)
        have HX7 := Lib.hid (HXz.out.below hb7)
        clear hb7 y0 y3 y4 y5 y6 y7 y8 y9 y10
        have q0 := HX7.out.cell 0
        have q3 := HX7.out.cell 3
        have q4 := HX7.out.cell 4
        have q5 := HX7.out.cell 5
        have q6 := HX7.out.cell 6
        have q7 := HX7.out.cell 7
        have q8 := HX7.out.cell 8
        have q9 := HX7.out.cell 9
        have q10 := HX7.out.cell 10
        simp only [List.getElem?_toArray, List.getElem?_cons_zero, List.getElem?_cons_succ] at q0 q3 q4 q5 q6 q7 q8 q9 q10
        cases ta with
        | true =>
          have HV : Hid (true = R) := by have h := HXX.out; show _ = _; simpa using h
          have HBn := Lib.hid (below_2 HB4.out (below_2 HBr.out HB7.out))
          go_wp2_with fail
          go_ret
          exact ⟨ret_bool HV.out, HBn.out⟩
        | false =>
          have HX3 : Hid (((walk p).drop (k + 1)).any (brV (mem v)) = R) := by have h := HXX.out; show _ = _; simpa using h
          have HBn := Lib.hid (below_2 HBr.out HB7.out)
          go_wp2_with fail
          go_roundw
          case rel => exact ⟨k + 1, by omega, by go_num, HX3.out, HBn.out⟩
          case measure => simp [intOf]; omega
      · have b5 : (o0 == 5) = false := beq_eq_false_iff_ne.2 h5
        by_cases h6 : o0 = 6
        · subst h6
          go_wp2_with fail
          refine (TA.out _ HBz.out).mono ?_; rintro e' w7 ⟨rfl, hb7⟩
          have HB7 := Lib.hid (below_2 HBz.out hb7)
          have HX7 := Lib.hid (HXz.out.below hb7)
          clear hb7 y0 y3 y4 y5 y6 y7 y8 y9 y10
          have q0 := HX7.out.cell 0
          have q3 := HX7.out.cell 3
          have q4 := HX7.out.cell 4
          have q5 := HX7.out.cell 5
          have q6 := HX7.out.cell 6
          have q7 := HX7.out.cell 7
          have q8 := HX7.out.cell 8
          have q9 := HX7.out.cell 9
          have q10 := HX7.out.cell 10
          simp only [List.getElem?_toArray, List.getElem?_cons_zero, List.getElem?_cons_succ] at q0 q3 q4 q5 q6 q7 q8 q9 q10
          cases ta with
          | true =>
            have HV : Hid (true = R) := by have h := HXX.out; show _ = _; simpa using h
            have HBn := Lib.hid (below_2 HB4.out (below_2 HBr.out HB7.out))
            go_wp2_with fail
            go_ret
            exact ⟨ret_bool HV.out, HBn.out⟩
          | false =>
            go_wp2_with fail
            refine (TB.out _ HB7.out).mono ?_; rintro e' w8 ⟨rfl, hb8⟩
            have HB8 := Lib.hid (below_2 HB7.out hb8)
            have HX8 := Lib.hid (HX7.out.below hb8)
            clear hb8 q0 q3 q4 q5 q6 q7 q8 q9 q10
            have r0 := HX8.out.cell 0
            have r3 := HX8.out.cell 3
            have r4 := HX8.out.cell 4
            have r5 := HX8.out.cell 5
            have r6 := HX8.out.cell 6
            have r7 := HX8.out.cell 7
            have r8 := HX8.out.cell 8
            have r9 := HX8.out.cell 9
            have r10 := HX8.out.cell 10
            simp only [List.getElem?_toArray, List.getElem?_cons_zero, List.getElem?_cons_succ] at r0 r3 r4 r5 r6 r7 r8 r9 r10
            cases tb with
            | true =>
              have HV : Hid (true = R) := by have h := HXX.out; show _ = _; simpa using h
              have HBn := Lib.hid (below_2 HB4.out (below_2 HBr.out HB8.out))
              go_wp2_with fail
              go_ret
              exact ⟨ret_bool HV.out, HBn.out⟩
            | false =>
              have HX3 : Hid (((walk p).drop (k + 1)).any (brV (mem v)) = R) := by have h := HXX.out; show _ = _; simpa using h
              have HBn := Lib.hid (below_2 HBr.out HB8.out)
              go_wp2_with fail
              go_roundw
              case rel => exact ⟨k + 1, by omega, by go_num, HX3.out, HBn.out⟩
              case measure => simp [intOf]; omega
        · have b6 : (o0 == 6) = false := beq_eq_false_iff_ne.2 h6
          have HX3 : Hid (((walk p).drop (k + 1)).any (brV (mem v)) = R) := by have h := HXX.out; show _ = _; simpa [h5, h6] using h
          have HBn := Lib.hid (below_2 HBr.out HBz.out)
          go_wp2_with fail
          go_roundw
          case rel => exact ⟨k + 1, by omega, by go_num, HX3.out, HBn.out⟩
          case measure => simp [intOf]; omega
    · have hx := HX2.out
      rw [List.drop_of_length_le (by rw [← HW.out, vs_len, HG.out]; omega)] at hx
      have HV : Hid (false = R) := hx
      have HBn := Lib.hid (below_2 HB4.out HBr.out)
      clear hx
      go_wp2_with fail
      go_ret
      exact ⟨ret_bool HV.out, HBn.out⟩
end Go.Proofs.YtnelpgeiioflmaaGreatDoor.F
namespace Go.Proofs.YtnelpgeiioflmaaGreatDoor.F
open Go.RowKit
open L (Str isName prt size_len below_2 below_box ret_bool ret_int eql_eq bytes_eq)
open A (Ex St Pm Pr Bx PrIn OkP prV prO exV okB StrsAt RowK Own1 kN cB cS names walk vs vs_len vcs VT)
open Y (chk)

section
variable {ops : Array Oper} {rest : List Oper} {o : Oper} {a : Act} {Q : Exit → Act → World → Prop}
theorem at_load46 {w : World} (_ : o.op = Op.load 46 (.tmp 22)) (h : wpList Tryz.prog ops Q (o :: rest) a w) : wpList Tryz.prog ops Q (o :: rest) a w := h
theorem at_store46 {w : World} (_ : o.op = Op.store 46 (.tmp 6) (.tmp 23)) (h : wpList Tryz.prog ops Q (o :: rest) a w) : wpList Tryz.prog ops Q (o :: rest) a w := h
theorem box_row (w : World) (old cells : Array Value) (t : TypeId) : (w.alloc (.cells old t)).setRow w.heap.size cells = w.alloc (.cells cells t) := by
  unfold World.setRow World.alloc
  congr 1
  apply Array.ext
  · simp
  · intro k h1 h2
    simp only [Array.getElem_modify]
    split
    · rename_i hk
      subst hk
      simp
    · rename_i hk
      have h3 : k < w.heap.size := by simp at h2; omega
      simp [Array.getElem_push, h3]
theorem wpList_store_new {w : World} (hgd : o.guard = none) (t : TypeId) (x y : Operand) (ho : o.op = .store t x y) (old cells : Array Value) (hx : a.eval x = .pointer (some ⟨w.heap.size, 0, none⟩)) (hy : a.eval y = .agg cells)
    (hi : (Tryz.prog.info? t).map (·.size) = some cells.size) (hold : old.size = cells.size) (h1 : cells.all (·.oneCell') = true)
    (h : wpList Tryz.prog ops Q rest (a.put o.dst undef) (w.alloc (.cells cells t))) : wpList Tryz.prog ops Q (o :: rest) a (w.alloc (.cells old t)) := by
  refine wpList_store_row hgd t x y ho w.heap.size cells hx hy t old (Bx.new w old t) hi hold h1 ?_
  rw [box_row]
  exact h
end
set_option maxHeartbeats 8000000 in
set_option maxRecDepth 100000 in
theorem rKeys_any (p : Pr) (a1 a2 : Option Addr) (c1 c2 : Nat) (hok : OkP p) (w : World) (hK : PrIn w p a1 a2)
    (hck : ∀ w', PrIn w' p a1 a2 → Calls Tryz.prog 20 #[prV p a1 c1 a2 c2] w' fun e' w'' => e' = .returned (.int .i64 (chk p).2) ∧ Below w'.heap.size w' w'')
    (hsz : (chk p).2 = 0 → cB p.body ≤ 10000) :
    Calls Tryz.prog 15 #[prV p a1 c1 a2 c2] w fun e' w' => e' = .returned (.bool (keysT p)) ∧ Below w.heap.size w w' := by
  have hb := below_box w (prO p a1 c1 a2 c2)
  have hbx := Bx.new w #[.string p.name, .slice a1 p.params.length c1, .slice a2 p.body.length c2] 25
  have HC := Lib.hid (hck _ (hK.below hb))
  have HAl : Hid ((chk p).2 = 0 → ∀ w', PrIn w' p a1 a2 → Calls Tryz.prog 37 #[prV p a1 c1 a2 c2] w' (GivesA p.body w')) := fun h0 w' k => rall_any p a1 a2 c1 c2 hok.body hok.bodyLen (hsz h0) w' k.body
  have HWl := Lib.hid (fun w' hk => A.rwalk_any p a1 a2 c1 c2 hok.body hok.bodyLen w' hk)
  have HVO := Lib.hid (ok_walkV hok.body)
  have HAr : Hid ((chk p).2 = 0 → ∀ e r, A.V.ex e r ∈ walk p → acc e.op = true → 0 < e.args.length) := fun h e r hm ha => ex_args h hm ha
  have HT0 : Hid ((chk p).2 ≠ 0 → keysT p = false) := fun h => by unfold keysT; rw [if_pos h]
  have HT1 : Hid ((chk p).2 = 0 → ∀ v, Least p.body v → keysT p = (walk p).any (keyV (mem v))) := fun h v hv => keys_of h hv
  have hn : (walk p).length ≤ 401 := by unfold walk; rw [List.length_take]; omega
  have HNW := Lib.hid hn
  have HK := Lib.hid (hK.below hb)
  have HB := Lib.hid hb
  have HX := Lib.hid hbx
  generalize keysT p = R at *
  generalize (chk p).2 = z at *
  unfold prO at *
  unfold prV at *
  obtain ⟨m, hm⟩ : ∃ m, p.params.length = m := ⟨_, rfl⟩
  rw [hm] at HC HAl HWl HB HX HK ⊢
  clear hb hbx hok hK hck hsz hm hn
  have x0 := HX.out.cell 0
  have x1 := HX.out.cell 1
  have x2 := HX.out.cell 2
  simp only [List.getElem?_toArray, List.getElem?_cons_zero, List.getElem?_cons_succ] at x0 x1 x2
  by_cases hz : z = 0
  case neg =>
    have b1 : (z != 0) = true := bne_iff_ne.2 hz
    have HR : Hid (R = false) := HT0.out hz
    clear hz
    go_enter Tryz.func15, Tryz.ntmps15
    go_wp2_with fail
    refine HC.out.mono ?_; rintro e' w2 ⟨rfl, hb2⟩
    have HB2 := Lib.hid (below_2 HB.out hb2)
    clear hb2
    go_wp2_with fail
    go_ret
    exact ⟨ret_bool HR.out.symm, HB2.out⟩
  subst hz
  go_enter Tryz.func15, Tryz.ntmps15
  go_wp2_with fail
  refine HC.out.mono ?_; rintro e' w2 ⟨rfl, hb2⟩
  have HB2 := Lib.hid hb2
  have HA2 := Lib.hid (HAl.out (by trivial) w2 (HK.out.below hb2))
  have hx2 := HX.out.below hb2
  have y0 := hx2.cell 0
  have y1 := hx2.cell 1
  have y2 := hx2.cell 2
  simp only [List.getElem?_toArray, List.getElem?_cons_zero, List.getElem?_cons_succ] at y0 y1 y2
  clear hb2 hx2 x0 x1 x2
  go_wp2_with fail
  refine HA2.out.mono ?_; rintro e' w3 ⟨v, pv, qv, rfl, hlv, hvl, hvs, hb3⟩
  have HB3 := Lib.hid (below_2 HB2.out hb3)
  have HR : Hid (R = (walk p).any (keyV (mem v))) := HT1.out (by trivial) v hlv
  have HVL := Lib.hid hvl
  have HVs := Lib.hid hvs
  have HN3 := Lib.hid (HWl.out w3 (HK.out.below (below_2 HB2.out hb3)).body)
  have hx3 := HX.out.below (below_2 HB2.out hb3)
  have z0 := hx3.cell 0
  have z1 := hx3.cell 1
  have z2 := hx3.cell 2
  simp only [List.getElem?_toArray, List.getElem?_cons_zero, List.getElem?_cons_succ] at z0 z1 z2
  clear hlv hvl hvs hb3 hx3 y0 y1 y2
  go_wp2_with fail
  refine HN3.out.mono ?_; rintro e' w4 ⟨p3, q3, l', rfl, ho, hi, hv, hb4⟩
  have HB4 := Lib.hid (below_2 HB.out (below_2 HB3.out hb4))
  have HO := Lib.hid ho
  have HI := Lib.hid hi
  have HW := Lib.hid hv
  have HB34 := Lib.hid hb4
  have HV4 := Lib.hid (HVs.out.below hb4)
  have hln : l'.length ≤ 401 := by rw [← vs_len, hv]; exact HNW.out
  have HLN := Lib.hid hln
  obtain ⟨g, hg⟩ : ∃ g, l'.length = g := ⟨_, rfl⟩
  have HG := Lib.hid hg
  clear ho hi hv hb4 z0 z1 z2 hg hln
  have HR0 : Hid (((walk p).drop 0).any (keyV (mem v)) = R) := HR.out.symm
  rw [HG.out]
  go_wp2_with fail
  go_loopw [5] (fun s5 wr => ∃ k : Nat, k ≤ g ∧ s5 = .int .i64 k ∧ Hid (((walk p).drop k).any (keyV (mem v)) = R) ∧ Hid (Below w4.heap.size w4 wr)) (fun s5 _ => g - (intOf s5).toNat)
  case atStart => exact ⟨0, Nat.zero_le _, rfl, HR0, Below.refl _ _⟩
  case round =>
    obtain ⟨k, hk, rfl, HX2, HBr⟩ := hrel
    have hlg : g ≤ 401 := by rw [← HG.out]; exact HLN.out
    by_cases hlt : k < g
    · have hlt2 : k < l'.length := by rw [HG.out]; exact hlt
      obtain ⟨g3, rfl, hcell⟩ := A.visit_cells HO.out hlt2
      have hlw : k < (walk p).length := by rw [← HW.out, vs_len]; exact hlt2
      have hvk : (walk p)[k] = (l'[k]).v := by simp only [← HW.out, vs, List.getElem_map]
      have hx := HX2.out
      rw [any_drop hlw, hvk] at hx
      have hvo := HVO.out _ (List.getElem_mem hlw)
      have har := HAr.out (by trivial)
      have hwm := List.getElem_mem hlw
      rw [hvk] at hvo hwm
      have hin := HI.out _ (List.getElem_mem hlt2)
      have hg3 : g3 < w4.heap.size := (World.ownsRow.lt HO.out g3 rfl).2
      have hrg : wr.rangeAt g3 (k * 20) (l'[k]).cells := fun j u hj => by
        have hj2 : j < 20 := by
          rw [← VT.cells_len l'[k]]
          exact (List.getElem?_eq_some_iff.1 hj).1
        exact ((HBr.out.cell (p := ⟨g3, k * 20 + j, none⟩) hg3).trans (hcell j hj2)).trans hj
      have hinf : (Tryz.prog.info? 46).map (·.size) = some (l'[k]).cells.length := by
        rw [VT.cells_len]; kernel_rfl
      have hinf2 : (Tryz.prog.info? 46).map (·.size) = some (l'[k]).cells.toArray.size := by
        rw [List.size_toArray, VT.cells_len]; kernel_rfl
      have hone : (l'[k]).cells.toArray.all (·.oneCell') = true := by
        rw [List.all_toArray, List.all_eq_true]
        exact A.one_cellsV l'[k]
      have hold : 20 = (l'[k]).cells.toArray.size := by rw [List.size_toArray, VT.cells_len]
      have HRG := Lib.hid hrg
      have HINF := Lib.hid hinf
      have HINF2 := Lib.hid hinf2
      have HONE := Lib.hid hone
      have HOLD := Lib.hid hold
      obtain ⟨RS, hRS⟩ : ∃ b, ((walk p).drop (k + 1)).any (keyV (mem v)) = b := ⟨_, rfl⟩
      rw [hRS] at hx
      have HRS := Lib.hid hRS
      have hvll : v.length ≤ 1000000000000000 := by have := HVL.out; omega
      have hbl := below_box wr (.cells (l'[k]).cells.toArray 46)
      have hbx := Bx.new wr (l'[k]).cells.toArray 46
      have hcl : ∀ j, (wr.alloc (.cells (l'[k]).cells.toArray 46)).cell? ⟨wr.heap.size, j, none⟩ = (l'[k]).cells[j]? := fun j => (hbx.cell j).trans (List.getElem?_toArray)
      have HBX := Lib.hid hbx
      have HBL := Lib.hid hbl
      clear hRS hrg hinf hinf2 hone hold hbl hbx hcell hg3
      obtain ⟨y, hy⟩ : ∃ y, l'[k] = y := ⟨_, rfl⟩
      rw [hy] at hx hvo hwm hin hcl HRG HINF HINF2 HONE HOLD HBX HBL
      clear hy hvk hlw
      obtain ⟨cs, hcs⟩ : ∃ cs, y.cells = cs := ⟨_, rfl⟩
      rw [hcs] at hcl HRG HINF HINF2 HONE HOLD HBX HBL
      have HCS := Lib.hid hcs
      have HX0 := Lib.hid hx
      have HVO0 := Lib.hid hvo
      have HWM0 := Lib.hid hwm
      have HAR0 := Lib.hid har
      have HIN0 := Lib.hid hin
      have HCL0 := Lib.hid hcl
      clear hx hvo hwm har hin hcl hcs
      go_upto_region 9 with (first | (refine at_load46 rfl ?_; refine wpList_load_mid rfl 46 (.tmp 22) rfl g3 (k * 20) rfl cs _ HRG.out Tryz.underlying46 rfl HINF.out ?_) | (refine at_store46 rfl ?_; refine wpList_store_new rfl 46 (.tmp 6) (.tmp 23) rfl _ cs.toArray rfl rfl HINF2.out HOLD.out HONE.out ?_))
      clear HRG HINF HINF2 HONE HOLD HBX
      have hcl := HCL0.out
      clear HCL0
      generalize hwz : wr.alloc (.cells cs.toArray 46) = wz at hcl HBL ⊢
      generalize Value.agg cs.toArray = g23
      clear hwz
      have hx := HX0.out
      have hvo := HVO0.out
      have hwm := HWM0.out
      have har := HAR0.out
      have hin := HIN0.out
      have hcs := HCS.out
      clear HX0 HVO0 HWM0 HAR0 HIN0
      cases y with
      | st s d a5 c5 a6 c6 a7 c7 a8 c8 =>
        have hkk : A.StKids w3 s a5 a6 a7 a8 := hin
        have hoa := A.okS_open (show A.okS s from hvo)
        have hx' : (((decide (s.op = 3) || decide (s.op = 4)) && tE (mem v) s.a) || RS) = R := hx
        have TA : Hid (∀ wk, Below wr.heap.size wr wk → Calls Tryz.prog 41 #[exV s.a a5 c5, .slice pv v.length qv] wk fun e' w' => e' = .returned (.bool (tE (mem v) s.a)) ∧ Below wk.heap.size wk w') := fun wk hb =>
          rtainted_any hvll s.a a5 c5 pv qv wk hoa.a ((HV4.out.below HBr.out).below hb) (hkk.a.below (below_2 HB34.out (below_2 HBr.out hb)))
        have y0 : wz.cell? ⟨wr.heap.size, 0, none⟩ = some (.bool true) := (hcl 0).trans (by rw [← HCS.out]; rfl)
        have y1 : wz.cell? ⟨wr.heap.size, 1, none⟩ = some (.int .i64 s.op) := (hcl 1).trans (by rw [← HCS.out]; rfl)
        have y4 : wz.cell? ⟨wr.heap.size, 4, none⟩ = some (.int .i64 s.a.op) := (hcl 4).trans (by rw [← HCS.out]; rfl)
        have y5 : wz.cell? ⟨wr.heap.size, 5, none⟩ = some (.int .i64 s.a.n) := (hcl 5).trans (by rw [← HCS.out]; rfl)
        have y6 : wz.cell? ⟨wr.heap.size, 6, none⟩ = some (.string s.a.s) := (hcl 6).trans (by rw [← HCS.out]; rfl)
        have y7 : wz.cell? ⟨wr.heap.size, 7, none⟩ = some (.slice a5 s.a.args.length c5) := (hcl 7).trans (by rw [← HCS.out]; rfl)
        unfold exV at TA
        clear hx hvo hwm har hin hkk hoa hcl hvll hcs HCS
        generalize tE (mem v) s.a = ta at hx' TA
        generalize s.a.args.length = n1 at y7 TA
        generalize s.a.op = o1 at y4 TA
        generalize s.a.n = m1 at y5 TA
        generalize s.a.s = s1 at y6 TA
        generalize s.op = o0 at y1 hx'
        have HRR := Lib.hid hx'
        clear hx'
        by_cases h5 : o0 = 3
        · subst h5
          go_wp2_with fail
          refine (TA.out _ HBL.out).mono ?_; rintro e' w7 ⟨rfl, hb7⟩
          have HB7 := Lib.hid (below_2 HBL.out hb7)
          have q0 := (hb7.cell (block_lt_of_cell y0)).trans y0
          have q1 := (hb7.cell (block_lt_of_cell y1)).trans y1
          have q4 := (hb7.cell (block_lt_of_cell y4)).trans y4
          have q5 := (hb7.cell (block_lt_of_cell y5)).trans y5
          have q6 := (hb7.cell (block_lt_of_cell y6)).trans y6
          have q7 := (hb7.cell (block_lt_of_cell y7)).trans y7
          clear hb7 y0 y1 y4 y5 y6 y7
          cases ta with
          | true =>
            have HV : Hid (true = R) := by have h := HRR.out; show _ = _; simpa using h
            have HBn := Lib.hid (below_2 HB4.out (below_2 HBr.out HB7.out))
            go_wp2_with fail
            go_ret
            exact ⟨ret_bool HV.out, HBn.out⟩
          | false =>
            have HX3 : Hid (((walk p).drop (k + 1)).any (keyV (mem v)) = R) := by have h := HRR.out; show _ = _; rw [HRS.out]; simpa using h
            have HBn := Lib.hid (below_2 HBr.out HB7.out)
            go_wp2_with fail
            go_roundw
            case rel => exact ⟨k + 1, by omega, by go_num, HX3.out, HBn.out⟩
            case measure => simp [intOf]; omega
        · have b5 : (o0 == 3) = false := beq_eq_false_iff_ne.2 h5
          by_cases h6 : o0 = 4
          · subst h6
            go_wp2_with fail
            refine (TA.out _ HBL.out).mono ?_; rintro e' w7 ⟨rfl, hb7⟩
            have HB7 := Lib.hid (below_2 HBL.out hb7)
            have q0 := (hb7.cell (block_lt_of_cell y0)).trans y0
            have q1 := (hb7.cell (block_lt_of_cell y1)).trans y1
            have q4 := (hb7.cell (block_lt_of_cell y4)).trans y4
            have q5 := (hb7.cell (block_lt_of_cell y5)).trans y5
            have q6 := (hb7.cell (block_lt_of_cell y6)).trans y6
            have q7 := (hb7.cell (block_lt_of_cell y7)).trans y7
            clear hb7 y0 y1 y4 y5 y6 y7
            cases ta with
            | true =>
              have HV : Hid (true = R) := by have h := HRR.out; show _ = _; simpa using h
              have HBn := Lib.hid (below_2 HB4.out (below_2 HBr.out HB7.out))
              go_wp2_with fail
              go_ret
              exact ⟨ret_bool HV.out, HBn.out⟩
            | false =>
              have HX3 : Hid (((walk p).drop (k + 1)).any (keyV (mem v)) = R) := by have h := HRR.out; show _ = _; rw [HRS.out]; simpa using h
              have HBn := Lib.hid (below_2 HBr.out HB7.out)
              go_wp2_with fail
              go_roundw
              case rel => exact ⟨k + 1, by omega, by go_num, HX3.out, HBn.out⟩
              case measure => simp [intOf]; omega
          · have b6 : (o0 == 4) = false := beq_eq_false_iff_ne.2 h6
            have HX3 : Hid (((walk p).drop (k + 1)).any (keyV (mem v)) = R) := by have h := HRR.out; show _ = _; rw [HRS.out]; simpa [h5, h6] using h
            have HBn := Lib.hid (below_2 HBr.out HBL.out)
            go_wp2_with fail
            go_roundw
            case rel => exact ⟨k + 1, by omega, by go_num, HX3.out, HBn.out⟩
            case measure => simp [intOf]; omega
      | ex e r a5 c5 =>
        have hkk : A.Kids w3 a5 e.args := hin
        have hoe : A.okE e := hvo
        have har2 := har e r hwm
        have hx' : ((acc e.op && (match e.args with | k :: _ => tE (mem v) k | [] => false)) || RS) = R := hx
        have HA := Lib.hid (fun wk => raccess_any e.op wk)
        have y0 : wz.cell? ⟨wr.heap.size, 0, none⟩ = some (.bool false) := (hcl 0).trans (by rw [← HCS.out]; rfl)
        have y15 : wz.cell? ⟨wr.heap.size, 15, none⟩ = some (.int .i64 e.op) := (hcl 15).trans (by rw [← HCS.out]; rfl)
        have y18 : wz.cell? ⟨wr.heap.size, 18, none⟩ = some (.slice a5 e.args.length c5) := (hcl 18).trans (by rw [← HCS.out]; rfl)
        clear hx hvo hwm har hin hcl hcs HCS
        cases hac : acc e.op with
        | false =>
          rw [hac] at hx'
          have HRR := Lib.hid hx'
          have HA2 : Hid (∀ wk, Calls Tryz.prog 28 #[.int .i64 e.op] wk fun e' w' => e' = .returned (.bool false) ∧ w' = wk) := fun wk => by rw [← hac]; exact HA.out wk
          clear hx' har2 hkk hoe hac HA hvll
          generalize e.args.length = n1 at y18
          generalize e.op = o1 at y15 HA2
          go_wp2_with fail
          refine (HA2.out _).mono ?_; rintro e' w7 ⟨rfl, rfl⟩
          have HX3 : Hid (((walk p).drop (k + 1)).any (keyV (mem v)) = R) := by have h := HRR.out; show _ = _; rw [HRS.out]; simpa using h
          have HBn := Lib.hid (below_2 HBr.out HBL.out)
          go_wp2_with fail
          go_roundw
          case rel => exact ⟨k + 1, by omega, by go_num, HX3.out, HBn.out⟩
          case measure => simp [intOf]; omega
        | true =>
          have hlen := har2 hac
          have hx2 : (tE (mem v) e.args[0] || RS) = R := by
            rw [hac] at hx'
            rw [← hx']
            exact congrArg (fun z => (z || RS)) ((head_tE (T := mem v) hlen).symm.trans (Bool.true_and _).symm)
          have HA2 : Hid (∀ wk, Calls Tryz.prog 28 #[.int .i64 e.op] wk fun e' w' => e' = .returned (.bool true) ∧ w' = wk) := fun wk => by rw [← hac]; exact HA.out wk
          have hokk := head_ok hoe hlen
          obtain ⟨b9, i9, rfl, hat⟩ := (hkk.below (below_2 HB34.out (below_2 HBr.out HBL.out))).open hlen
          obtain ⟨d0, d1, d2, a9, c9, d3, hk9⟩ := hat.open
          simp only [Nat.zero_mul, Nat.add_zero] at d0 d1 d2 d3
          generalize e.args[0] = e0 at d0 d1 d2 d3 hx2 hokk hk9
          have TA : Hid (Calls Tryz.prog 41 #[exV e0 a9 c9, .slice pv v.length qv] _ fun e' w' => e' = .returned (.bool (tE (mem v) e0)) ∧ Below _ _ w') :=
            rtainted_any hvll e0 a9 c9 pv qv _ hokk ((HV4.out.below HBr.out).below HBL.out) hk9
          have HRR := Lib.hid hx2
          have hlp : (0 : Int) < (e.args.length : Int) := by omega
          unfold exV at TA
          clear hx' hx2 har2 hkk hoe hac HA hokk hat hk9 hvll hlen
          generalize tE (mem v) e0 = ta at HRR TA
          generalize e0.args.length = n2 at d3 TA
          generalize e0.op = o2 at d0 TA
          generalize e0.n = m2 at d1 TA
          generalize e0.s = s2 at d2 TA
          generalize e.args.length = n1 at y18 hlp
          generalize e.op = o1 at y15 HA2
          go_wp2_with fail
          refine (HA2.out _).mono ?_; rintro e' w7 ⟨rfl, rfl⟩
          go_wp2_with fail
          refine TA.out.mono ?_; rintro e' w8 ⟨rfl, hb8⟩
          have HB8 := Lib.hid (below_2 HBL.out hb8)
          clear hb8
          cases ta with
          | true =>
            have HV : Hid (true = R) := by have h := HRR.out; show _ = _; simpa using h
            have HBn := Lib.hid (below_2 HB4.out (below_2 HBr.out HB8.out))
            go_wp2_with fail
            go_ret
            exact ⟨ret_bool HV.out, HBn.out⟩
          | false =>
            have HX3 : Hid (((walk p).drop (k + 1)).any (keyV (mem v)) = R) := by have h := HRR.out; show _ = _; rw [HRS.out]; simpa using h
            have HBn := Lib.hid (below_2 HBr.out HB8.out)
            go_wp2_with fail
            go_roundw
            case rel => exact ⟨k + 1, by omega, by go_num, HX3.out, HBn.out⟩
            case measure => simp [intOf]; omega
    · have hx := HX2.out
      rw [List.drop_of_length_le (by rw [← HW.out, vs_len, HG.out]; omega)] at hx
      have HV : Hid (false = R) := hx
      have HBn := Lib.hid (below_2 HB4.out HBr.out)
      clear hx
      go_wp2_with fail
      go_ret
      exact ⟨ret_bool HV.out, HBn.out⟩
end Go.Proofs.YtnelpgeiioflmaaGreatDoor.F
namespace Go.Proofs.YtnelpgeiioflmaaGreatDoor.F
open Go.RowKit
open L (Str isName prt size_len below_2 below_box ret_bool ret_int eql_eq bytes_eq)
open A (Ex St Pm Pr Bx PrIn OkP prV prO exV okB StrsAt RowK Own1 kN cB cS names walk vs vs_len vcs VT)
open Y (chk)

set_option maxHeartbeats 4000000 in
set_option maxRecDepth 100000 in
theorem rIndep_any (p : Pr) (a1 a2 : Option Addr) (c1 c2 : Nat) (hok : OkP p) (w : World) (hK : PrIn w p a1 a2)
    (hck : ∀ w', PrIn w' p a1 a2 → Calls Tryz.prog 20 #[prV p a1 c1 a2 c2] w' fun e' w'' => e' = .returned (.int .i64 (chk p).2) ∧ Below w'.heap.size w' w'')
    (hsz : (chk p).2 = 0 → cB p.body ≤ 10000) :
    Calls Tryz.prog 19 #[prV p a1 c1 a2 c2] w fun e' w' => e' = .returned (.bool (indep p)) ∧ Below w.heap.size w w' := by
  have hb := below_box w (prO p a1 c1 a2 c2)
  have hbx := Bx.new w #[.string p.name, .slice a1 p.params.length c1, .slice a2 p.body.length c2] 25
  have HC := Lib.hid (hck _ (hK.below hb))
  have HKT : Hid (∀ w', PrIn w' p a1 a2 → Calls Tryz.prog 15 #[prV p a1 c1 a2 c2] w' fun e' w'' => e' = .returned (.bool (keysT p)) ∧ Below w'.heap.size w' w'') := fun w' k => rKeys_any p a1 a2 c1 c2 hok w' k hck hsz
  have HR : Hid (indep p = (decide ((chk p).2 = 0) && !keysT p)) := by unfold indep; show _ = _; simp
  have HK := Lib.hid (hK.below hb)
  have HB := Lib.hid hb
  have HX := Lib.hid hbx
  generalize indep p = R at *
  generalize keysT p = kt at *
  generalize (chk p).2 = z at *
  unfold prO at *
  unfold prV at *
  clear hb hbx hok hK hck hsz
  have x0 := HX.out.cell 0
  have x1 := HX.out.cell 1
  have x2 := HX.out.cell 2
  simp only [List.getElem?_toArray, List.getElem?_cons_zero, List.getElem?_cons_succ] at x0 x1 x2
  by_cases hz : z = 0
  case neg =>
    have b1 : (z == 0) = false := beq_eq_false_iff_ne.2 hz
    have HR2 : Hid (false = R) := by have h := HR.out; show _ = _; rw [h]; simp [hz]
    clear hz
    go_enter Tryz.func19, Tryz.ntmps19
    go_wp2_with fail
    refine HC.out.mono ?_; rintro e' w2 ⟨rfl, hb2⟩
    have HB2 := Lib.hid (below_2 HB.out hb2)
    clear hb2
    go_wp2_with fail
    go_ret
    exact ⟨ret_bool HR2.out, HB2.out⟩
  subst hz
  go_enter Tryz.func19, Tryz.ntmps19
  go_wp2_with fail
  refine HC.out.mono ?_; rintro e' w2 ⟨rfl, hb2⟩
  have HB2 := Lib.hid (below_2 HB.out hb2)
  have HT2 := Lib.hid (HKT.out w2 (HK.out.below hb2))
  have hx2 := HX.out.below hb2
  have y0 := hx2.cell 0
  have y1 := hx2.cell 1
  have y2 := hx2.cell 2
  simp only [List.getElem?_toArray, List.getElem?_cons_zero, List.getElem?_cons_succ] at y0 y1 y2
  clear hb2 hx2 x0 x1 x2
  go_wp2_with fail
  refine HT2.out.mono ?_; rintro e' w3 ⟨rfl, hb3⟩
  have HB3 := Lib.hid (below_2 HB2.out hb3)
  clear hb3 y0 y1 y2
  cases kt with
  | true =>
    have HR2 : Hid (false = R) := by have h := HR.out; show _ = _; rw [h]; simp
    go_wp2_with fail
    go_ret
    exact ⟨ret_bool HR2.out, HB3.out⟩
  | false =>
    have HR2 : Hid (true = R) := by have h := HR.out; show _ = _; rw [h]; simp
    go_wp2_with fail
    go_ret
    exact ⟨ret_bool HR2.out, HB3.out⟩
structure SmR (p : Pr) (a1 a2 : Option Addr) (c1 c2 : Nat) : Prop where
  rK : ∀ w', PrIn w' p a1 a2 → Calls Tryz.prog 15 #[prV p a1 c1 a2 c2] w' fun e' w'' => e' = .returned (.bool (keysT p)) ∧ Below w'.heap.size w' w''
  rC : ∀ w', PrIn w' p a1 a2 → Calls Tryz.prog 17 #[prV p a1 c1 a2 c2] w' fun e' w'' => e' = .returned (.bool (ctrlT p)) ∧ Below w'.heap.size w' w''
  rI : ∀ w', PrIn w' p a1 a2 → Calls Tryz.prog 19 #[prV p a1 c1 a2 c2] w' fun e' w'' => e' = .returned (.bool (indep p)) ∧ Below w'.heap.size w' w''
theorem smr_of {p : Pr} {a1 a2 : Option Addr} {c1 c2 : Nat} {m : Nat} (hm : m ≤ 1600) (hok : OkP p) (s : A.SmP p m) : SmR p a1 a2 c1 c2 := by
  have hb := s.body
  have hp := s.params
  have hck : ∀ w', PrIn w' p a1 a2 → Calls Tryz.prog 20 #[prV p a1 c1 a2 c2] w' fun e' w'' => e' = .returned (.int .i64 (chk p).2) ∧ Below w'.heap.size w' w'' := fun w' k => by
    rw [(Y.chk_main p).1]; exact Y.rCheck_any p a1 a2 c1 c2 hok (by omega) (by omega) w' k
  exact ⟨fun w' k => rKeys_any p a1 a2 c1 c2 hok w' k hck fun _ => by omega, fun w' k => rCtrl_any p a1 a2 c1 c2 hok w' k hck fun _ => by omega, fun w' k => rIndep_any p a1 a2 c1 c2 hok w' k hck fun _ => by omega⟩
end Go.Proofs.YtnelpgeiioflmaaGreatDoor.F
