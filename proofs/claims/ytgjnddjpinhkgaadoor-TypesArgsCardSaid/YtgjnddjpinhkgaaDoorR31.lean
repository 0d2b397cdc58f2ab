/-
  Declarations of texts that lie merged: what further laws need of YOC, YOI, YOJ.
-/
import Derived.Test.YtgjnddjpinhkgaaDoorM12
import Derived.Test.YtgjnddjpinhkgaaDoorM14
import Derived.Test.YtgjnddjpinhkgaaDoorM09
import Derived.Test.YtgjnddjpinhkgaaDoorM10
import Derived.Test.YtgjnddjpinhkgaaDoorM19
namespace Go.Proofs.YtgjnddjpinhkgaaDoor.Y
open Go.RowKit
open L (Str isName prt size_len below_2 below_box ret_bool ret_int eql_eq bytes_eq)
open A (Ex St Pm Pr V arity vE vEs absent exV exO Bx RowK Own1 exV_mk exO_mk okE cE PmsAt)
theorem look_take {l : List Pm} {k : Nat} (h : k < l.length) : look (l.take (k + 1)) = (if (look (l.take k) l[k].name).isSome then look (l.take k) else put (look (l.take k)) l[k].name l[k].ty) := by
  rw [List.take_succ_eq_append_getElem h]
  generalize l.take k = m
  generalize l[k] = q
  cases hq : look m q.name with
  | none =>
    rw [if_neg (by simp)]
    exact (put_look (look_none.1 hq) q.ty).symm
  | some t =>
    rw [if_pos (by simp)]
    funext x
    rw [look_app]
    cases hx : look m x with
    | some u => rfl
    | none =>
      have hne : ¬ q.name = x := fun e => by rw [e, hx] at hq; cases hq
      show look [q] x = none
      rw [look_cons, if_neg hne]; rfl
set_option maxHeartbeats 8000000 in
set_option maxRecDepth 100000 in
theorem oOf_any (e : Ex) (a : Option Addr) (c : Nat) (vs : List Pm) (av : Option Addr) (cv : Nat) (hok : okE e) (hsz : 1 + cE e ≤ 1000000) (hv : OkV vs) (w : World) (ht : Tb w) (hK : A.Kids w a e.args) (hP : PmsAt w av vs) :
    Calls Tryd.prog 30 #[exV e a c, .slice av vs.length cv] w fun e' w' => e' = .returned (.tuple #[.int .i64 (ofE (look vs) e).1, .int .i64 (ofE (look vs) e).2]) ∧ Below w.heap.size w w' := by
  have hw := below_box w (exO e a c)
  have hbx := Bx.new w #[.int .i64 e.op, .int .i64 e.n, .string e.s, .slice a e.args.length c] 52
  have hbx' : Bx (w.alloc (exO e a c)) w.heap.size #[.int .i64 e.op, .int .i64 e.n, .string e.s, .slice a e.args.length c] 52 := hbx
  have HV := Lib.hid (A.ovalidExpr_wide e a c hok hsz _ (hK.below hw))
  have HW := Lib.hid hw
  have HBX := Lib.hid hbx'
  have HT := Lib.hid (ht.below hw)
  have HK := Lib.hid (hK.below hw)
  have HP := Lib.hid (hP.below hw)
  have HOV := Lib.hid hv
  have hvl := hv.len
  obtain ⟨R, hR⟩ : ∃ R, ofE (look vs) e = R := ⟨_, rfl⟩
  have HR : Hid (R = if vE e 1 ≠ 0 then (0, vE e 1) else tyE (look vs) e) := by show _ = _; rw [← hR]; rfl
  rw [hR]
  obtain ⟨c1, c2⟩ := R
  have hmm := @run_makeMap Tryd.prog
  by_cases h0 : vE e 1 = 0
  · have HTY := Lib.hid (fun w b n hM hT hK => otypeOf_any (f := look vs) e a c w b n hM (Or.inl ⟨1, h0⟩) hT hK)
    rw [h0] at HV
    have HR2 : Hid ((c1, c2) = tyE (look vs) e) := by show _ = _; rw [HR.out, if_neg (fun z => z h0)]
    obtain ⟨o, n, s, l⟩ := e
    simp only [exV_mk, exO_mk] at *
    have HK2 : Hid (A.Kids (w.alloc (.cells #[.int .i64 o, .int .i64 n, .string s, .slice a l.length c] 52)) a l) := HK.out
    have HBX2 : Hid (Bx (w.alloc (.cells #[.int .i64 o, .int .i64 n, .string s, .slice a l.length c] 52)) w.heap.size #[.int .i64 o, .int .i64 n, .string s, .slice a l.length c] 52) := HBX.out
    have HTY2 : Hid (∀ (w : World) (b n' : Nat), MI w b n' (look vs) → Tb w → A.Kids w a l → Calls Tryd.prog 62 #[.map (some b), .agg #[.int .i64 o, .int .i64 n, .string s, .slice a l.length c]] w fun e' w' => e' = .returned (.tuple #[.int .i64 (tyE (look vs) (.mk o n s l)).1, .int .i64 (tyE (look vs) (.mk o n s l)).2]) ∧ Below w.heap.size w w') := fun w b n' h1 h2 h3 => HTY.out w b n' h1 h2 h3
    generalize tyE (look vs) (.mk o n s l) = R at *
    obtain ⟨d1, d2⟩ := R
    obtain ⟨m, hm⟩ : ∃ m, l.length = m := ⟨_, rfl⟩
    rw [hm] at HV HW HT HP HK2 HBX2 HTY2 ⊢
    obtain ⟨mv, hmv⟩ : ∃ mv, vs.length = mv := ⟨_, rfl⟩
    have HL := Lib.hid hmv
    rw [hmv] at hvl ⊢
    clear hw hbx hbx' hK hP hv hR hsz hok ht h0 hm hmv HTY HBX HR HK
    go_enter Tryd.func30, Tryd.ntmps30
    go_wp2_with fail
    refine HV.out.mono ?_; rintro e' w1 ⟨rfl, hb1⟩
    have HB1 := Lib.hid hb1
    have HM0 := Lib.hid (MI.made w1)
    clear hb1
    go_wp2_with fail
    go_loopw [20] (fun s20 wr => ∃ k : Nat, k ≤ mv ∧ s20 = .int .i64 k ∧ Hid (MI wr w1.heap.size k (look (vs.take k))) ∧ Hid (Below w1.heap.size w1 wr)) (fun s20 _ => mv - (intOf s20).toNat)
    case atStart => exact ⟨0, Nat.zero_le _, rfl, by show MI _ _ _ _; rw [List.take_zero]; exact HM0.out, (Below.refl _ _).alloc (Nat.le_refl _) _⟩
    case round =>
      obtain ⟨k, hk, rfl, HM, HBr⟩ := hrel
      by_cases hlt : k < mv
      · have hlx : k < vs.length := by rw [HL.out]; exact hlt
        obtain ⟨b3, i3, rfl, hcc⟩ := ((HP.out.below HB1.out).below HBr.out).open hlx
        obtain ⟨f0, f1⟩ := hcc k hlx
        have hnx := look_take hlx
        have hqs := HOV.out.name _ (List.getElem_mem hlx)
        have hqt := HOV.out.ty _ (List.getElem_mem hlx)
        generalize vs[k] = q at f0 f1 hnx hqs hqt
        have hb0 := below_box wr (.cells #[.string q.name, .int .i64 q.ty] 40)
        have HM1 := Lib.hid (HM.out.below hb0)
        have HB2 := Lib.hid (below_2 HBr.out hb0)
        have hlook := HM1.out.look (x := q.name) (by unfold maxLen; omega) 98 Tryd.underlying98
        have HWF := Lib.hid (wf_i64 hqt)
        clear hcc hb0
        cases hq : look (vs.take k) q.name with
        | some t =>
          rw [hq] at hlook hnx
          have HN : Hid (look (vs.take (k + 1)) = look (vs.take k)) := hnx
          have hl2 : (Instr.lookup 98 (.map (some w1.heap.size)) (.string q.name) true).run Tryd.prog (wr.alloc (.cells #[.string q.name, .int .i64 q.ty] 40)) = .ok (.tuple #[.int .i64 t, .bool true]) _ := hlook
          clear hlook hnx hq
          go_wp2_with fail
          go_roundw
          case rel => exact ⟨k + 1, by omega, by go_num, by show MI _ _ _ _; rw [HN.out]; exact HM1.out.mono (Nat.le_succ _), HB2.out⟩
          case measure => simp [intOf]; omega
        | none =>
          rw [hq] at hlook hnx
          have HN : Hid (look (vs.take (k + 1)) = put (look (vs.take k)) q.name q.ty) := hnx
          have hl2 : (Instr.lookup 98 (.map (some w1.heap.size)) (.string q.name) true).run Tryd.prog (wr.alloc (.cells #[.string q.name, .int .i64 q.ty] 40)) = .ok (.tuple #[.int .i64 0, .bool false]) _ := hlook
          clear hlook hnx hq
          go_wp2_with (at_mapUpdate; refine wpList_put rfl _ _ _ 98 rfl Tryd.underlying98 w1.heap.size k _ rfl HM1.out (by unfold maxLen; omega) q.name rfl (by unfold maxLen; omega) q.ty rfl HWF.out ?_; intro w5 hm5 ho5)
          have HM5 := Lib.hid hm5
          have HB5 : Hid (Below w1.heap.size w1 w5) := HB2.out.grown ho5.grown HB2.out.size (fun j hj => by cases hj; exact Nat.le_refl _)
          clear hm5 ho5
          go_wp2_with fail
          go_roundw
          case rel => exact ⟨k + 1, by omega, by go_num, by show MI _ _ _ _; rw [HN.out]; exact HM5.out, HB5.out⟩
          case measure => simp [intOf]; omega
      · have hM := HM.out
        rw [List.take_of_length_le (by rw [HL.out]; omega)] at hM
        have HC := Lib.hid (HTY2.out wr w1.heap.size k hM ((HT.out.below HB1.out).below HBr.out) ((HK2.out.below HB1.out).below HBr.out))
        have hbx := (HBX2.out.below HB1.out).below HBr.out
        have x0 := hbx.cell 0
        have x1 := hbx.cell 1
        have x2 := hbx.cell 2
        have x3 := hbx.cell 3
        simp at x0 x1 x2 x3
        clear hM hbx
        go_wp2_with fail
        refine HC.out.mono ?_; rintro e' w2 ⟨rfl, hb2⟩
        have HB2 := Lib.hid hb2
        clear hb2 x0 x1 x2 x3
        have HV2 : Hid (d1 = c1 ∧ d2 = c2) := by
          have := HR2.out
          injection this with h1 h2
          exact ⟨h1.symm, h2.symm⟩
        go_wp2_with fail
        go_ret2
        exact ⟨ret_2 HV2.out.1 HV2.out.2, below_2 HW.out (below_2 HB1.out (below_2 HBr.out HB2.out))⟩
  · have bne : (vE e 1 != 0) = true := bne_iff_ne.2 h0
    have HR2 : Hid (c1 = 0 ∧ c2 = vE e 1) := by
      have := HR.out
      rw [if_pos h0] at this
      injection this with h1 h2
      exact ⟨h1, h2⟩
    obtain ⟨o, n, s, l⟩ := e
    simp only [exV_mk, exO_mk] at *
    generalize vE (.mk o n s l) 1 = x at *
    clear hw hbx hbx' hK hP hv hR hsz hok ht h0 hmm
    go_enter Tryd.func30, Tryd.ntmps30
    go_wp2_with fail
    refine HV.out.mono ?_; rintro e' w1 ⟨rfl, hb1⟩
    have HB1 := Lib.hid hb1
    clear hb1
    go_wp2_with fail
    go_ret2
    exact ⟨ret_2 HR2.out.1.symm HR2.out.2.symm, below_2 HW.out HB1.out⟩
end Go.Proofs.YtgjnddjpinhkgaaDoor.Y
namespace Go.Proofs.YtgjnddjpinhkgaaDoor.Y
open Go.RowKit
open L (Str isName prt size_len below_2 below_box ret_bool ret_int eql_eq bytes_eq)
open A (Ex St Pm Pr V arity vE vEs absent exV exO Bx RowK Own1 exV_mk exO_mk okE cE PmsAt StrsAt pmV PrIn OkP prV prO names valE GivesN)
set_option maxHeartbeats 4000000 in
set_option maxRecDepth 100000 in
theorem oVars_any (p : Pr) (a1 a2 : Option Addr) (c1 c2 : Nat) (hok : OkP p) (hsz : A.cB p.body ≤ 900000) (hpl : p.params.length ≤ 1000) (hps : ∀ j (h : j < p.params.length), p.params[j].name.size ≤ 281474976710656) (hc1 : p.params.length ≤ c1) (w : World) (ht : Tb w) (hK : PrIn w p a1 a2) :
    Calls Tryd.prog 15 #[prV p a1 c1 a2 c2] w (GivesV w (chk p).1) := by
  have hb := below_box w (prO p a1 c1 a2 c2)
  have HC := Lib.hid (ocheck_any p a1 a2 c1 c2 hok hsz hpl hps hc1 _ (ht.below hb) (hK.below hb))
  have HB := Lib.hid hb
  generalize chk p = R at *
  obtain ⟨r1, r2⟩ := R
  unfold prO at *
  unfold prV at *
  clear hok hsz hpl hps hc1 hK hb ht
  go_enter Tryd.func15, Tryd.ntmps15
  go_wp2_with fail
  refine HC.out.mono ?_; rintro e' w2 ⟨p9, q9, rfl, hle, hp, hb2⟩
  have HP : Hid (GivesV w r1 (.returned (.slice p9 r1.length q9)) w2) := ⟨p9, q9, rfl, hle, hp, below_2 HB.out hb2⟩
  clear hle hp hb2
  go_wp2_with fail
  go_ret
  exact HP.out
end Go.Proofs.YtgjnddjpinhkgaaDoor.Y
namespace Go.Proofs.YtgjnddjpinhkgaaDoor.Y
open Go.RowKit
open L (Str isName prt size_len below_2 below_box ret_bool ret_int eql_eq bytes_eq)
open A (Ex St Pm Pr V arity vE vEs absent exV exO exV_mk Bx okE cE PmsAt PrIn OkP prV prO names valE plain)
def vlV (v : Vl) : Value := .agg #[.int .i64 v.kind, .int .i64 v.n, .string v.s]
theorem lit_valid (s : ByteArray) : (vE (.mk 2 0 s []) 1 = 0) ↔ plain s = true := by
  rw [vE, vEs]
  have h : A.nodeE (.mk 2 0 s []) 1 = if plain s = false then 1 else 0 := by
    unfold A.nodeE arity Ex.op Ex.n Ex.s Ex.args
    simp
  rw [h]
  cases plain s <;> simp
set_option maxHeartbeats 4000000 in
set_option maxRecDepth 100000 in
theorem ofits_any (v : Vl) (ty : Int) (hs : v.s.size ≤ 1000) (w : World) : Calls Tryd.prog 40 #[vlV v, .int .i64 ty] w fun e' w' => e' = .returned (.bool (fitsM v ty)) ∧ Below w.heap.size w w' := by
  obtain ⟨kd, n, s⟩ := v
  have hs' : s.size ≤ 1000 := hs
  have hb := below_box w (.cells #[.int .i64 kd, .int .i64 n, .string s] 35)
  have hb2 := below_box (w.alloc (.cells #[.int .i64 kd, .int .i64 n, .string s] 35)) (.cells #[.int .i64 2, .int .i64 0, .string s, .slice none 0 0] 52)
  have HB := Lib.hid hb
  have HB2 := Lib.hid (below_2 hb hb2)
  have hex : okE (.mk 2 0 s []) := by
    rw [okE, A.okEs]
    refine ⟨⟨by decide, by decide⟩, ⟨by decide, by decide⟩, by omega, by simp, trivial⟩
  have hcz : 1 + cE (.mk 2 0 s []) ≤ 1000000 := by
    rw [cE, A.cEs]; omega
  have HV := Lib.hid (A.ovalidExpr_wide (.mk 2 0 s []) none 0 hex hcz ((w.alloc (.cells #[.int .i64 kd, .int .i64 n, .string s] 35)).alloc (.cells #[.int .i64 2, .int .i64 0, .string s, .slice none 0 0] 52)) (Or.inl rfl))
  simp only [exV_mk, List.length_nil] at HV
  have hvp := lit_valid s
  have hk1 : (kd == 1) = decide (kd = 1) := Bool.beq_eq_decide_eq _ _
  have hk2 : (kd == 2) = decide (kd = 2) := Bool.beq_eq_decide_eq _ _
  have hn0 : (n == 0) = decide (n = 0) := Bool.beq_eq_decide_eq _ _
  have hse : s.toList.isEmpty = decide (s = ⟨#[]⟩) := by
    rw [Lib.toList_data, Bool.eq_iff_iff, List.isEmpty_iff, decide_eq_true_iff]
    exact ⟨fun h => L.bytes_eq (by rw [h]), fun h => by rw [h]⟩
  generalize vE (.mk 2 0 s []) 1 = x at HV hvp
  have hv0 : (x == 0) = plain s := by
    rw [Bool.beq_eq_decide_eq]
    cases hp : plain s
    · exact decide_eq_false (fun z => by rw [hvp.1 z] at hp; cases hp)
    · exact decide_eq_true (hvp.2 hp)
  by_cases ht : ty = 1
  · subst ht
    have hf : fitsM ⟨kd, n, s⟩ 1 = (decide (kd = 1) && decide (s = ⟨#[]⟩)) := by unfold fitsM; rw [if_pos rfl]
    rw [hf]
    generalize decide (kd = 1) = y1 at *
    generalize decide (s = ⟨#[]⟩) = y2 at *
    unfold vlV
    clear hf hvp hv0 HV hb hb2 hex hcz hk2 hn0 HB2
    have HSE := Lib.hid hse
    clear hse
    cases y1
    · go_enter Tryd.func40, Tryd.ntmps40
      go_wp2_with fail
      go_ret
      exact ⟨rfl, HB.out⟩
    · go_enter Tryd.func40, Tryd.ntmps40
      go_wp2_with fail
      go_ret
      exact ⟨ret_bool HSE.out, HB.out⟩
  · have hf : fitsM ⟨kd, n, s⟩ ty = (decide (kd = 2) && decide (n = 0) && plain s) := by unfold fitsM; rw [if_neg ht]
    have b1 : (ty == 1) = false := beq_eq_false_iff_ne.2 ht
    rw [hf]
    generalize decide (kd = 2) = y1 at *
    generalize decide (n = 0) = y2 at *
    generalize plain s = y3 at *
    unfold vlV
    clear hf hvp hb hb2 hex hcz hk1 hse ht
    cases y1
    · go_enter Tryd.func40, Tryd.ntmps40
      go_wp2_with fail
      go_ret
      exact ⟨rfl, HB2.out⟩
    · cases y2
      · go_enter Tryd.func40, Tryd.ntmps40
        go_wp2_with fail
        go_ret
        exact ⟨rfl, HB2.out⟩
      · go_enter Tryd.func40, Tryd.ntmps40
        go_wp2_with fail
        refine HV.out.mono ?_; rintro e' w2 ⟨rfl, hb3⟩
        have HB3 := Lib.hid (below_2 HB2.out hb3)
        clear hb3
        go_wp2_with fail
        go_ret
        exact ⟨ret_bool (by simp), HB3.out⟩
theorem argF_drop {ps : List Pm} {l : List Vl} {k : Nat} (hp : k < ps.length) (hl : k < l.length) : argF (ps.drop k) (l.drop k) = if fitsM l[k] ps[k].ty then argF (ps.drop (k + 1)) (l.drop (k + 1)) else 10 := by
  rw [List.drop_eq_getElem_cons hp, List.drop_eq_getElem_cons hl, argF]
set_option maxHeartbeats 4000000 in
set_option maxRecDepth 100000 in
theorem oArgs_any (p : Pr) (a1 a2 : Option Addr) (c1 c2 : Nat) (hok : OkP p) (hsz : A.cB p.body ≤ 900000) (hpl : p.params.length ≤ 1000) (hps : ∀ j (h : j < p.params.length), p.params[j].name.size ≤ 281474976710656) (hc1 : p.params.length ≤ c1)
    (l : List Vl) (av : Option Addr) (cv : Nat) (hll : l.length ≤ 1000000) (hls : ∀ v ∈ l, v.s.size ≤ 1000) (w : World) (ht : Tb w) (hK : PrIn w p a1 a2) (hKl : ValsAt w av l) :
    Calls Tryd.prog 17 #[prV p a1 c1 a2 c2, .slice av l.length cv] w fun e' w' => e' = .returned (.int .i64 (argE p l)) ∧ Below w.heap.size w w' := by
  have hb := below_box w (prO p a1 c1 a2 c2)
  have hbx := Bx.new w #[.string p.name, .slice a1 p.params.length c1, .slice a2 p.body.length c2] 25
  have HC := Lib.hid (oCheck_any p a1 a2 c1 c2 hok hsz hpl hps hc1 _ (ht.below hb) (hK.below hb))
  have HB := Lib.hid hb
  have HBX := Lib.hid hbx
  have HK := Lib.hid (hK.below hb).params
  have HKl := Lib.hid (hKl.below hb)
  have HLS := Lib.hid hls
  have hae : argE p l = if (chk p).2 ≠ 0 ∨ l.length ≠ p.params.length then 1 else argF p.params l := rfl
  obtain ⟨R, hR⟩ : ∃ R, argE p l = R := ⟨_, rfl⟩
  rw [hR] at hae ⊢
  have HA := Lib.hid hae
  generalize (chk p).2 = x at *
  obtain ⟨m, hm⟩ : ∃ m, p.params.length = m := ⟨_, rfl⟩
  have HL := Lib.hid hm
  obtain ⟨ml, hml⟩ : ∃ ml, l.length = ml := ⟨_, rfl⟩
  have HLL := Lib.hid hml
  unfold prO at *
  unfold prV at *
  rw [hm] at HC HB HBX HK HKl HA hpl ⊢
  rw [hml] at HA hll ⊢
  clear hok hsz hps hc1 hK hb hbx ht hm hml hae hR hKl hls
  by_cases hx : x = 0
  case neg =>
    have b1 : (x != 0) = true := bne_iff_ne.2 hx
    have HR : Hid (R = 1) := by show _ = _; rw [HA.out, if_pos (Or.inl hx)]
    clear hx
    go_enter Tryd.func17, Tryd.ntmps17
    go_wp2_with fail
    refine HC.out.mono ?_; rintro e' w2 ⟨rfl, hb2⟩
    have HB2 := Lib.hid (below_2 HB.out hb2)
    clear hb2
    go_wp2_with fail
    go_ret
    exact ⟨ret_int HR.out.symm, HB2.out⟩
  rw [hx] at HC
  by_cases hlen : ml = m
  case neg =>
    have HR : Hid (R = 1) := by show _ = _; rw [HA.out, if_pos (Or.inr hlen)]
    have b2 : ((ml : Int) != (m : Int)) = true := bne_iff_ne.2 (by omega)
    clear hx hlen
    go_enter Tryd.func17, Tryd.ntmps17
    go_wp2_with fail
    refine HC.out.mono ?_; rintro e' w2 ⟨rfl, hb2⟩
    have HB2 := Lib.hid (below_2 HB.out hb2)
    have hbx2 := HBX.out.below hb2
    have x1 := hbx2.cell 1
    simp at x1
    clear hb2 hbx2
    go_wp2_with fail
    go_ret
    exact ⟨ret_int HR.out.symm, HB2.out⟩
  subst hlen
  have HR0 : Hid (argF (p.params.drop 0) (l.drop 0) = R) := by
    show argF p.params l = R
    rw [HA.out, if_neg (by rintro (z | z); exact z hx; exact z rfl)]
  clear hx HA
  go_enter Tryd.func17, Tryd.ntmps17
  go_wp2_with fail
  refine HC.out.mono ?_; rintro e' w2 ⟨rfl, hb2⟩
  have HB2 := Lib.hid (below_2 HB.out hb2)
  have hbx2 := HBX.out.below hb2
  have x1 := hbx2.cell 1
  simp at x1
  have HK2 := Lib.hid (HK.out.below hb2)
  have HKl2 := Lib.hid (HKl.out.below hb2)
  clear hb2 hbx2
  go_wp2_with fail
  go_loopw [21] (fun s21 wr => ∃ k : Nat, k ≤ ml ∧ s21 = .int .i64 k ∧ Hid (argF (p.params.drop k) (l.drop k) = R) ∧ Hid (Below w2.heap.size w2 wr)) (fun s21 _ => ml - (intOf s21).toNat)
  case atStart => exact ⟨0, Nat.zero_le _, rfl, HR0, Below.refl _ _⟩
  case round =>
    obtain ⟨k, hk, rfl, HX, HBr⟩ := hrel
    by_cases hlt : k < ml
    · have hpx : k < p.params.length := by rw [HL.out]; exact hlt
      have hlx : k < l.length := by rw [HLL.out]; exact hlt
      obtain ⟨b3, i3, rfl, hcc⟩ := (HK2.out.below HBr.out).open hpx
      obtain ⟨f0, f1⟩ := hcc k hpx
      obtain ⟨b4, i4, rfl, hcv⟩ := (HKl2.out.below HBr.out).open hlx
      obtain ⟨g0, g1, g2⟩ := hcv k hlx
      have hx := HX.out
      rw [argF_drop hpx hlx] at hx
      have hvs := HLS.out _ (List.getElem_mem hlx)
      generalize p.params[k] = q at f0 f1 hx
      generalize l[k] = v at g0 g1 g2 hx hvs
      obtain ⟨kd, n, s⟩ := v
      have hb0 := below_box wr (.cells #[.string q.name, .int .i64 q.ty] 40)
      have HB0 := Lib.hid (below_2 HBr.out hb0)
      have y0 := (hb0.cell (block_lt_of_cell g0)).trans g0
      have y1 := (hb0.cell (block_lt_of_cell g1)).trans g1
      have y2 := (hb0.cell (block_lt_of_cell g2)).trans g2
      have y3 := (Bx.new wr #[.string q.name, .int .i64 q.ty] 40).cell 1
      simp only [List.getElem?_toArray, List.getElem?_cons_succ, List.getElem?_cons_zero] at y3
      have r3 := fun (d : Nat) (os : Array Obj) => cell_regrown y3 d os
      have r0 := fun (d : Nat) (os : Array Obj) => cell_regrown y0 d os
      have r1 := fun (d : Nat) (os : Array Obj) => cell_regrown y1 d os
      have r2 := fun (d : Nat) (os : Array Obj) => cell_regrown y2 d os
      have HF := Lib.hid (fun (d : Nat) (os : Array Obj) => Calls.regrown_of (d := d) (os := os) (ofits_any ⟨kd, n, s⟩ q.ty hvs (Sort.grow (redrawn (wr.alloc (.cells #[.string q.name, .int .i64 q.ty] 40)) d) os)))
      unfold vlV at HF
      generalize fitsM ⟨kd, n, s⟩ q.ty = y at *
      have HX2 := Lib.hid hx
      simp only at g0 g1 g2 y0 y1 y2 r0 r1 r2
      clear hcc hcv hx hb0 x1
      go_wp2_with fail
      refine wp_region_quiet_below (by kernel_rfl) (by kernel_rfl) ?_
      repeat (go_big_quiet_step (with_reducible exact HF.out _ _))
      refine wpQuiet_nil ?_
      intro w4 hw'
      obtain ⟨⟨dq, osq⟩, hw2⟩ := hw'
      have HB4 := Lib.hid (below_2 HB0.out (below_now hw2))
      clear hw2 r3 y3 r0 r1 r2 y0 y1 y2 f0 f1 g0 g1 g2
      cases y
      · have HV : Hid (10 = R) := by
          have := HX2.out
          rw [if_neg (by decide)] at this; exact this
        go_wp2_with fail
        go_ret
        exact ⟨ret_int HV.out, below_2 HB2.out HB4.out⟩
      · have HX3 : Hid (argF (p.params.drop (k + 1)) (l.drop (k + 1)) = R) := by
          have := HX2.out
          rw [if_pos rfl] at this; exact this
        go_wp2_with fail
        go_roundw
        case rel => exact ⟨k + 1, by omega, by go_num, HX3.out, HB4.out⟩
        case measure => simp [intOf]; omega
    · have HV : Hid (0 = R) := by
        show _ = _
        rw [← HX.out, List.drop_of_length_le (by rw [HL.out]; omega), argF]
      clear x1
      go_wp2_with fail
      go_ret
      exact ⟨ret_int HV.out, below_2 HB2.out HBr.out⟩
end Go.Proofs.YtgjnddjpinhkgaaDoor.Y
