/-
  The laws of layer 11: the expressions of every statement have the types that the statement requires.
-/
import Derived.Test.YtlebflphgeolfaaDoorM14
import Derived.Test.YtlebflphgeolfaaDoorQYLM
import Derived.Test.YtlebflphgeolfaaDoorDA
namespace Go.Proofs.YtlebflphgeolfaaDoor.Y
open Go.RowKit
open L (Str isName prt size_len below_2 below_box ret_bool ret_int eql_eq bytes_eq)
open A (Ex St Pm Pr V arity vE vEs absent exV exO exV_mk Bx okE okEs cE cEs PmsAt StrsAt PrIn OkP prV prO names valE ExsAt ExAt StsAt StAt Bodies RowK Own1 Stays okS okB cS cB preS preB preR preE walk VT vcs vs small)
open P (G Kd On off_of wp_region_G)

theorem nm_small {g : Env} {x : ByteArray} (t : Int) (h : ofE g (nmE x) = (t, 0)) : 1 + cE (nmE x) ≤ 1000000 := by
  have hv : vE (nmE x) 1 = 0 := by
    apply Decidable.byContradiction
    intro hn
    unfold ofE at h
    rw [if_pos hn] at h
    injection h with _ h2
    exact hn h2
  have h1 := (node_open (vE_open hv).1).2.2 rfl
  have h2 : x.size ≤ 16 := nam_size h1
  unfold nmE
  rw [cE, cEs]
  omega
set_option maxHeartbeats 32000000 in
set_option maxRecDepth 100000 in
theorem lawStatements_any (p : Pr) (a1 a2 : Option Addr) (c1 c2 : Nat) (hok : OkP p) (hc1 : p.params.length ≤ c1) (w : World) (ht : Tb w) (hK : PrIn w p a1 a2) :
    Calls Tryd.prog 10 #[prV p a1 c1 a2 c2] w fun e' w' => e' = .returned (.bool true) ∧ Below w.heap.size w w' := by
  have hb := below_box w (prO p a1 c1 a2 c2)
  have hbx := Bx.new w #[.string p.name, .slice a1 p.params.length c1, .slice a2 p.body.length c2] 35
  have HS := Lib.hid (A.rsmall_any p a1 c1 a2 c2 1600 (by omega) hok _ (hK.below hb))
  have HSF := Lib.hid (@small_fx p 1600)
  have HC : Hid (small p 1600 = true → ∀ w', Tb w' → PrIn w' p a1 a2 → Calls Tryd.prog 17 #[prV p a1 c1 a2 c2] w' fun e' w'' => e' = .returned (.int .i64 (chk p).2) ∧ Below w'.heap.size w' w'') := fun h w' t k => by
    obtain ⟨h1, h2, h3⟩ := small_fx h
    exact oCheck_any p a1 a2 c1 c2 hok (by omega) (by omega) h2 hc1 w' t k
  have HV : Hid (small p 1600 = true → ∀ w', Tb w' → PrIn w' p a1 a2 → Calls Tryd.prog 20 #[prV p a1 c1 a2 c2] w' (GivesV w' (chk p).1)) := fun h w' t k => by
    obtain ⟨h1, h2, h3⟩ := small_fx h
    exact oVars_any p a1 a2 c1 c2 hok (by omega) (by omega) h2 hc1 w' t k
  have HWl := Lib.hid (fun w' hk => A.rwalk_any p a1 a2 c1 c2 hok.body hok.bodyLen w' hk)
  have HRow : Hid ((chk p).2 = 0 → small p 1600 = true → ∀ (w5 wr : World) (B q : Nat) (p4 : Option Addr) (l : List VT), w5.ownsRow B 61 20 (.slice p4 l.length q) l.length (vcs l) → vs l = walk p →
    (∀ x ∈ l, x.In w5) → Below w5.heap.size w5 wr → ∀ (k : Nat), k < l.length → ∃ g3, p4 = some ⟨g3, 0, none⟩ ∧ ∃ s a5 c5 a6 c6 a7 c7 a8 c8, RowSt (look (chk p).1) w5 wr g3 k s a5 c5 a6 c6 a7 c7 a8 c8) := fun hz hs => by
    obtain ⟨h1, h2, h3⟩ := small_fx hs
    intro w5 wr B q p4 l h1 h2 h3 h4 k hk
    exact row_st ((chk_main p).2 hz) hok (by omega) h1 h2 h3 h4 hk
  have HVv : Hid ((chk p).2 = 0 → OkV (chk p).1 ∧ (chk p).1.length ≤ 406) := fun hz => chk_okV ((chk_main p).2 hz)
  have HW := Lib.hid works_any
  have HT := Lib.hid (ht.below hb)
  have HX := Lib.hid hbx
  have HK := Lib.hid (hK.below hb)
  have hworks : ∀ wk, Below (w.alloc (.cells #[.string p.name, .slice a1 p.params.length c1, .slice a2 p.body.length c2] 35)).heap.size (w.alloc (.cells #[.string p.name, .slice a1 p.params.length c1, .slice a2 p.body.length c2] 35)) wk → Calls Tryd.prog 13 #[] wk fun e' w' => e' = .returned (.bool true) ∧ Below w.heap.size w w' := fun wk hk =>
    (HW.out wk (HT.out.below hk)).mono fun e' w' h => ⟨h.1, below_2 hb (below_2 hk h.2)⟩
  have HWk := Lib.hid hworks
  have hln : (walk p).length ≤ 401 := by unfold walk; rw [List.length_take]; omega
  have HLN := Lib.hid hln
  unfold prV at HS HC HV HWl ⊢
  unfold prO at *
  clear hworks HW hb hbx hok hc1 ht hK hln
  generalize small p 1600 = sm at *
  generalize chk p = R at *
  obtain ⟨g0, z⟩ := R
  simp only at HC HV HRow HVv
  cases sm with
  | false =>
    go_enter Tryd.func10, Tryd.ntmps10
    go_wp2_with fail
    refine HS.out.mono ?_; rintro e' w2 ⟨rfl, hb2⟩
    have HB2 := Lib.hid hb2
    clear hb2
    go_wp2_with fail
    refine (HWk.out _ HB2.out).mono ?_; rintro e' w3 ⟨rfl, hb3⟩
    have HB3 := Lib.hid hb3
    clear hb3
    go_wp2_with fail
    go_ret
    exact ⟨rfl, HB3.out⟩
  | true =>
    go_enter Tryd.func10, Tryd.ntmps10
    go_wp2_with fail
    refine HS.out.mono ?_; rintro e' w2 ⟨rfl, hb2⟩
    have HB2 := Lib.hid hb2
    have x0 := (HX.out.below hb2).cell 0
    have x1 := (HX.out.below hb2).cell 1
    have x2 := (HX.out.below hb2).cell 2
    have HC2 := Lib.hid (HC.out (by trivial) _ (HT.out.below hb2) (HK.out.below hb2))
    clear hb2 HC HS
    go_wp2_with fail
    refine HC2.out.mono ?_; rintro e' w3 ⟨rfl, hb3⟩
    have HB3 := Lib.hid (below_2 HB2.out hb3)
    clear hb3 HC2 x0 x1 x2 HB2
    by_cases hz : z = 0
    case neg =>
      have bz : (z != 0) = true := bne_iff_ne.2 hz
      clear hz
      go_wp2_with fail
      refine (HWk.out _ HB3.out).mono ?_; rintro e' w4 ⟨rfl, hb4⟩
      have HB4 := Lib.hid hb4
      clear hb4
      go_wp2_with fail
      go_ret
      exact ⟨rfl, HB4.out⟩
    subst hz
    have HRw := Lib.hid (HRow.out (by trivial) (by trivial))
    obtain ⟨hov, hol⟩ := HVv.out (by trivial)
    have HOv := Lib.hid hov
    have HOl := Lib.hid hol
    have x0 := (HX.out.below HB3.out).cell 0
    have x1 := (HX.out.below HB3.out).cell 1
    have x2 := (HX.out.below HB3.out).cell 2
    have HV3 := Lib.hid (HV.out (by trivial) _ (HT.out.below HB3.out) (HK.out.below HB3.out))
    clear hov hol HRow HVv HV HSF
    go_wp2_with fail
    refine HV3.out.mono ?_; rintro e' w4 ⟨p3, q3, rfl, hq3, hp3, hb4⟩
    have HB4 := Lib.hid (below_2 HB3.out hb4)
    have HP4 := Lib.hid hp3
    clear hb4 hp3 hq3 HV3 x0 x1 x2 HB3
    have x0 := (HX.out.below HB4.out).cell 0
    have x1 := (HX.out.below HB4.out).cell 1
    have x2 := (HX.out.below HB4.out).cell 2
    have HW4 := Lib.hid (HWl.out _ (HK.out.below HB4.out).body)
    clear HWl
    go_wp2_with fail
    refine HW4.out.mono ?_; rintro e' w5 ⟨p4, q4, l', rfl, ho, hi, hvv, hb5⟩
    have HB5 := Lib.hid (below_2 HB4.out hb5)
    have HP5 := Lib.hid (HP4.out.below hb5)
    have HT5 := Lib.hid (HT.out.below HB5.out)
    have HOw := Lib.hid ho
    have HIn : Hid (∀ x ∈ l', x.In w5) := fun x hx => (hi x hx).below hb5
    have HVs := Lib.hid hvv
    have hl1 : l'.length ≤ 401 := by have := HLN.out; rw [← hvv] at this; simpa [vs] using this
    clear ho hi hvv hb5 HW4 HP4 HB4 x0 x1 x2 HT HK HX HLN
    have HRk : Hid (∀ {wr : World}, Below w5.heap.size w5 wr → ∀ {k : Nat}, k < l'.length → ∃ g3, p4 = some ⟨g3, 0, none⟩ ∧ ∃ s a5 c5 a6 c6 a7 c7 a8 c8, RowSt (look g0) w5 wr g3 k s a5 c5 a6 c6 a7 c7 a8 c8) := fun {wr} hbb {k} hk => HRw.out w5 wr _ q4 p4 l' HOw.out HVs.out HIn.out hbb k hk
    clear HRw HOw HVs HIn
    obtain ⟨ng, hng⟩ : ∃ n, g0.length = n := ⟨_, rfl⟩
    rw [hng]
    have HNG := Lib.hid hng
    clear hng
    go_wp2_with fail
    go_loopw [5] (fun s5 wr => ∃ k : Nat, k ≤ l'.length ∧ s5 = .int .i64 k ∧ Hid (Below w5.heap.size w5 wr)) (fun s5 _ => l'.length - (intOf s5).toNat)
    case atStart => exact ⟨0, Nat.zero_le _, rfl, Below.refl _ _⟩
    case round =>
      obtain ⟨k, hk, rfl, HBr⟩ := hrel
      by_cases hlt : k < l'.length
      · obtain ⟨g3, rfl, s, a5, c5, a6, c6, a7, c7, a8, c8, RS⟩ := HRk.out HBr.out hlt
        have e0 := RS.e0
        have e1 := RS.e1
        have e2 := RS.e2
        have e3 := RS.e3
        have e4 := RS.e4
        have e5 := RS.e5
        have e6 := RS.e6
        have e7 := RS.e7
        have e8 := RS.e8
        have e9 := RS.e9
        have e10 := RS.e10
        have e11 := RS.e11
        have e12 := RS.e12
        have HNm := Lib.hid (lname_any s.name)
        have TA : Hid (∀ (s' t' x : Int), ofE (look g0) s.a = (x, 0) → (x = s' ∨ x = t') → ∀ wk, Below w5.heap.size w5 wk → Calls Tryd.prog 30 #[.agg #[.int .i64 s.a.op, .int .i64 s.a.n, .string s.a.s, .slice a5 s.a.args.length c5], .slice p3 ng q3, .int .i64 s', .int .i64 t'] wk fun e' w' => e' = .returned (.bool true) ∧ Below wk.heap.size wk w') := fun s' t' x h1 h2 wk hk => by
          have := typed_any s.a a5 c5 g0 p3 q3 RS.oa.1 RS.oa.2 HOv.out s' t' x h1 h2 wk (HT5.out.below hk) (RS.ka.below hk) (HP5.out.below hk)
          rw [HNG.out] at this
          exact this
        have TB : Hid (∀ (s' t' x : Int), ofE (look g0) s.b = (x, 0) → (x = s' ∨ x = t') → ∀ wk, Below w5.heap.size w5 wk → Calls Tryd.prog 30 #[.agg #[.int .i64 s.b.op, .int .i64 s.b.n, .string s.b.s, .slice a6 s.b.args.length c6], .slice p3 ng q3, .int .i64 s', .int .i64 t'] wk fun e' w' => e' = .returned (.bool true) ∧ Below wk.heap.size wk w') := fun s' t' x h1 h2 wk hk => by
          have := typed_any s.b a6 c6 g0 p3 q3 RS.ob.1 RS.ob.2 HOv.out s' t' x h1 h2 wk (HT5.out.below hk) (RS.kb.below hk) (HP5.out.below hk)
          rw [HNG.out] at this
          exact this
        have hokn : okE (nmE s.name) := okE_lf 3 0 s.name (by decide) (by decide) RS.nz
        have hszn : 1 + cE (nmE s.name) ≤ 1000000 → True := fun _ => trivial
        have TN : Hid (∀ (s' t' x : Int), 1 + cE (nmE s.name) ≤ 1000000 → ofE (look g0) (nmE s.name) = (x, 0) → (x = s' ∨ x = t') → ∀ wk, Below w5.heap.size w5 wk → Calls Tryd.prog 30 #[.agg #[.int .i64 3, .int .i64 0, .string s.name, .slice none 0 0], .slice p3 ng q3, .int .i64 s', .int .i64 t'] wk fun e' w' => e' = .returned (.bool true) ∧ Below wk.heap.size wk w') := fun s' t' x h0 h1 h2 wk hk => by
          have := typed_any (nmE s.name) none 0 g0 p3 q3 hokn h0 HOv.out s' t' x h1 h2 wk (HT5.out.below hk) (Or.inl rfl) (HP5.out.below hk)
          rw [HNG.out] at this
          exact this
        have ON : Hid (∀ (x : Int), 1 + cE (nmE s.name) ≤ 1000000 → ofE (look g0) (nmE s.name) = (x, 0) → ∀ wk, Below w5.heap.size w5 wk → Calls Tryd.prog 14 #[.agg #[.int .i64 3, .int .i64 0, .string s.name, .slice none 0 0], .slice p3 ng q3] wk fun e' w' => e' = .returned (.tuple #[.int .i64 x, .int .i64 0]) ∧ Below wk.heap.size wk w') := fun x h0 h1 wk hk => by
          have := oOf_any (nmE s.name) none 0 g0 p3 q3 hokn h0 HOv.out wk (HT5.out.below hk) (Or.inl rfl) (HP5.out.below hk)
          rw [HNG.out, h1] at this
          exact this
        have l1 := Lib.hid RS.lw.set
        have l3 := Lib.hid RS.lw.put
        have l4 := Lib.hid RS.lw.del
        have l5 := Lib.hid RS.lw.cond
        have l6 := Lib.hid RS.lw.loop
        have l7 := Lib.hid RS.lw.emit
        have NZ := Lib.hid (nm_small (g := look g0) (x := s.name))
        clear RS hokn hszn
        generalize s.op = o at *
        have hbz := below_box wr (.cells #[.int .i64 o, .string s.name, .int .i64 s.mx, .int .i64 s.a.op, .int .i64 s.a.n, .string s.a.s, .slice a5 s.a.args.length c5, .int .i64 s.b.op, .int .i64 s.b.n, .string s.b.s, .slice a6 s.b.args.length c6, .slice a7 s.body.length c7, .slice a8 s.els.length c8] 59)
        have HXz := Lib.hid (Bx.new wr #[.int .i64 o, .string s.name, .int .i64 s.mx, .int .i64 s.a.op, .int .i64 s.a.n, .string s.a.s, .slice a5 s.a.args.length c5, .int .i64 s.b.op, .int .i64 s.b.n, .string s.b.s, .slice a6 s.b.args.length c6, .slice a7 s.body.length c7, .slice a8 s.els.length c8] 59)
        have HBz := Lib.hid (below_2 HBr.out hbz)
        clear hbz
        by_cases h1 : o = 1
        · subst h1
          obtain ⟨t, t1, t2, hn, ha⟩ := l1.out (Or.inl rfl)
          have C1 := Lib.hid (ON.out t (NZ.out t hn) hn)
          have C2 := Lib.hid (TA.out t t t ha (Or.inl rfl))
          clear hn ha t1 t2 l1 l3 l4 l5 l6 l7
          go_wp2_with fail
          refine (HNm.out _).mono ?_; rintro e' w6 ⟨rfl, hb⟩
          have HBw6 := Lib.hid (below_2 HBz.out hb)
          have HXw6 := Lib.hid (HXz.out.below hb)
          clear hb
          go_wp2_with fail
          refine (C1.out _ HBw6.out).mono ?_; rintro e' w7 ⟨rfl, hb⟩
          have HBw7 := Lib.hid (below_2 HBw6.out hb)
          have HXw7 := Lib.hid (HXw6.out.below hb)
          clear hb
          have yw73 := HXw7.out.cell 3
          have yw74 := HXw7.out.cell 4
          have yw75 := HXw7.out.cell 5
          have yw76 := HXw7.out.cell 6
          go_wp2_with fail
          refine (C2.out _ HBw7.out).mono ?_; rintro e' w8 ⟨rfl, hb⟩
          have HBw8 := Lib.hid (below_2 HBw7.out hb)
          have HXw8 := Lib.hid (HXw7.out.below hb)
          clear hb
          go_wp2_with fail
          go_roundw
          case rel => exact ⟨k + 1, by omega, by go_num, HBw8.out⟩
          case measure => simp [intOf]; omega
        by_cases h2 : o = 2
        · subst h2
          obtain ⟨t, t1, t2, hn, ha⟩ := l1.out (Or.inr rfl)
          have C1 := Lib.hid (ON.out t (NZ.out t hn) hn)
          have C2 := Lib.hid (TA.out t t t ha (Or.inl rfl))
          clear hn ha t1 t2 l1 l3 l4 l5 l6 l7
          go_wp2_with fail
          refine (HNm.out _).mono ?_; rintro e' w6 ⟨rfl, hb⟩
          have HBw6 := Lib.hid (below_2 HBz.out hb)
          have HXw6 := Lib.hid (HXz.out.below hb)
          clear hb
          go_wp2_with fail
          refine (C1.out _ HBw6.out).mono ?_; rintro e' w7 ⟨rfl, hb⟩
          have HBw7 := Lib.hid (below_2 HBw6.out hb)
          have HXw7 := Lib.hid (HXw6.out.below hb)
          clear hb
          have yw73 := HXw7.out.cell 3
          have yw74 := HXw7.out.cell 4
          have yw75 := HXw7.out.cell 5
          have yw76 := HXw7.out.cell 6
          go_wp2_with fail
          refine (C2.out _ HBw7.out).mono ?_; rintro e' w8 ⟨rfl, hb⟩
          have HBw8 := Lib.hid (below_2 HBw7.out hb)
          have HXw8 := Lib.hid (HXw7.out.below hb)
          clear hb
          go_wp2_with fail
          go_roundw
          case rel => exact ⟨k + 1, by omega, by go_num, HBw8.out⟩
          case measure => simp [intOf]; omega
        by_cases h3 : o = 3
        · subst h3
          obtain ⟨ha, x, hb', hx⟩ := l3.out (by trivial)
          have C1 := Lib.hid (TA.out 2 2 2 ha (Or.inl rfl))
          have C2 := Lib.hid (TB.out 1 2 x hb' hx)
          clear ha hb' hx l1 l3 l4 l5 l6 l7
          go_wp2_with fail
          refine (C1.out _ HBz.out).mono ?_; rintro e' w6 ⟨rfl, hb⟩
          have HBw6 := Lib.hid (below_2 HBz.out hb)
          have HXw6 := Lib.hid (HXz.out.below hb)
          clear hb
          have yw67 := HXw6.out.cell 7
          have yw68 := HXw6.out.cell 8
          have yw69 := HXw6.out.cell 9
          have yw610 := HXw6.out.cell 10
          go_wp2_with fail
          refine (C2.out _ HBw6.out).mono ?_; rintro e' w7 ⟨rfl, hb⟩
          have HBw7 := Lib.hid (below_2 HBw6.out hb)
          have HXw7 := Lib.hid (HXw6.out.below hb)
          clear hb
          go_wp2_with fail
          go_roundw
          case rel => exact ⟨k + 1, by omega, by go_num, HBw7.out⟩
          case measure => simp [intOf]; omega
        by_cases h4 : o = 4
        · subst h4
          have C1 := Lib.hid (TA.out 2 2 2 (l4.out (by trivial)) (Or.inl rfl))
          clear l1 l3 l4 l5 l6 l7
          go_wp2_with fail
          refine (C1.out _ HBz.out).mono ?_; rintro e' w6 ⟨rfl, hb⟩
          have HBw6 := Lib.hid (below_2 HBz.out hb)
          have HXw6 := Lib.hid (HXz.out.below hb)
          clear hb
          go_wp2_with fail
          go_roundw
          case rel => exact ⟨k + 1, by omega, by go_num, HBw6.out⟩
          case measure => simp [intOf]; omega
        by_cases h5 : o = 5
        · subst h5
          have C1 := Lib.hid (TA.out 3 3 3 (l5.out (by trivial)) (Or.inl rfl))
          clear l1 l3 l4 l5 l6 l7
          go_wp2_with fail
          refine (C1.out _ HBz.out).mono ?_; rintro e' w6 ⟨rfl, hb⟩
          have HBw6 := Lib.hid (below_2 HBz.out hb)
          have HXw6 := Lib.hid (HXz.out.below hb)
          clear hb
          go_wp2_with fail
          go_roundw
          case rel => exact ⟨k + 1, by omega, by go_num, HBw6.out⟩
          case measure => simp [intOf]; omega
        by_cases h6 : o = 6
        · subst h6
          obtain ⟨ha, hb', hn⟩ := l6.out (by trivial)
          have C1 := Lib.hid (TA.out 1 1 1 ha (Or.inl rfl))
          have C2 := Lib.hid (TB.out 1 1 1 hb' (Or.inl rfl))
          have C3 := Lib.hid (TN.out 1 1 1 (NZ.out 1 hn) hn (Or.inl rfl))
          clear ha hb' hn l1 l3 l4 l5 l6 l7
          go_wp2_with fail
          refine (C1.out _ HBz.out).mono ?_; rintro e' w6 ⟨rfl, hb⟩
          have HBw6 := Lib.hid (below_2 HBz.out hb)
          have HXw6 := Lib.hid (HXz.out.below hb)
          clear hb
          have yw67 := HXw6.out.cell 7
          have yw68 := HXw6.out.cell 8
          have yw69 := HXw6.out.cell 9
          have yw610 := HXw6.out.cell 10
          go_wp2_with fail
          refine (C2.out _ HBw6.out).mono ?_; rintro e' w7 ⟨rfl, hb⟩
          have HBw7 := Lib.hid (below_2 HBw6.out hb)
          have HXw7 := Lib.hid (HXw6.out.below hb)
          clear hb
          have yw71 := HXw7.out.cell 1
          go_wp2_with fail
          refine (HNm.out _).mono ?_; rintro e' w8 ⟨rfl, hb⟩
          have HBw8 := Lib.hid (below_2 HBw7.out hb)
          have HXw8 := Lib.hid (HXw7.out.below hb)
          clear hb
          go_wp2_with fail
          refine (C3.out _ HBw8.out).mono ?_; rintro e' w9 ⟨rfl, hb⟩
          have HBw9 := Lib.hid (below_2 HBw8.out hb)
          have HXw9 := Lib.hid (HXw8.out.below hb)
          clear hb
          go_wp2_with fail
          go_roundw
          case rel => exact ⟨k + 1, by omega, by go_num, HBw9.out⟩
          case measure => simp [intOf]; omega
        by_cases h7 : o = 7
        · subst h7
          obtain ⟨x, ha, hx⟩ := l7.out (by trivial)
          have C1 := Lib.hid (TA.out 1 2 x ha hx)
          clear ha hx l1 l3 l4 l5 l6 l7
          go_wp2_with fail
          refine (C1.out _ HBz.out).mono ?_; rintro e' w6 ⟨rfl, hb⟩
          have HBw6 := Lib.hid (below_2 HBz.out hb)
          have HXw6 := Lib.hid (HXz.out.below hb)
          clear hb
          go_wp2_with fail
          go_roundw
          case rel => exact ⟨k + 1, by omega, by go_num, HBw6.out⟩
          case measure => simp [intOf]; omega
        · have b1 : (o == 1) = false := beq_eq_false_iff_ne.2 h1
          have b2 : (o == 2) = false := beq_eq_false_iff_ne.2 h2
          have b3 : (o == 3) = false := beq_eq_false_iff_ne.2 h3
          have b4 : (o == 4) = false := beq_eq_false_iff_ne.2 h4
          have b5 : (o == 5) = false := beq_eq_false_iff_ne.2 h5
          have b6 : (o == 6) = false := beq_eq_false_iff_ne.2 h6
          have b7 : (o == 7) = false := beq_eq_false_iff_ne.2 h7
          clear l1 l3 l4 l5 l6 l7 h1 h2 h3 h4 h5 h6 h7
          go_wp2_with fail
          go_roundw
          case rel => exact ⟨k + 1, by omega, by go_num, HBz.out⟩
          case measure => simp [intOf]; omega
      · have HBB := Lib.hid (below_2 HB5.out HBr.out)
        go_wp2_with fail
        refine (HWk.out _ HBB.out).mono ?_; rintro e' w11 ⟨rfl, hb11⟩
        have HB11 := Lib.hid hb11
        clear hb11
        go_wp2_with fail
        go_ret
        exact ⟨rfl, HB11.out⟩
end Go.Proofs.YtlebflphgeolfaaDoor.Y
