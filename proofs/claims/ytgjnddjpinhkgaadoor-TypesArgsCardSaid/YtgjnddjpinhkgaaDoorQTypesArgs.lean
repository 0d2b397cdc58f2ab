/-
  For every input TypesArgs returns true and leaves its arguments as they were.
  Conditions: the tables that the row lists hold what their own initialisers lay when the call begins; the card ties that to the program's text, in a pruned copy of the project. No condition on the arguments.
-/
import Derived.Test.YtgjnddjpinhkgaaDoorQYCBase
import Derived.Test.YtgjnddjpinhkgaaDoorTD
import Derived.ChangeMaps5
namespace Go.Proofs.YtgjnddjpinhkgaaDoor.Y
open Go.ChangeShapes Go.WideShapes Go.ChangeAt Go.WideMaps Go.WideElems Go.RowKit Go.Joins
open L (size_len)
open A (RB two spot_none cellsStr cellsInt)
section
variable {H : Type} {enc : TypeId × Value → H} {w : World} {base b0 : Nat} {spare : Nat → Bool} {held : Bool}
theorem cellsVl : Tryd.prog.cellsOf 35 = 3 := by kernel_rfl
theorem cellsI64 : Tryd.prog.cellsOf 2 = 1 := by kernel_rfl
theorem three {α : Type} {l : List α} (h : l.length = 3) : ∃ a b c, l = [a, b, c] := by
  cases l with
  | nil => cases h
  | cons a r =>
    obtain ⟨b, c, rfl⟩ := two (cs := r) (by simpa using h)
    exact ⟨a, b, c, rfl⟩
set_option maxRecDepth 10000 in
theorem vlt_of {n : Nat} : ∀ (elems : List (DataW H × List MemPlace)) (b i : Nat),
    (∀ j, j < elems.length → (w.cells? base ⟨b, i + j * 3, none⟩ 3).bind (DataW.trod enc Tryd.prog w base spare held n 35) = elems[j]?) →
    ∃ l : List Vl, l.length = elems.length ∧ (∀ j (h : j < l.length), w.cell? ⟨b, i + j * 3, none⟩ = some (.int .i64 l[j].kind) ∧ w.cell? ⟨b, i + j * 3 + 1, none⟩ = some (.int .i64 l[j].n) ∧ w.cell? ⟨b, i + j * 3 + 2, none⟩ = some (.string l[j].s))
  | [], _, _, _ => ⟨[], rfl, (fun j h => by cases h)⟩
  | y :: r, b, i, h => by
    have h0 := h 0 (by simp)
    rw [List.getElem?_cons_zero, Option.bind_eq_some_iff] at h0
    obtain ⟨cs, hcs, hy⟩ := h0
    obtain ⟨_, hl2, hc⟩ := World.cells?_some hcs
    obtain ⟨xs, m, hm, hx, hl, hlen, hf⟩ := DataW.trod_struct Tryd.underlying35 hy
    obtain ⟨c0, c1, c2, rfl⟩ := three hl2
    obtain ⟨x0, x1, x2, rfl⟩ := three (α := DataW H × List MemPlace) (hlen.trans rfl)
    have f0 := hf 0 _ rfl
    have f1 := hf 1 _ rfl
    have f2 := hf 2 _ rfl
    obtain ⟨kd, e0, e0', w0⟩ := DataW.trod_int Tryd.underlying3 f0
    obtain ⟨nn, e1, e1', w1⟩ := DataW.trod_int Tryd.underlying2 f1
    obtain ⟨s, e2, e2', w2⟩ := DataW.trod_string Tryd.underlying9 f2
    simp [cellsStr, cellsInt, cellsI64] at e0 e1 e2
    subst e0 e1 e2 e0' e1' e2'
    rw [Nat.zero_mul, Nat.add_zero] at hc
    obtain ⟨l, hll, hat⟩ := vlt_of r b (i + 3) (fun j hj => by
      have := h (j + 1) (by simpa using hj)
      rw [List.getElem?_cons_succ] at this
      rw [show i + 3 + j * 3 = i + (j + 1) * 3 by omega]
      exact this)
    refine ⟨⟨kd, nn, s⟩ :: l, by simp [hll], fun j hj => ?_⟩
    cases j with
    | zero =>
      have k0 := hc 0 (by decide)
      have k1 := hc 1 (by decide)
      have k2 := hc 2 (by decide)
      rw [add_plain] at k0 k1 k2
      exact ⟨by simpa using k0, by simpa using k1, by simpa using k2⟩
    | succ j =>
      have := hat j (by simpa using hj)
      rw [show i + (j + 1) * 3 = i + 3 + j * 3 by omega]
      simpa using this
set_option maxRecDepth 100000 in
/-- a list of values as an argument -/
theorem open_vls {v : Value} {d : DataW H} {p : List MemPlace} (hv : Value.okWide Tryd.prog w .any b0 33 v) (h : DataW.Trod enc Tryd.prog w base spare held 33 v d p) :
    ∃ (l : List Vl) (a : Option Addr) (c : Nat), v = .slice a l.length c ∧ ValsAt w a l := by
  obtain ⟨a0, len, cap, rfl⟩ := okWide_slice Tryd.underlying33 hv
  obtain ⟨fuel, hf⟩ := h
  rcases DataW.trod_slice Tryd.underlying33 hf with ⟨hcs, hx⟩ | ⟨a, len', cap', elems, rest, n, _, hcs, hx, hb, hl, hm, hlen, hel, _, _⟩
  · simp [Value.cells] at hcs
    obtain ⟨rfl, rfl, rfl⟩ := hcs
    exact ⟨[], none, 0, rfl, Or.inl rfl⟩
  · simp [Value.cells] at hcs
    obtain ⟨rfl, rfl, rfl⟩ := hcs
    rw [cellsVl] at hel
    subst hlen
    by_cases h0 : elems.length = 0
    · exact ⟨[], some a, cap, by rw [h0]; rfl, Or.inl rfl⟩
    · have hsp : a.spot = none := by
        have := hel 0 (by omega)
        rw [List.getElem?_eq_getElem (by omega)] at this
        exact spot_none (by decide) this
      obtain ⟨b, i, spot⟩ := a
      simp only at hsp
      subst hsp
      obtain ⟨l, hll, hat⟩ := vlt_of elems b i (fun j hj => by
        have := hel j hj
        rw [add_plain] at this
        exact this)
      exact ⟨l, some ⟨b, i, none⟩, cap, by rw [hll], Or.inr ⟨b, i, rfl, hat⟩⟩
end
end Go.Proofs.YtgjnddjpinhkgaaDoor.Y
namespace Go.Proofs.YtgjnddjpinhkgaaDoor
open Go.ChangeShapes Go.WideShapes Go.ChangeAt Go.WideMaps Go.WideElems Go.RowKit
open Go.ChangeMaps (open_string shut_string)

set_option maxHeartbeats 1000000 in
set_option maxRecDepth 100000 in
theorem typesArgs_lifted (os : Os) (started : os.Started) (H : Type) (enc : TypeId × Value → H) :
    ReturnsInHanded {} Tryd.checked os 5 .any (fun w args => (Rows.typesArgsSpec.pre enc Tryd.prog Tryd.f5 [] false w args ∧ laidMetH Tryd.prog laid1 w) ∧ sizedMet enc Tryd.prog Tryd.f5 (OpenSpec.ofChange Rows.typesArgsSpec) false w args)
      (Rows.typesArgsSpec.post enc Tryd.prog Tryd.f5 false true false false) := by
  refine returnsInHanded_of_change_and (C := Tryd.checked) (X := fun w _ => laidMetH Tryd.prog laid1 w) (fun _ _ _ hh h => h.of_heap hh) own started (by kernel_rfl) Tryd.func5
    (ChangeSpec.witness_shaped (enc := enc) (C := Tryd.checked) (os := os) (X := fun w _ => laidMetH Tryd.prog laid1 w) false (World.laidAll Tryd.prog os laid1) #[.agg #[.string ⟨#[]⟩, .slice none 0 0, .slice none 0 0], .slice none 0 0] 8 (World.laidAll_os _ _ _) (shape1 os) (by kernel_rfl) (by kernel_rfl) (by kernel_rfl) (met1 os _)) ?_
  intro W base args ds gs before hval0 hW _ hsz0 hL _
  have hval : ∀ (j : Nat) t v, Tryd.f5.params[j]? = some t → args[j]? = some v → Value.okWide Tryd.prog W .any base t v := hval0
  have hW' := hW
  obtain ⟨p, q, hA0, hV, rfl, hfz, hnd⟩ := hW
  have hA : DataW.TrodAll enc Tryd.prog W 0 (fun _ => true) true Tryd.f5.params.toList args.toList ds p := hA0
  have hsz : (DataW.weightsEach Tryd.prog (Tryd.f5.params.toList ++ Rows.typesArgsSpec.plain.varTypes Tryd.prog) (ds ++ gs)).all (· ≤ reachBytes) = true := hsz0
  rw [Tryd.params5] at hA hval hsz
  obtain ⟨v0, vs0, d0, ds0, p0, q0, hargs, rfl, rfl, h0, r0⟩ := trodAll_cons hA
  obtain ⟨v1, vs1, d1, ds1, p1, q1, rfl, rfl, rfl, h1, r1⟩ := trodAll_cons r0
  obtain ⟨rfl, rfl, rfl⟩ := trodAll_nil r1
  obtain rfl : args = #[v0, v1] := by cases args; simp_all
  obtain ⟨rfl, rfl⟩ := trodVars_none hV
  obtain ⟨x0, a0, c0, b0, e0, rfl, s0, l0, y0⟩ := A.open_pr (hval 0 25 v0 rfl rfl) h0
  obtain ⟨x1, a1, c1, rfl, s1⟩ := Y.open_vls (hval 1 33 v1 rfl rfl) h1
  clear hA0 hval0
  simp only [List.append_nil] at hW'
  have ht := tab_of_1 hL
  have f0 := y0 (A.rb_each hsz (j := 0) rfl rfl)
  refine (Y.lawArgs_any x0 a0 b0 c0 e0 f0 l0 x1 a1 c1 W ht s0 s1).mono fun e W' ⟨he, hg⟩ => ?_
  subst he
  have k0 := Below.trod A.laid_out (by kernel_rfl) (of_decide_eq_true (by kernel_rfl)) h0 hg fun x hx => by have := hW'.lt x (by simp [hx]); simpa using this
  have k1 := Below.trod A.laid_out (by kernel_rfl) (of_decide_eq_true (by kernel_rfl)) h1 hg fun x hx => by have := hW'.lt x (by simp [hx]); simpa using this
  exact ⟨_, rfl, _, _, _, [], (p0 ++ (p1 ++ [])), [], hW', trodAll_cons_mk (shut_bool Tryd.underlying4 _) trodAll_mk0, (trodAll_cons_mk k0 (trodAll_cons_mk k1 trodAll_mk0)), rfl, hg.frame _, fun h => by cases h⟩

theorem typesArgs_row_holds : Rows.TypesArgsSaid :=
  OpenClaim.holds_of_wide 5 Tryd.f5 rfl rfl rfl rfl rfl rfl rfl ⟨rfl, rfl, rfl, rfl, rfl⟩ rfl rfl rfl rfl rfl (by kernel_rfl) Tryd.func5 (by kernel_rfl)
    (of_decide_eq_true (by kernel_rfl)) (by unfold Func.isWrapper; first | (rw [if_pos (by decide +kernel)]; kernel_rfl) | (rw [if_neg (by decide +kernel)]; exact ⟨rfl, rfl⟩))
    (fun os started H enc _ => typesArgs_lifted os started H enc)

theorem typesArgs_card_holds : Rows.TypesArgsCardSaid :=
  Claim7.holds_tied_plain_at .later [] [.wider] true (true, "855a0dc166761a3afe27e2ebecf49aa1f65692bb26ec771e490d2c03be9a0f64") false
    typesArgs_row_holds (fun _ h => by cases h) (by kernel_rfl) (fun _ h => by cases h) typesArgs_row_tie rfl ⟨rfl, rfl⟩ (by kernel_rfl) rfl
    (fun f fn hf hfn => by
      obtain rfl : f = 5 := Option.some.inj ((show Tryd.prog.funcNamed "clockwork/clockworklaw11.TypesArgs" = some 5 by kernel_rfl).symm.trans hf) |>.symm
      obtain rfl : fn = Tryd.f5 := (Option.some.inj (Tryd.func5.symm.trans hfn)).symm
      exact ⟨by kernel_rfl, fun j t ht => by
        rw [Tryd.params5] at ht
        have hm : t ∈ [25, 33] := by simpa using Array.mem_of_getElem? ht
        have hall : ([25, 33].all fun u => !Tryd.prog.wantsStandIn u) = true := by kernel_rfl
        exact (show Tryd.prog.wantsStandIn t = false by simpa using List.all_eq_true.1 hall t hm)⟩)
    (by kernel_rfl)
#print axioms typesArgs_card_holds
end Go.Proofs.YtgjnddjpinhkgaaDoor
