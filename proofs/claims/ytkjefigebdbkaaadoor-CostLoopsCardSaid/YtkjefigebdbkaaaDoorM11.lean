/-
  What the reach gives of the walk's expressions.
  What the program's function copiedProc of layer 8 returns: its contract.
  What the program's function Rename of layer 8 returns: its contract.
-/
import Derived.Test.YtkjefigebdbkaaaDoorM03
import Derived.Test.YtkjefigebdbkaaaDoorM08
import Derived.Test.YtkjefigebdbkaaaDoorM09
import Derived.Deep.RegionHeld3
namespace Go.Proofs.YtkjefigebdbkaaaDoor.A
open L (Str isName prt size_len)

/-- what the reach gives of a node that is an expression -/
def VE (n : Nat) : V → Prop
  | .st _ _ => True
  | .ex e _ => okE e ∧ cE e ≤ n
mutual
theorem preE_ve (n : Nat) : ∀ (e : Ex) (r : Bool), okE e → cE e ≤ n → ∀ v ∈ preE e r, VE n v
  | .mk o m s l, r, hok, hc, v, h => by
    rw [preE] at h
    rcases List.mem_cons.1 h with rfl | h
    · exact ⟨hok, hc⟩
    · rw [okE] at hok
      rw [cE] at hc
      exact preEs_ve n l hok.2.2.2.2 (by omega) v h
theorem preEs_ve (n : Nat) : ∀ (l : List Ex), okEs l → cEs l ≤ n → ∀ v ∈ preEs l, VE n v
  | [], _, _, v, h => by rw [preEs] at h; cases h
  | e :: r, hok, hc, v, h => by
    rw [okEs] at hok
    rw [cEs] at hc
    rw [preEs] at h
    rcases List.mem_append.1 h with h | h
    · exact preE_ve n e false hok.1 (by omega) v h
    · exact preEs_ve n r hok.2 (by omega) v h
end
theorem preR_ve (n : Nat) (e : Ex) (hok : okE e) (hc : cE e ≤ n) : ∀ v ∈ preR e, VE n v := by
  intro v h
  unfold preR at h
  split at h
  · cases h
  · exact preE_ve n e true hok hc v h
mutual
theorem preS_ve (n : Nat) : ∀ (s : St) (d : Nat), okS s → cS s ≤ n → ∀ v ∈ preS s d, VE n v
  | .mk o nm mx a b bd el, d, hok, hc, v, h => by
    rw [okS] at hok
    obtain ⟨_, _, _, h1, h2, _, h3, _, h4⟩ := hok
    rw [cS] at hc
    rw [preS] at h
    rcases List.mem_cons.1 h with rfl | h
    · trivial
    rcases List.mem_append.1 h with h | h
    · rcases List.mem_append.1 h with h | h
      · rcases List.mem_append.1 h with h | h
        · exact preR_ve n a h1 (by omega) v h
        · exact preR_ve n b h2 (by omega) v h
      · exact preB_ve n bd (d + 1) h3 (by omega) v h
    · exact preB_ve n el (d + 1) h4 (by omega) v h
theorem preB_ve (n : Nat) : ∀ (l : List St) (d : Nat), okB l → cB l ≤ n → ∀ v ∈ preB l d, VE n v
  | [], d, _, _, v, h => by rw [preB] at h; cases h
  | s :: r, d, hok, hc, v, h => by
    rw [okB] at hok
    rw [cB] at hc
    rw [preB] at h
    rcases List.mem_append.1 h with h | h
    · exact preS_ve n s d hok.1 (by omega) v h
    · exact preB_ve n r d hok.2 (by omega) v h
end
theorem exprs_ve {p : Pr} (hok : okB p.body) : ∀ e ∈ exprs p, okE e ∧ cE e ≤ cB p.body := fun e h => by
  unfold exprs at h
  obtain ⟨v, hv, he⟩ := List.mem_filterMap.1 h
  have hve := preB_ve (cB p.body) p.body 1 hok (Nat.le_refl _) v (List.mem_of_mem_take (by unfold walk at hv; exact hv))
  cases v with
  | st s d => cases he
  | ex x r =>
    cases r
    · cases he
    · injection he with he; subst he; exact hve
end Go.Proofs.YtkjefigebdbkaaaDoor.A
namespace Go.Proofs.YtkjefigebdbkaaaDoor.A
open Go.RowKit
open L (Str isName prt size_len below_2 below_box ret_bool ret_int eql_eq bytes_eq)

theorem info_p : (Tryd.prog.info? 51).map (fun i => (i.zero, i.size, i.bytes)) = some (some (.agg #[.string ⟨#[]⟩, .int .i64 0]), 2, 24) := by kernel_rfl
def kP : RowK Pm where
  f := fun x => [.string x.name, .int .i64 x.ty]
  size := 2
  bytes := 24
  t := 22
  e := 51
  z := .agg #[.string ⟨#[]⟩, .int .i64 0]
  inn := fun _ _ _ => True
  und := Tryd.underlying22
  info := info_p
  len := fun _ => rfl
  one := fun x u hu => by simp at hu; rcases hu with rfl | rfl <;> rfl
  pos := by decide
  zs := rfl
  small := by decide
  next := fun _ _ => trivial
theorem PmsAt.sub {w w' : World} (h : Sub w w') {a : Option Addr} {l : List Pm} (hk : PmsAt w a l) : PmsAt w' a l := by
  rcases hk with hk | ⟨b, i, ha, hk⟩
  · exact Or.inl hk
  · exact Or.inr ⟨b, i, ha, fun j hj => ⟨h _ _ _ (hk j hj).1, h _ _ _ (hk j hj).2⟩⟩
theorem PrIn.sub {w w' : World} (h : Sub w w') {p : Pr} {a1 a2 : Option Addr} (hk : PrIn w p a1 a2) : PrIn w' p a1 a2 := ⟨PmsAt.sub h hk.params, Bodies.sub h hk.body⟩
/-- a procedure in memory, in blocks that Z leaves out -/
def PrF (Z : Nat → Prop) (w : World) (p : Pr) (a1 a2 : Option Addr) : Prop := PrIn (hollow Z w) p a1 a2
theorem PrF.now {Z : Nat → Prop} {w : World} {p : Pr} {a1 a2 : Option Addr} (h : PrF Z w p a1 a2) : PrIn w p a1 a2 := PrIn.sub (hollow_now Z w) h
theorem PrF.next {Z Z' : Nat → Prop} {w w' : World} {p : Pr} {a1 a2 : Option Addr} (h : PrF Z w p a1 a2) (hs : Stays Z Z' w w') : PrF Z' w' p a1 a2 := PrIn.sub (hollow_next hs) h
theorem Own1.pms {w : World} {b0 : Nat} {Z : Nat → Prop} {p : Option Addr} {q : Nat} {l : List Pm} (h : Own1 kP w b0 Z (.slice p l.length q) l) : PmsAt (hollow Z w) p l := by
  by_cases h0 : l = []
  · exact Or.inl h0
  · obtain ⟨g, rfl, hz, _⟩ := h.cell (List.length_pos_iff.2 h0)
    refine Or.inr ⟨g, 0, rfl, fun j hj => ?_⟩
    obtain ⟨g2, hg, _, hc⟩ := h.cell hj
    cases hg
    have c0 := hc 0 (by decide)
    have c1 := hc 1 (by decide)
    rw [show j * kP.size + 0 = 0 + j * 2 by show j * 2 + 0 = _; omega] at c0
    rw [show j * kP.size + 1 = 0 + j * 2 + 1 by show j * 2 + 1 = _; omega] at c1
    exact ⟨(hollow_cell Z w _ _ _).2 ⟨hz, c0⟩, (hollow_cell Z w _ _ _).2 ⟨hz, c1⟩⟩
def renP (f t : ByteArray) (q : Pm) : Pm := ⟨swap f t q.name, q.ty⟩
theorem pms_take (f t : ByteArray) {l : List Pm} {k : Nat} (h : k < l.length) : (l.take (k + 1)).map (renP f t) = (l.take k).map (renP f t) ++ [renP f t l[k]] := by
  rw [List.take_succ_eq_append_getElem h, List.map_append]; rfl
/-- a procedure that a call made -/
def GivesP (w : World) (x : Pr) (e' : Ending) (w' : World) : Prop := ∃ p1 q1 p2 q2, e' = .returned (prV x p1 q1 p2 q2) ∧ PrF (fun k => k < w.heap.size) w' x p1 p2 ∧ x.params.length ≤ q1 ∧ Below w.heap.size w w'
set_option maxHeartbeats 16000000 in
set_option maxRecDepth 100000 in
theorem ocopiedProc_any {w0 : World} {f t : ByteArray} {r1 r2 : Addr} (H : NamR r1 r2 w0 f t) (p : Pr) (a1 a2 : Option Addr) (c1 c2 : Nat) (hok : OkP p) (hnm : p.name.size ≤ 281474976710656) (hsz : cB p.body ≤ 1000000) (hpl : p.params.length ≤ 1000) (hps : ∀ j (h : j < p.params.length), p.params[j].name.size ≤ 281474976710656) (w : World) (hK : PrIn w p a1 a2) (hb0 : Below w0.heap.size w0 w) :
    Calls Tryd.prog 43 #[prV p a1 c1 a2 c2, .func (Fn.func 41) #[] #[.pointer (some r1), .pointer (some r2)]] w fun e' w' => GivesP w (ren f t p) e' w' := by
  have hzz := hb0.size
  have hw2 := below_2 (below_box w (prO p a1 c1 a2 c2)) (below_box (w.alloc (prO p a1 c1 a2 c2)) (.cells #[.string ⟨#[]⟩, .slice none 0 0, .slice none 0 0] 25))
  have hx2 := (Bx.new w #[.string p.name, .slice a1 p.params.length c1, .slice a2 p.body.length c2] 25).below (below_box _ (.cells #[.string ⟨#[]⟩, .slice none 0 0, .slice none 0 0] 25))
  have hx4 := Bx.new (w.alloc (prO p a1 c1 a2 c2)) #[.string ⟨#[]⟩, .slice none 0 0, .slice none 0 0] 25
  rw [show (w.alloc (prO p a1 c1 a2 c2)).heap.size = w.heap.size + 1 by simp] at hx4
  have HZ2 : Hid (((w.alloc (prO p a1 c1 a2 c2)).alloc (.cells #[.string ⟨#[]⟩, .slice none 0 0, .slice none 0 0] 25)).heap.size = w.heap.size + 2) := by show _ = _; simp
  have HX2 := Lib.hid hx2
  have HX4 := Lib.hid hx4
  have HW2 := Lib.hid hw2
  have HCl := Lib.hid (fun w => L.oclone_any p.name hnm w)
  have HNm := Lib.hid (fun (x : ByteArray) (w' : World) (hx : x.size ≤ 281474976710656) (hb : Below w.heap.size w w') => H.call x w' hx (hb0.trans (hb.mono hzz)))
  have HQ := Lib.hid (fun (w' : World) (hb : Below w.heap.size w w') => ocopiedStmtsR_any H p.body a2 c2 w' hok.body hok.bodyLen hsz (hK.body.below hb) (hb0.trans (hb.mono hzz)))
  have HK := Lib.hid hK.params
  have HPS := Lib.hid hps
  have HRB : Hid (p.body.map (renS f t) = (ren f t p).body) := by show _ = renB f t p.body; rw [renB_map]
  obtain ⟨m, hm⟩ : ∃ m, p.params.length = m := ⟨_, rfl⟩
  have HL := Lib.hid hm
  unfold prO at *
  unfold prV
  rw [hm] at HZ2 HX2 HX4 HW2 hpl ⊢
  clear hw2 hx2 hx4 hok hnm hsz hps hK hb0 H hm
  go_enter Tryd.func43, Tryd.ntmps43
  go_wp2_with fail
  refine (HCl.out _).mono ?_; rintro e' w3 ⟨rfl, hb3⟩
  have HW3 := Lib.hid (below_2 HW2.out hb3)
  have HY2 := Lib.hid (HX2.out.below hb3)
  have HY4 := Lib.hid (HX4.out.below hb3)
  have hz3 : w.heap.size + 2 ≤ w3.heap.size := by have := hb3.size; have h2 := HZ2.out; omega
  have hbC := below_box w3 (.cells #[.string p.name, .slice none 0 0, .slice none 0 0] 25)
  have hXC := Bx.new w3 #[.string p.name, .slice none 0 0, .slice none 0 0] 25
  have HXC := Lib.hid hXC
  have hY2 := HY2.out.below hbC
  have y1 := hY2.cell 1
  simp at y1
  have HBC := Lib.hid hbC
  clear hb3 hbC hXC hY2
  go_wp2_with fail
  go_loopw [15] (fun s15 wr => ∃ (k : Nat) (lt : List Pm) (pl : Option Addr) (ql : Nat), k ≤ m ∧ s15 = .int .i64 k ∧ Hid (lt = (p.params.take k).map (renP f t)) ∧ Hid (Bx wr w3.heap.size #[.string p.name, .slice pl lt.length ql, .slice none 0 0] 25) ∧ Hid (Own1 kP wr (w3.heap.size + 1) (fun j => j < w3.heap.size + 1) (.slice pl lt.length ql) lt) ∧ Hid (Below w3.heap.size w3 wr)) (fun s15 _ => m - (intOf s15).toNat)
  case atStart => exact ⟨0, [], none, 0, Nat.zero_le _, rfl, rfl, HXC.out, Own1.nil, HBC.out⟩
  case round =>
    obtain ⟨k, lt, pl, ql, hk, rfl, HX, HC, HO, HB⟩ := hrel
    have hllk : lt.length ≤ k := by have := congrArg List.length HX.out; rw [List.length_map, List.length_take] at this; omega
    have HBB := Lib.hid (below_2 HW3.out HB.out)
    by_cases hlt : k < m
    · have hlx : k < p.params.length := by rw [HL.out]; exact hlt
      obtain ⟨b3, i3, rfl, hcc⟩ := (HK.out.below HBB.out).open hlx
      obtain ⟨f0, f1⟩ := hcc k hlx
      have hqs := HPS.out k hlx
      have hxn := pms_take f t hlx
      generalize p.params[k] = q at f0 f1 hqs hxn
      have hb7 := below_box wr (.cells #[.string q.name, .int .i64 q.ty] 51)
      have hltC := HC.out.lt
      have hC7 := HC.out.below hb7
      have HC7 := Lib.hid hC7
      have n1 := hC7.cell 1
      have n3 := hC7.free 1
      simp at n1
      have hX7 := Bx.new wr #[.string q.name, .int .i64 q.ty] 51
      have HX7 := Lib.hid hX7
      have HO7 := Lib.hid (HO.out.below hb7)
      have HB7 := Lib.hid hb7
      have hz7 := hb7.size
      have HCn := Lib.hid (fun w' (hb : Below w.heap.size w w') => HNm.out q.name w' hqs hb)
      have HB7w := Lib.hid (below_2 HBB.out hb7)
      have g0 : (wr.alloc (.cells #[.string q.name, .int .i64 q.ty] 51)).cell? ⟨wr.heap.size, 0, none⟩ = some (.string q.name) := by go_simp
      have g1 : (wr.alloc (.cells #[.string q.name, .int .i64 q.ty] 51)).cell? ⟨wr.heap.size, 1, none⟩ = some (.int .i64 q.ty) := by go_simp
      have HXN : Hid (lt ++ [renP f t q] = (p.params.take (k + 1)).map (renP f t)) := by show _ = _; rw [hxn, HX.out]
      clear hcc hb7 hC7 hX7 hqs hxn
      go_wp2_with fail
      go_region_law
        (first
          | (refine kP.step rfl (.tmp 20) (.tmp 28) rfl (w3.heap.size + 1) (.slice pl lt.length ql) lt rfl HO4.out.row (renP f t q) _ rfl w4.heap.size rfl rfl (by omega) (by omega) ?_; intro g6 cap6 w6 hown6 hgrow6 hlie6; have HO6 := Lib.hid (HO4.out.push trivial (fun j hj => by omega) hown6 hgrow6 hlie6); have HG6 : Hid (∀ j, j < w3.heap.size + 1 → w6.heap[j]? = w4.heap[j]?) := (fun j hj => (hgrow6.block j (by simp; omega) (fun e => HO4.out.off j e.symm hj)).trans (Below.heap_alloc w4 _ j (by omega))); have hC6 := HC4.out.keep (HG6.out w3.heap.size (Nat.lt_succ_self _)); have r1 := hC6.cell 1; have r3 := hC6.free 1; simp at r1; have HC6 := Lib.hid hC6; have HF6 := Lib.hid (HO4.out.frame (Below.refl _ _) (by omega) hgrow6); clear hown6 hgrow6 hlie6 hC6)
          | (go_simp; go_at_call 41; refine (HCn.out _ HB7w.out.drew).mono ?_; rintro e' w4 ⟨rfl, hb4⟩; have HB4 := Lib.hid (below_2 (L.below_drew _) hb4); have HO4 := Lib.hid (HO7.out.below HB4.out); have hz4 := HB4.out.size; have hC4 := HC7.out.below HB4.out; have t1 := hC4.cell 1; have t3 := hC4.free 1; have hX4 := HX7.out.below HB4.out; have t5 := hX4.cell 1; simp at t1 t5; have HC4 := Lib.hid hC4; have hba := below_box w4 (.cells #[.string (swap f t q.name), .int .i64 q.ty] 51); have t2 := (hba.cell (block_lt_of_cell t1)).trans t1; clear hb4 hC4 hX4 hba))
      all_goals
        have HL6 : Hid ((lt ++ [renP f t q]).length = lt.length + 1) := by show _ = _; simp
        have hC8 := HC6.out.set 1 (u := .slice (some ⟨g6, 0, none⟩) (lt.length + 1) cap6)
        simp only [List.setIfInBounds_toArray, List.set_cons_succ, List.set_cons_zero] at hC8
        have HC8 := Lib.hid hC8
        have HO8 := Lib.hid (HO6.out.next (Z' := fun j => j < w3.heap.size + 1) (w' := w6.setCell ⟨w3.heap.size, 1, none⟩ (.slice (some ⟨g6, 0, none⟩) (lt.length + 1) cap6)) ⟨fun j _ hz => Below.heap_setCell _ _ _ _ (show j ≠ w3.heap.size by omega), fun j hj => Or.inl hj⟩)
        have HB8 : Hid (Below w3.heap.size w3 (w6.setCell ⟨w3.heap.size, 1, none⟩ (.slice (some ⟨g6, 0, none⟩) (lt.length + 1) cap6))) := ((HB.out.trans ((below_2 HB7.out HB4.out).mono HB.out.size)).trans (HF6.out.mono (Nat.le_succ _))).setCell (p := ⟨w3.heap.size, 1, none⟩) (Nat.le_refl _) _
        clear hC8
        go_wp2_with fail
        go_roundw
        case rel => exact ⟨k + 1, lt ++ [renP f t q], some ⟨g6, 0, none⟩, cap6, by omega, by go_num, HXN.out, by show Bx _ _ _ _; rw [HL6.out]; exact HC8.out, by show Own1 _ _ _ _ _ _; rw [HL6.out]; exact HO8.out, HB8.out⟩
        case measure => simp [intOf]; omega
    · have hX := HX.out
      rw [List.take_of_length_le (by rw [HL.out]; omega)] at hX
      have hY2 := HY2.out.keep (HB.out.block w.heap.size (by omega))
      have x2 := hY2.cell 2
      simp at x2
      have HCQ := Lib.hid (HQ.out wr HBB.out)
      have HXR : Hid (lt = (ren f t p).params) := hX
      clear hX hY2
      go_wp2_with fail
      refine HCQ.out.mono ?_; rintro e' w5 ⟨pb, qb, rfl, hkb, hb5⟩
      have hltC := HC.out.lt
      have hC5 := HC.out.below hb5
      have hY4 := (HY4.out.keep (HB.out.block (w.heap.size + 1) (by omega))).below hb5
      have c0 := hC5.cell 0
      have c1 := hC5.cell 1
      have c2 := hC5.cell 2
      have f2 := hC5.free 2
      have e0 := hY4.cell 0
      have e1 := hY4.cell 1
      have e2 := hY4.cell 2
      have g0 := hY4.free 0
      have g1 := hY4.free 1
      have g2 := hY4.free 2
      simp at c0 c1 c2 e0 e1 e2
      rw [HRB.out] at hkb
      have hlb : p.body.length = (ren f t p).body.length := by show _ = (renB f t p.body).length; rw [renB_len]
      have hY5 := hY4.keep (Below.heap_setCell w5 ⟨w3.heap.size, 2, none⟩ (.slice pb p.body.length qb) (w.heap.size + 1) (show w.heap.size + 1 ≠ w3.heap.size by omega))
      have hY8 := ((hY5.set 0 (u := .string p.name)).set 1 (u := .slice pl lt.length ql)).set 2 (u := .slice pb p.body.length qb)
      have q0 := hY8.cell 0
      have q1 := hY8.cell 1
      have q2 := hY8.cell 2
      simp at q0 q1 q2
      have hO5 := HO.out.below hb5
      have hst : Stays (fun j => j < w3.heap.size + 1) (fun j => j < w3.heap.size + 1) w5 ((((w5.setCell ⟨w3.heap.size, 2, none⟩ (.slice pb p.body.length qb)).setCell ⟨w.heap.size + 1, 0, none⟩ (.string p.name)).setCell ⟨w.heap.size + 1, 1, none⟩ (.slice pl lt.length ql)).setCell ⟨w.heap.size + 1, 2, none⟩ (.slice pb p.body.length qb)) := ⟨fun j _ hz => by
        rw [Below.heap_setCell _ _ _ _ (show j ≠ w.heap.size + 1 by omega), Below.heap_setCell _ _ _ _ (show j ≠ w.heap.size + 1 by omega), Below.heap_setCell _ _ _ _ (show j ≠ w.heap.size + 1 by omega), Below.heap_setCell _ _ _ _ (show j ≠ w3.heap.size by omega)], fun j hj => Or.inl hj⟩
      have hO6 := hO5.next hst
      obtain ⟨_, _, hsh, hle⟩ := HO.out.shape
      have hq : lt.length ≤ ql := by injection hsh with h1 h2 h3; omega
      have hzr := HB.out.size
      have hk6 := (hkb.next (Z' := fun j => j < w3.heap.size + 1) (w' := w5) ⟨fun _ _ _ => rfl, fun j hj => Or.inl (show j < wr.heap.size by omega)⟩).next hst
      have HV : Hid (GivesP w (ren f t p) (.returned (.agg #[.string p.name, .slice pl lt.length ql, .slice pb p.body.length qb])) ((((w5.setCell ⟨w3.heap.size, 2, none⟩ (.slice pb p.body.length qb)).setCell ⟨w.heap.size + 1, 0, none⟩ (.string p.name)).setCell ⟨w.heap.size + 1, 1, none⟩ (.slice pl lt.length ql)).setCell ⟨w.heap.size + 1, 2, none⟩ (.slice pb p.body.length qb))) := by
        refine ⟨pl, ql, pb, qb, ?_, PrF.next (Z := fun j => j < w3.heap.size + 1) ⟨?_, hk6⟩ ⟨fun _ _ _ => rfl, fun j hj => Or.inl (show j < w3.heap.size + 1 by omega)⟩, ?_, ?_⟩
        · rw [hlb, HXR.out]; rfl
        · rw [← HXR.out]; exact hO6.pms
        · rw [← HXR.out]; exact hq
        · exact ((((HBB.out.trans (hb5.mono HBB.out.size)).setCell (p := ⟨w3.heap.size, 2, none⟩) (show w.heap.size ≤ w3.heap.size by omega) _).setCell (p := ⟨w.heap.size + 1, 0, none⟩) (Nat.le_succ _) _).setCell (p := ⟨w.heap.size + 1, 1, none⟩) (Nat.le_succ _) _).setCell (p := ⟨w.heap.size + 1, 2, none⟩) (Nat.le_succ _) _
      clear hO5 hst hO6 hsh hle hq hk6 hkb hb5 hC5 hY4 hY5 hY8 hlb
      go_wp2_with fail
      refine bodyPost_ret (v := .agg #[.string p.name, .slice pl lt.length ql, .slice pb p.body.length qb]) (by simp [results, Tryd.results43, go_sem, q0, q1, q2]) rfl ?_
      exact HV.out
end Go.Proofs.YtkjefigebdbkaaaDoor.A
namespace Go.Proofs.YtkjefigebdbkaaaDoor.A
open Go.RowKit
open L (Str isName prt size_len below_2 below_box ret_bool ret_int eql_eq bytes_eq)

/-- what Rename leaves: a procedure in memory and an error -/
def GivesRn (w : World) (r : Pr × Int) (e' : Ending) (w' : World) : Prop := ∃ p1 q1 p2 q2, e' = .returned (.tuple #[prV r.1 p1 q1 p2 q2, .int .i64 r.2]) ∧ PrIn w' r.1 p1 p2 ∧ r.1.params.length ≤ q1 ∧ Below w.heap.size w w'
theorem rename_1 {p : Pr} {f t : ByteArray} (h : valE p ≠ 0) : rename p f t = (noPr, 1) := by unfold rename; rw [if_pos h]
theorem rename_7 {p : Pr} {f t : ByteArray} (h : valE p = 0) (h2 : nam t = false) : rename p f t = (noPr, 7) := by unfold rename; rw [if_neg (fun x => x h), if_pos h2]
theorem rename_9 {p : Pr} {f t : ByteArray} (h : valE p = 0) (h2 : nam t = true) (h3 : (names p).any (fun x => decide (x = f)) = false) : rename p f t = (noPr, 9) := by unfold rename; rw [if_neg (fun x => x h), if_neg (by rw [h2]; decide), if_pos h3]
theorem rename_8 {p : Pr} {f t : ByteArray} (h : valE p = 0) (h2 : nam t = true) (h3 : (names p).any (fun x => decide (x = f)) = true) (h4 : occurs p t = true) : rename p f t = (noPr, 8) := by unfold rename; rw [if_neg (fun x => x h), if_neg (by rw [h2]; decide), if_neg (by rw [h3]; decide), if_pos h4]
theorem rename_0 {p : Pr} {f t : ByteArray} (h : valE p = 0) (h2 : nam t = true) (h3 : (names p).any (fun x => decide (x = f)) = true) (h4 : occurs p t = false) : rename p f t = (ren f t p, 0) := by unfold rename; rw [if_neg (fun x => x h), if_neg (by rw [h2]; decide), if_neg (by rw [h3]; decide), if_neg (by rw [h4]; decide)]
set_option maxHeartbeats 8000000 in
set_option maxRecDepth 100000 in
theorem orename_any (p : Pr) (a1 a2 : Option Addr) (c1 c2 : Nat) (f t : ByteArray) (hok : OkP p) (hsz : cB p.body ≤ 900000) (hpl : p.params.length ≤ 1000) (hc1 : p.params.length ≤ c1) (hnm : p.name.size ≤ 281474976710656) (hts : t.size ≤ 281474976710656) (hps : ∀ j (h : j < p.params.length), p.params[j].name.size ≤ 281474976710656) (w : World) (hK : PrIn w p a1 a2) :
    Calls Tryd.prog 16 #[prV p a1 c1 a2 c2, .string f, .string t] w fun e' w' => GivesRn w (rename p f t) e' w' := by
  have hw1 := below_box w (prO p a1 c1 a2 c2)
  have hw2 := below_box (w.alloc (prO p a1 c1 a2 c2)) (.cells #[.string f] 9)
  have hw3 := below_box ((w.alloc (prO p a1 c1 a2 c2)).alloc (.cells #[.string f] 9)) (.cells #[.string t] 9)
  have hw4 := below_box (((w.alloc (prO p a1 c1 a2 c2)).alloc (.cells #[.string f] 9)).alloc (.cells #[.string t] 9)) (.cells #[.string ⟨#[]⟩, .slice none 0 0, .slice none 0 0] 25)
  have hx3 := (Bx.new w #[.string p.name, .slice a1 p.params.length c1, .slice a2 p.body.length c2] 25).below (below_2 hw2 (below_2 hw3 hw4))
  have hx4 := (Bx.new (w.alloc (prO p a1 c1 a2 c2)) #[.string f] 9).below (below_2 hw3 hw4)
  have hx5 := (Bx.new ((w.alloc (prO p a1 c1 a2 c2)).alloc (.cells #[.string f] 9)) #[.string t] 9).below hw4
  have hx6 := Bx.new (((w.alloc (prO p a1 c1 a2 c2)).alloc (.cells #[.string f] 9)).alloc (.cells #[.string t] 9)) #[.string ⟨#[]⟩, .slice none 0 0, .slice none 0 0] 25
  have hw := below_2 hw1 (below_2 hw2 (below_2 hw3 hw4))
  rw [show (w.alloc (prO p a1 c1 a2 c2)).heap.size = w.heap.size + 1 by simp] at hx4
  rw [show ((w.alloc (prO p a1 c1 a2 c2)).alloc (.cells #[.string f] 9)).heap.size = w.heap.size + 2 by simp] at hx5
  rw [show (((w.alloc (prO p a1 c1 a2 c2)).alloc (.cells #[.string f] 9)).alloc (.cells #[.string t] 9)).heap.size = w.heap.size + 3 by simp] at hx6
  unfold prO at *
  clear hw1 hw2 hw3 hw4
  generalize hwe : (((w.alloc (.cells #[.string p.name, .slice a1 p.params.length c1, .slice a2 p.body.length c2] 25)).alloc (.cells #[.string f] 9)).alloc (.cells #[.string t] 9)).alloc (.cells #[.string ⟨#[]⟩, .slice none 0 0, .slice none 0 0] 25) = w4 at *
  have hn := names_len p hpl
  have x4 := hx4.cell 0
  have x5 := hx5.cell 0
  simp at x4 x5
  have HVal := Lib.hid (fun w' (hb : Below w4.heap.size w4 w') => ovalidate_any p a1 a2 c1 c2 hok hsz hc1 w' (hK.below (below_2 hw hb)))
  have HIs : Hid (∀ w', Calls Tryd.prog 37 #[.string t] w' fun e' w'' => e' = .returned (.bool (nam t)) ∧ Below w'.heap.size w' w'') := fun w' => L.oname_any t w'
  have HN := Lib.hid (fun w' (hb : Below w4.heap.size w4 w') => onames_any p a1 a2 c1 c2 hok hsz hpl hps w' (hK.below (below_2 hw hb)))
  have HCt := Lib.hid (fun (a : Option Addr) (c : Nat) w' (h : StrsAt w' a (names p)) => ocontains_any (names p) a c f (by omega) w' h)
  have HOc := Lib.hid (fun w' (hb : Below w4.heap.size w4 w') => ooccurs_any p a1 a2 c1 c2 t hok hsz hpl hps w' (hK.below (below_2 hw hb)))
  have HCp := Lib.hid (fun w' (hb : Below w4.heap.size w4 w') => ocopiedProc_any (namR (w0 := w4) x4 x5 hts) p a1 a2 c1 c2 hok hnm (by omega) hpl hps w' (hK.below (below_2 hw hb)) hb)
  have HX3 := Lib.hid hx3
  have HX4 := Lib.hid hx4
  have HX5 := Lib.hid hx5
  have HX6 := Lib.hid hx6
  have HW := Lib.hid hw
  have R1 := Lib.hid (@rename_1 p f t)
  have R7 := Lib.hid (@rename_7 p f t)
  have R9 := Lib.hid (@rename_9 p f t)
  have R8 := Lib.hid (@rename_8 p f t)
  have R0 := Lib.hid (@rename_0 p f t)
  have y0 := hx3.cell 0
  have y1 := hx3.cell 1
  have y2 := hx3.cell 2
  simp at y0 y1 y2
  have HB := Lib.hid (Below.refl w4.heap.size w4)
  obtain ⟨v, hv⟩ : ∃ v, valE p = v := ⟨_, rfl⟩
  obtain ⟨n, hnn⟩ : ∃ v, nam t = v := ⟨_, rfl⟩
  obtain ⟨m, hmm⟩ : ∃ v, (names p).any (fun x => decide (x = f)) = v := ⟨_, rfl⟩
  obtain ⟨o, hoo⟩ : ∃ v, occurs p t = v := ⟨_, rfl⟩
  rw [hv] at HVal R1 R7 R9 R8 R0
  rw [hnn] at HIs R7 R9 R8 R0
  rw [hmm] at HCt R9 R8 R0
  rw [hoo] at HOc R8 R0
  unfold prV at HVal HN HOc HCp ⊢
  clear hx3 hx4 hx5 hx6 hw hok hsz hps hK hv hnn hmm hoo hts hnm hc1 hpl
  go_enter Tryd.func16, Tryd.ntmps16
  go_wp2_with fail
  refine (HVal.out _ (Below.refl _ _)).mono ?_; rintro e' w5 ⟨rfl, hb⟩
  have HB5 := Lib.hid hb
  clear hb
  by_cases hv0 : ¬ v = 0
  · have bv : (v != 0) = true := bne_iff_ne.2 hv0
    have HR := Lib.hid (R1.out hv0)
    clear hv0
    have hz6 := HX6.out.below HB5.out
    have e0 := hz6.cell 0
    have e1 := hz6.cell 1
    have e2 := hz6.cell 2
    have g0 := hz6.free 0
    have g1 := hz6.free 1
    have g2 := hz6.free 2
    have hq6 := ((hz6.set 0 (u := .string ⟨#[]⟩)).set 1 (u := .slice none 0 0)).set 2 (u := .slice none 0 0)
    have q0 := hq6.cell 0
    have q1 := hq6.cell 1
    have q2 := hq6.cell 2
    simp at e0 e1 e2 q0 q1 q2
    have HVx : Hid (GivesRn w (rename p f t) (.returned (.tuple #[.agg #[.string ⟨#[]⟩, .slice none 0 0, .slice none 0 0], .int .i64 1])) (((w5.setCell ⟨w.heap.size + 3, 0, none⟩ (.string ⟨#[]⟩)).setCell ⟨w.heap.size + 3, 1, none⟩ (.slice none 0 0)).setCell ⟨w.heap.size + 3, 2, none⟩ (.slice none 0 0))) := by
      show GivesRn _ _ _ _
      rw [HR.out]
      exact ⟨none, 0, none, 0, rfl, ⟨Or.inl rfl, Or.inl rfl⟩, Nat.le_refl _, (((HW.out.trans (HB5.out.mono HW.out.size)).setCell (p := ⟨w.heap.size + 3, 0, none⟩) (Nat.le_add_right _ _) _).setCell (p := ⟨w.heap.size + 3, 1, none⟩) (Nat.le_add_right _ _) _).setCell (p := ⟨w.heap.size + 3, 2, none⟩) (Nat.le_add_right _ _) _⟩
    clear hz6 hq6
    go_wp2_with fail
    refine bodyPost_ret (v := .tuple #[.agg #[.string ⟨#[]⟩, .slice none 0 0, .slice none 0 0], .int .i64 1]) (by simp [results, Tryd.results16, go_sem, q0, q1, q2]) rfl ?_
    exact HVx.out
  have hv0 := Decidable.not_not.1 hv0
  have bv : (v != 0) = false := by rw [bne_eq_false_iff_eq]; exact hv0
  have HV0 := Lib.hid hv0
  clear hv0
  have z5 := (HX5.out.below HB5.out).cell 0
  simp at z5
  go_wp2_with fail
  refine (HIs.out _).mono ?_; rintro e' w6 ⟨rfl, hb⟩
  have HB6 := Lib.hid (below_2 HB5.out hb)
  clear hb
  cases n
  · have HR := Lib.hid (R7.out HV0.out (by trivial))
    have hz6 := HX6.out.below HB6.out
    have e0 := hz6.cell 0
    have e1 := hz6.cell 1
    have e2 := hz6.cell 2
    have g0 := hz6.free 0
    have g1 := hz6.free 1
    have g2 := hz6.free 2
    have hq6 := ((hz6.set 0 (u := .string ⟨#[]⟩)).set 1 (u := .slice none 0 0)).set 2 (u := .slice none 0 0)
    have q0 := hq6.cell 0
    have q1 := hq6.cell 1
    have q2 := hq6.cell 2
    simp at e0 e1 e2 q0 q1 q2
    have HVx : Hid (GivesRn w (rename p f t) (.returned (.tuple #[.agg #[.string ⟨#[]⟩, .slice none 0 0, .slice none 0 0], .int .i64 7])) (((w6.setCell ⟨w.heap.size + 3, 0, none⟩ (.string ⟨#[]⟩)).setCell ⟨w.heap.size + 3, 1, none⟩ (.slice none 0 0)).setCell ⟨w.heap.size + 3, 2, none⟩ (.slice none 0 0))) := by
      show GivesRn _ _ _ _
      rw [HR.out]
      exact ⟨none, 0, none, 0, rfl, ⟨Or.inl rfl, Or.inl rfl⟩, Nat.le_refl _, (((HW.out.trans (HB6.out.mono HW.out.size)).setCell (p := ⟨w.heap.size + 3, 0, none⟩) (Nat.le_add_right _ _) _).setCell (p := ⟨w.heap.size + 3, 1, none⟩) (Nat.le_add_right _ _) _).setCell (p := ⟨w.heap.size + 3, 2, none⟩) (Nat.le_add_right _ _) _⟩
    clear hz6 hq6
    go_wp2_with fail
    refine bodyPost_ret (v := .tuple #[.agg #[.string ⟨#[]⟩, .slice none 0 0, .slice none 0 0], .int .i64 7]) (by simp [results, Tryd.results16, go_sem, q0, q1, q2]) rfl ?_
    exact HVx.out
  have hX36 := HX3.out.below HB6.out
  have m0 := hX36.cell 0
  have m1 := hX36.cell 1
  have m2 := hX36.cell 2
  have m4 := (HX4.out.below HB6.out).cell 0
  simp at m0 m1 m2 m4
  clear hX36
  have HNd := Lib.hid (HN.out w6.drew (HB6.out.drew))
  go_wp2_with fail
  go_region_held3 (fun w' => w'.cell? ⟨w.heap.size + 1, 0, none⟩ = some (.string f) ∧ w'.cell? ⟨w.heap.size, 0, none⟩ = some (.string p.name) ∧ w'.cell? ⟨w.heap.size, 1, none⟩ = some (.slice a1 p.params.length c1) ∧ w'.cell? ⟨w.heap.size, 2, none⟩ = some (.slice a2 p.body.length c2)) (first | exact ⟨j4, j0, j1, j2⟩ | go_keep)
    (first
      | (go_at_call 39; (with_reducible refine HNd.out.mono ?_); rintro e' wN ⟨pn, qn, rfl, hqn, hsn, hbn⟩; have HSn := Lib.hid hsn; have HBn := Lib.hid (below_2 HB6.out (below_2 (L.below_drew _) hbn)); have hxn := HX3.out.below HBn.out; have j0 := hxn.cell 0; have j1 := hxn.cell 1; have j2 := hxn.cell 2; have j4 := (HX4.out.below HBn.out).cell 0; have j5 := (HX5.out.below HBn.out).cell 0; simp at j0 j1 j2 j4 j5; clear hsn hbn hxn hqn)
      | (go_at_call 38; refine (HCt.out _ _ _ HSn.out).mono ?_; rintro e' wC ⟨rfl, hwc⟩; obtain rfl : wN = wC := hwc.symm))
  cases m
  · have HR := Lib.hid (R9.out HV0.out (by trivial) (by trivial))
    have hz6 := HX6.out.below HBn.out
    have e0 := hz6.cell 0
    have e1 := hz6.cell 1
    have e2 := hz6.cell 2
    have g0 := hz6.free 0
    have g1 := hz6.free 1
    have g2 := hz6.free 2
    have hq6 := ((hz6.set 0 (u := .string ⟨#[]⟩)).set 1 (u := .slice none 0 0)).set 2 (u := .slice none 0 0)
    have q0 := hq6.cell 0
    have q1 := hq6.cell 1
    have q2 := hq6.cell 2
    simp at e0 e1 e2 q0 q1 q2
    have HVx : Hid (GivesRn w (rename p f t) (.returned (.tuple #[.agg #[.string ⟨#[]⟩, .slice none 0 0, .slice none 0 0], .int .i64 9])) (((wN.setCell ⟨w.heap.size + 3, 0, none⟩ (.string ⟨#[]⟩)).setCell ⟨w.heap.size + 3, 1, none⟩ (.slice none 0 0)).setCell ⟨w.heap.size + 3, 2, none⟩ (.slice none 0 0))) := by
      show GivesRn _ _ _ _
      rw [HR.out]
      exact ⟨none, 0, none, 0, rfl, ⟨Or.inl rfl, Or.inl rfl⟩, Nat.le_refl _, (((HW.out.trans (HBn.out.mono HW.out.size)).setCell (p := ⟨w.heap.size + 3, 0, none⟩) (Nat.le_add_right _ _) _).setCell (p := ⟨w.heap.size + 3, 1, none⟩) (Nat.le_add_right _ _) _).setCell (p := ⟨w.heap.size + 3, 2, none⟩) (Nat.le_add_right _ _) _⟩
    clear hz6 hq6
    go_wp2_with fail
    refine bodyPost_ret (v := .tuple #[.agg #[.string ⟨#[]⟩, .slice none 0 0, .slice none 0 0], .int .i64 9]) (by simp [results, Tryd.results16, go_sem, q0, q1, q2]) rfl ?_
    exact HVx.out
  go_wp2_with fail
  refine (HOc.out _ HBn.out).mono ?_; rintro e' w7 ⟨rfl, hb⟩
  have HB7 := Lib.hid (below_2 HBn.out hb)
  clear hb
  cases o
  case true =>
    have HR := Lib.hid (R8.out HV0.out (by trivial) (by trivial) (by trivial))
    have hz6 := HX6.out.below HB7.out
    have e0 := hz6.cell 0
    have e1 := hz6.cell 1
    have e2 := hz6.cell 2
    have g0 := hz6.free 0
    have g1 := hz6.free 1
    have g2 := hz6.free 2
    have hq6 := ((hz6.set 0 (u := .string ⟨#[]⟩)).set 1 (u := .slice none 0 0)).set 2 (u := .slice none 0 0)
    have q0 := hq6.cell 0
    have q1 := hq6.cell 1
    have q2 := hq6.cell 2
    simp at e0 e1 e2 q0 q1 q2
    have HVx : Hid (GivesRn w (rename p f t) (.returned (.tuple #[.agg #[.string ⟨#[]⟩, .slice none 0 0, .slice none 0 0], .int .i64 8])) (((w7.setCell ⟨w.heap.size + 3, 0, none⟩ (.string ⟨#[]⟩)).setCell ⟨w.heap.size + 3, 1, none⟩ (.slice none 0 0)).setCell ⟨w.heap.size + 3, 2, none⟩ (.slice none 0 0))) := by
      show GivesRn _ _ _ _
      rw [HR.out]
      exact ⟨none, 0, none, 0, rfl, ⟨Or.inl rfl, Or.inl rfl⟩, Nat.le_refl _, (((HW.out.trans (HB7.out.mono HW.out.size)).setCell (p := ⟨w.heap.size + 3, 0, none⟩) (Nat.le_add_right _ _) _).setCell (p := ⟨w.heap.size + 3, 1, none⟩) (Nat.le_add_right _ _) _).setCell (p := ⟨w.heap.size + 3, 2, none⟩) (Nat.le_add_right _ _) _⟩
    clear hz6 hq6
    go_wp2_with fail
    refine bodyPost_ret (v := .tuple #[.agg #[.string ⟨#[]⟩, .slice none 0 0, .slice none 0 0], .int .i64 8]) (by simp [results, Tryd.results16, go_sem, q0, q1, q2]) rfl ?_
    exact HVx.out
  have HR := Lib.hid (R0.out HV0.out (by trivial) (by trivial) (by trivial))
  have hX37 := HX3.out.below HB7.out
  have i0 := hX37.cell 0
  have i1 := hX37.cell 1
  have i2 := hX37.cell 2
  simp at i0 i1 i2
  clear hX37
  go_wp2_with fail
  refine (HCp.out _ HB7.out).mono ?_; rintro e' w8 ⟨p1, q1', p2, q2', rfl, hin, hle, hb⟩
  have HB8 := Lib.hid (below_2 HB7.out hb)
  clear hb
  unfold prV
  have hz6 := HX6.out.below HB8.out
  have e0 := hz6.cell 0
  have e1 := hz6.cell 1
  have e2 := hz6.cell 2
  have g0 := hz6.free 0
  have g1 := hz6.free 1
  have g2 := hz6.free 2
  have hq6 := ((hz6.set 0 (u := .string (ren f t p).name)).set 1 (u := .slice p1 (ren f t p).params.length q1')).set 2 (u := .slice p2 (ren f t p).body.length q2')
  have q0 := hq6.cell 0
  have q1 := hq6.cell 1
  have q2 := hq6.cell 2
  simp at e0 e1 e2 q0 q1 q2
  have hin9 : PrIn (((w8.setCell ⟨w.heap.size + 3, 0, none⟩ (.string (ren f t p).name)).setCell ⟨w.heap.size + 3, 1, none⟩ (.slice p1 (ren f t p).params.length q1')).setCell ⟨w.heap.size + 3, 2, none⟩ (.slice p2 (ren f t p).body.length q2')) (ren f t p) p1 p2 := by
    have hlt8 := (HX6.out.below HB7.out).lt
    refine (hin.next (Z' := fun j => j < w7.heap.size) ⟨fun j _ hz => ?_, fun j hj => Or.inl hj⟩).now
    have hne : j ≠ w.heap.size + 3 := by omega
    repeat rw [Below.heap_setCell _ _ _ _ (by exact hne)]
  have HVx : Hid (GivesRn w (rename p f t) (.returned (.tuple #[.agg #[.string (ren f t p).name, .slice p1 (ren f t p).params.length q1', .slice p2 (ren f t p).body.length q2'], .int .i64 0])) (((w8.setCell ⟨w.heap.size + 3, 0, none⟩ (.string (ren f t p).name)).setCell ⟨w.heap.size + 3, 1, none⟩ (.slice p1 (ren f t p).params.length q1')).setCell ⟨w.heap.size + 3, 2, none⟩ (.slice p2 (ren f t p).body.length q2'))) := by
    show GivesRn _ _ _ _
    rw [HR.out]
    exact ⟨p1, q1', p2, q2', rfl, hin9, hle, (((HW.out.trans (HB8.out.mono HW.out.size)).setCell (p := ⟨w.heap.size + 3, 0, none⟩) (Nat.le_add_right _ _) _).setCell (p := ⟨w.heap.size + 3, 1, none⟩) (Nat.le_add_right _ _) _).setCell (p := ⟨w.heap.size + 3, 2, none⟩) (Nat.le_add_right _ _) _⟩
  clear hz6 hq6 hin hin9 hle
  go_wp2_with fail
  refine bodyPost_ret (v := .tuple #[.agg #[.string (ren f t p).name, .slice p1 (ren f t p).params.length q1', .slice p2 (ren f t p).body.length q2'], .int .i64 0]) (by simp [results, Tryd.results16, go_sem, q0, q1, q2]) rfl ?_
  exact HVx.out
end Go.Proofs.YtkjefigebdbkaaaDoor.A
