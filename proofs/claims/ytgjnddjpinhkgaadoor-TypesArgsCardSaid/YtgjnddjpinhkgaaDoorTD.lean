/-
  Declarations of texts that lie merged: the reference of layer 11.
-/
import Derived.Test.YtgjnddjpinhkgaaDoorTB
import Derived.Test.YtgjnddjpinhkgaaDoorS5
import Derived.Test.YtgjnddjpinhkgaaDoorS4
import Derived.Test.YtgjnddjpinhkgaaDoorM08
import Derived.Test.YtgjnddjpinhkgaaDoorQARM
import Derived.Test.YtgjnddjpinhkgaaDoorR31
import Derived.Test.YtgjnddjpinhkgaaDoorR32
import Derived.Test.YtgjnddjpinhkgaaDoorS7
import Derived.Test.YtgjnddjpinhkgaaDoorS2
import Derived.Deep.QuietTactic
import Derived.BigQuiet
namespace Go.Proofs.YtgjnddjpinhkgaaDoor.A
open L (Str isName prt size_len)
theorem swap_size (f t x : ByteArray) (n : Nat) (h : x.size ≤ n) (ht : t.size ≤ n) : (swap f t x).size ≤ n := by
  unfold swap
  split
  · exact ht
  · exact h
theorem swap_64 (f t x : ByteArray) (ht : t.size ≤ 200) : (swap f t x).size / 64 ≤ x.size / 64 + 3 := by
  unfold swap
  split
  · omega
  · omega
mutual
theorem okE_ren {f t : ByteArray} (ht : t.size ≤ 1000000000000000) : ∀ e : Ex, okE e → okE (renE f t e)
  | .mk o n s l, h => by
    rw [okE] at h
    rw [renE, okE]
    refine ⟨h.1, h.2.1, ?_, by rw [renEs_len]; exact h.2.2.2.1, okEs_ren ht l h.2.2.2.2⟩
    split
    · exact swap_size f t s _ h.2.2.1 ht
    · exact h.2.2.1
theorem okEs_ren {f t : ByteArray} (ht : t.size ≤ 1000000000000000) : ∀ l : List Ex, okEs l → okEs (renEs f t l)
  | [], _ => by rw [renEs, okEs]; trivial
  | e :: r, h => by
    rw [okEs] at h
    rw [renEs, okEs]
    exact ⟨okE_ren ht e h.1, okEs_ren ht r h.2⟩
end
mutual
theorem okS_ren {f t : ByteArray} (ht : t.size ≤ 1000000000000000) : ∀ s : St, okS s → okS (renS f t s)
  | .mk o nm mx a b bd el, h => by
    rw [okS] at h
    obtain ⟨h1, h2, h3, h4, h5, h6, h7, h8, h9⟩ := h
    rw [renS, okS]
    exact ⟨h1, swap_size f t nm _ h2 ht, h3, okE_ren ht a h4, okE_ren ht b h5, by rw [renB_len]; exact h6, okB_ren ht bd h7, by rw [renB_len]; exact h8, okB_ren ht el h9⟩
theorem okB_ren {f t : ByteArray} (ht : t.size ≤ 1000000000000000) : ∀ l : List St, okB l → okB (renB f t l)
  | [], _ => by rw [renB, okB]; trivial
  | s :: r, h => by
    rw [okB] at h
    rw [renB, okB]
    exact ⟨okS_ren ht s h.1, okB_ren ht r h.2⟩
end
mutual
theorem cE_ren {f t : ByteArray} (ht : t.size ≤ 200) : ∀ e : Ex, cE (renE f t e) ≤ 4 * cE e
  | .mk o n s l => by
    rw [renE, cE, cE]
    have h1 := cEs_ren (f := f) ht l
    have h2 := swap_64 f t s ht
    split <;> omega
theorem cEs_ren {f t : ByteArray} (ht : t.size ≤ 200) : ∀ l : List Ex, cEs (renEs f t l) ≤ 4 * cEs l
  | [] => by rw [renEs, cEs]; omega
  | e :: r => by
    have h1 := cE_ren (f := f) ht e
    have h2 := cEs_ren (f := f) ht r
    rw [renEs, cEs, cEs]
    omega
end
mutual
theorem cS_ren {f t : ByteArray} (ht : t.size ≤ 200) : ∀ s : St, cS (renS f t s) ≤ 4 * cS s
  | .mk o nm mx a b bd el => by
    have h0 := swap_64 f t nm ht
    have h1 := cE_ren (f := f) ht a
    have h2 := cE_ren (f := f) ht b
    have h3 := cB_ren (f := f) ht bd
    have h4 := cB_ren (f := f) ht el
    rw [renS, cS, cS]
    omega
theorem cB_ren {f t : ByteArray} (ht : t.size ≤ 200) : ∀ l : List St, cB (renB f t l) ≤ 4 * cB l
  | [] => by rw [renB, cB]; omega
  | s :: r => by
    have h1 := cS_ren (f := f) ht s
    have h2 := cB_ren (f := f) ht r
    rw [renB, cB, cB]
    omega
end
/-- a small procedure -/
structure SmP (p : Pr) (m : Nat) : Prop where
  params : p.params.length ≤ 40
  name : p.name.size ≤ 200
  each : ∀ j (h : j < p.params.length), p.params[j].name.size ≤ 200
  body : cB p.body ≤ m
theorem small_smp {p : Pr} {m : Nat} (h : small p m = true) : SmP p m := by
  unfold small at h
  simp only [Bool.and_eq_true, decide_eq_true_iff, List.all_eq_true] at h
  obtain ⟨⟨⟨h1, h2⟩, h3⟩, h4⟩ := h
  exact ⟨h1, h2, fun j hj => h3 _ (List.getElem_mem hj), h4⟩
/-- what the contracts ask of a procedure -/
structure Pp (p : Pr) : Prop where
  ok : OkP p
  sz : cB p.body ≤ 900000
  pl : p.params.length ≤ 1000
  nm : p.name.size ≤ 281474976710656
  ps : ∀ j (h : j < p.params.length), p.params[j].name.size ≤ 281474976710656
theorem pp_no : Pp noPr := by
  have h0 : (⟨#[]⟩ : ByteArray).size = 0 := rfl
  refine ⟨⟨by show (⟨#[]⟩ : ByteArray).size ≤ _; omega, Nat.zero_le _, (fun j hj => by cases hj), Nat.zero_le _, ?_⟩, ?_, Nat.zero_le _, by show (⟨#[]⟩ : ByteArray).size ≤ _; omega, (fun j hj => by cases hj)⟩
  · show okB []
    rw [okB]; trivial
  · show cB [] ≤ _
    rw [cB]; omega
theorem pp_ren {p : Pr} {f t : ByteArray} (hok : OkP p) (h : SmP p 600) (ht : t.size ≤ 200) : Pp (ren f t p) := by
  have hl : (ren f t p).params.length = p.params.length := by unfold ren; simp
  have hn : ∀ j (hj : j < (ren f t p).params.length), (ren f t p).params[j].name.size ≤ 200 := fun j hj => by
    have hj2 : j < p.params.length := by omega
    have e : (ren f t p).params[j].name = swap f t p.params[j].name := by simp only [ren, List.getElem_map]
    rw [e]
    exact swap_size f t _ 200 (h.each j hj2) ht
  have hc : cB (ren f t p).body ≤ 4 * cB p.body := cB_ren ht p.body
  have hb := h.body
  have hnm := h.name
  refine ⟨⟨hok.name, by rw [hl]; exact hok.params, fun j hj => by have := hn j hj; omega, by show (renB f t p.body).length ≤ _; rw [renB_len]; exact hok.bodyLen, okB_ren (by omega) p.body hok.body⟩, by omega, by rw [hl]; have := h.params; omega, by show p.name.size ≤ _; omega, fun j hj => by have := hn j hj; omega⟩
theorem pp_rename {p : Pr} {f t : ByteArray} (hok : OkP p) (h : SmP p 600) (ht : t.size ≤ 200) : Pp (rename p f t).1 := by
  unfold rename
  split
  · exact pp_no
  · split
    · exact pp_no
    · split
      · exact pp_no
      · split
        · exact pp_no
        · exact pp_ren hok h ht
end Go.Proofs.YtgjnddjpinhkgaaDoor.A
namespace Go.Proofs.YtgjnddjpinhkgaaDoor.Y
open Go.RowKit
open L (Str isName prt size_len below_2 below_box ret_bool ret_int eql_eq bytes_eq)
open A (Ex St Pm Pr Bx PmsAt StrsAt PrIn OkP prV prO names valE cB)
open P (On on_set off_of wp_region_inv IS)
theorem body_any : ∀ l, QB l := A.body_ind fun _ ih => body_step ih
theorem isIn_takeN {l : List ByteArray} {i k : Nat} (hk : k < i) (hi : i < l.length) (h : l[k] = l[i]) : rep [] l = true := by
  cases hr : rep [] l
  · have := (rep_nil.1 hr)
    have h2 := (List.getElem_inj (h₀ := by omega) (h₁ := hi) this).1 h
    omega
  · rfl
theorem rep_no {l : List ByteArray} (h : ∀ i (hi : i < l.length) k (hk : k < i), l[k] ≠ l[i]) : rep [] l = false := by
  rw [rep_nil]
  rw [List.nodup_iff_pairwise_ne, List.pairwise_iff_getElem]
  exact fun i j hi hj hij => h j hj i hij
def P10 (M : Nat) (N : Nat) (x r : Value) (i3 k : Nat) (b3 : Nat) (nm : ByteArray) (ty : Int) (l1 : List Pm) : Nat → Value → World → Prop
  | 0, v, _ => v = x
  | 1, v, _ => v = .pointer (some ⟨M, 1, none⟩)
  | 2, v, _ => v = r
  | 3, v, _ => v = .int .i64 (k : Int)
  | 4, v, _ => v = .pointer (some ⟨b3, i3 + k * 2, none⟩)
  | 5, v, _ => v = .pointer (some ⟨b3, i3 + k * 2, none⟩)
  | 6, v, _ => v = .string nm
  | 7, v, _ => v = .pointer (some ⟨M, 1, none⟩)
  | 8, v, _ => v = r
  | 9, v, _ => v = .int .i64 (k : Int)
  | 10, v, _ => v = .pointer (some ⟨b3, i3 + k * 2, none⟩)
  | 11, v, _ => v = .pointer (some ⟨b3, i3 + k * 2 + 1, none⟩)
  | 12, v, _ => v = .int .i64 ty
  | 13, v, w => ∃ p q p2 q2, v = .agg #[.slice p (k + 1) q, .slice p2 0 q2] ∧ PmsAt w p l1 ∧ (∀ g i, p = some ⟨g, i, none⟩ → N < g) ∧ (∀ g i, p2 = some ⟨g, i, none⟩ → N < g)
  | _, _, _ => True
theorem P10.mono {M N : Nat} {x r : Value} {i3 k b3 : Nat} {nm : ByteArray} {ty : Int} {l1 : List Pm} : ∀ j v w w', P10 M N x r i3 k b3 nm ty l1 j v w → Below w.heap.size w w' → P10 M N x r i3 k b3 nm ty l1 j v w' := by
  intro j v w w' h hb
  match j, h with
  | 0, h => exact h
  | 1, h => exact h
  | 2, h => exact h
  | 3, h => exact h
  | 4, h => exact h
  | 5, h => exact h
  | 6, h => exact h
  | 7, h => exact h
  | 8, h => exact h
  | 9, h => exact h
  | 10, h => exact h
  | 11, h => exact h
  | 12, h => exact h
  | 13, ⟨p, q, p2, q2, h1, h2, h3, h4⟩ => exact ⟨p, q, p2, q2, h1, h2.below hb, h3, h4⟩
  | _ + 14, _ => trivial
set_option maxHeartbeats 8000000 in
set_option maxRecDepth 100000 in
theorem rCheck_any (p : Pr) (a1 a2 : Option Addr) (c1 c2 : Nat) (hok : OkP p) (hsz : cB p.body ≤ 80000) (hpl : p.params.length ≤ 1000) (w : World) (hK : PrIn w p a1 a2) :
    Calls Tryd.prog 13 #[prV p a1 c1 a2 c2] w fun e' w' => e' = .returned (.int .i64 (chkR p)) ∧ Below w.heap.size w w' := by
  have hb := below_box w (prO p a1 c1 a2 c2)
  have hbx := Bx.new w #[.string p.name, .slice a1 p.params.length c1, .slice a2 p.body.length c2] 25
  have HV := Lib.hid (A.rvalidate_any A.rstmt p a1 a2 c1 c2 hok (by omega) _ (hK.below hb))
  have HNm : Hid (∀ w', PrIn w' p a1 a2 → Calls Tryd.prog 19 #[prV p a1 c1 a2 c2] w' (A.GivesN w' (names p))) := fun w' k => A.rnames_any p a1 a2 c1 c2 hok (by omega) w' k
  have HBd : Hid (∀ w' va vc la lc, PrIn w' p a1 a2 → PmsAt w' va p.params → Calls Tryd.prog 37 #[.agg #[.slice va p.params.length vc, .slice la 0 lc], .slice a2 p.body.length c2] w' fun e' w'' => e' = .returned (.int .i64 (rfB p.params [] p.body)) ∧ Below w'.heap.size w' w'') := fun w' va vc la lc k h =>
    body_any p.body a2 c2 p.params va vc [] la lc w' hok.body hok.bodyLen h (Or.inl rfl) k.body (by omega) (by show 0 + _ ≤ _; omega)
  have HNL : Hid ((names p).length ≤ 2000) := A.names_len p hpl
  have HX := Lib.hid hbx
  have HK := Lib.hid (hK.below hb)
  have HB := Lib.hid hb
  obtain ⟨R, hR⟩ : ∃ R, chkR p = R := ⟨_, rfl⟩
  rw [hR]
  unfold chkR at hR
  have HR := Lib.hid hR
  unfold prV at HV HNm ⊢
  unfold prO at *
  obtain ⟨m, hm⟩ : ∃ m, p.params.length = m := ⟨_, rfl⟩
  have HM := Lib.hid hm
  rw [hm] at HV HNm HBd HX HK HB hpl ⊢
  clear hb hbx hok hsz hK hR hm
  generalize valE p = x at *
  by_cases h0 : x = 0
  case neg =>
    have b1 : (x != 0) = true := bne_iff_ne.2 h0
    have HW : Hid (x = R) := by show _ = _; rw [← HR.out, if_pos h0]
    clear h0
    go_enter Tryd.func13, Tryd.ntmps13
    go_wp2_with fail
    refine HV.out.mono ?_; rintro e' w2 ⟨rfl, hb2⟩
    have HB2 := Lib.hid (below_2 HB.out hb2)
    clear hb2
    go_wp2_with fail
    go_ret
    exact ⟨ret_int HW.out, HB2.out⟩
  subst h0
  go_enter Tryd.func13, Tryd.ntmps13
  go_wp2_with fail
  refine HV.out.mono ?_; rintro e' w2 ⟨rfl, hb2⟩
  have hbs := below_box w2 (.cells #[.slice none 0 0, .slice none 0 0] 66)
  have HSc := Lib.hid (Bx.new w2 #[.slice none 0 0, .slice none 0 0] 66)
  have HB2 := Lib.hid hb2
  have HBs := Lib.hid hbs
  have hz1 : (w.alloc (.cells #[.string p.name, .slice a1 m c1, .slice a2 p.body.length c2] 25)).heap.size = w.heap.size + 1 := by simp
  have hz2 := hb2.size
  have HZ2 : Hid (w.heap.size + 1 ≤ w2.heap.size) := by show _ ≤ _; omega
  clear hb2 hbs HV hz1 hz2
  go_wp2_with fail
  go_loopw [5] (fun s5 wr => ∃ (k : Nat) (va : Option Addr) (vc : Nat) (la : Option Addr) (lc : Nat), k ≤ m ∧ s5 = .int .i64 k ∧ Hid (∀ q ∈ p.params.take k, decide (q.ty = 3) = false) ∧ Hid (Bx wr w2.heap.size #[.slice va k vc, .slice la 0 lc] 66) ∧ Hid (PmsAt wr va (p.params.take k)) ∧ Hid (Below w2.heap.size w2 wr)) (fun s5 _ => m - (intOf s5).toNat)
  case atStart => exact ⟨0, none, 0, none, 0, Nat.zero_le _, rfl, (fun q hq => by simp at hq), HSc.out, Or.inl (by simp), HBs.out⟩
  case round =>
    obtain ⟨k, va, vc, la, lc, hk, rfl, HQ, HBx, HP, HBr⟩ := hrel
    have HBw := Lib.hid (HB2.out.trans (HBr.out.mono HB2.out.size))
    have hbx := HX.out.below HBw.out
    have x0 := hbx.cell 0
    have x1 := hbx.cell 1
    have x2 := hbx.cell 2
    have z0 := HBx.out.cell 0
    have z1 := HBx.out.cell 1
    have k0 := HBx.out.free 0
    have k1 := HBx.out.free 1
    simp only [List.getElem?_toArray, List.getElem?_cons_zero, List.getElem?_cons_succ] at x0 x1 x2 z0 z1
    clear hbx
    by_cases hlt : k < m
    · have hlx : k < p.params.length := by rw [HM.out]; exact hlt
      obtain ⟨b3, i3, rfl, hcc⟩ := (HK.out.below HBw.out).params.open hlx
      obtain ⟨f0, f1⟩ := hcc k hlx
      have htk : p.params.take (k + 1) = p.params.take k ++ [p.params[k]] := List.take_succ_eq_append_getElem hlx
      have hany : p.params[k].ty = 3 → anyB p = true := fun h => List.any_eq_true.2 ⟨_, List.getElem_mem hlx, decide_eq_true h⟩
      generalize p.params[k] = q at f0 f1 htk hany
      clear hcc
      by_cases ht : q.ty = 3
      · have HW : Hid (10 = R) := by show _ = _; rw [← HR.out, if_neg (fun z => z rfl), if_pos (hany ht)]
        rw [ht] at f1
        clear ht htk hany
        go_wp2_with fail
        go_ret
        exact ⟨ret_int HW.out, below_2 HB.out HBw.out⟩
      have bt : (q.ty == 3) = false := beq_eq_false_iff_ne.2 ht
      have HTK := Lib.hid htk
      have HQ2 : Hid (∀ q' ∈ p.params.take (k + 1), decide (q'.ty = 3) = false) := fun q' h => by
        rw [htk] at h
        rcases List.mem_append.1 h with h | h
        · exact HQ.out q' h
        · rw [List.mem_singleton.1 h]; exact decide_eq_false ht
      have HWi : Hid (∀ wk, Below wr.heap.size wr wk → Calls Tryd.prog 36 #[.agg #[.slice va k vc, .slice la 0 lc], .string q.name, .int .i64 q.ty, .bool false] wk (GivesW wk (p.params.take k ++ [⟨q.name, q.ty⟩]) [])) := fun wk hb => by
        have hl : (p.params.take k).length = k := by rw [List.length_take]; omega
        have := rwith_any (p.params.take k) [] va vc la lc q.name q.ty false (by omega) (by simp) wk (HP.out.below hb) (Or.inl rfl)
        rw [hl] at this
        exact this
      have HL5 : Hid ((p.params.take k ++ [(⟨q.name, q.ty⟩ : Pm)]).length = k + 1) := by show _ = _; rw [List.length_append, List.length_take, Nat.min_eq_left (Nat.le_of_lt hlx)]; rfl
      clear ht htk hany
      go_upto_region 10 with fail
      have HNW : Hid (w2.heap.size < wr.heap.size) := HBx.out.lt
      refine wp_region_inv rfl (fun l a w' => ∃ v0 v1 v2 v3 v4 v5 v6 v7 v8 v9 v10 v11 v12 v13 : Value, a = { tmps := #[Value.agg #[Value.string p.name, Value.slice (some { block := b3, off := i3 }) m c1, Value.slice a2 p.body.length c2], Value.pointer (some { block := w.heap.size, off := 0 }), u2, Value.int IntKind.i64 0, Value.pointer (some { block := w2.heap.size, off := 0 }), Value.int IntKind.i64 ↑k, undef, undef, undef, Value.agg #[Value.string p.name, Value.slice (some { block := b3, off := i3 }) m c1, Value.slice a2 p.body.length c2], Value.int IntKind.i64 0, Value.int IntKind.i64 0, Value.bool false, undef, Value.int IntKind.i64 ↑k, Value.pointer (some { block := w.heap.size, off := 1 }), Value.slice (some { block := b3, off := i3 }) m c1, Value.int IntKind.i64 ↑m, Value.bool true, u19, u20, Value.pointer (some { block := w.heap.size, off := 1 }), Value.slice (some { block := b3, off := i3 }) m c1, Value.int IntKind.i64 ↑k, Value.pointer (some { block := b3, off := i3 + k * 2 }), Value.pointer (some { block := b3, off := i3 + k * 2 + 1 }), Value.int IntKind.i64 q.ty, Value.bool false, v0, v1, v2, v3, v4, v5, v6, v7, v8, v9, v10, v11, v12, v13, undef, undef, undef, undef, undef, undef, undef, undef, undef, undef, undef, undef, undef, undef, undef, undef, undef, undef, undef, undef, undef, undef, undef, undef, undef, undef], defers := [] } ∧ ((¬ On l 14 ∧ IS (P10 w.heap.size w2.heap.size (.agg #[.slice va k vc, .slice la 0 lc]) (.slice (some ⟨b3, i3, none⟩) m c1) i3 k b3 q.name q.ty (p.params.take k ++ [⟨q.name, q.ty⟩])) wr l w' [v0, v1, v2, v3, v4, v5, v6, v7, v8, v9, v10, v11, v12, v13]) ∨ (On l 14 ∧ (∀ j, j < 14 → On l j) ∧ (∃ (W' : World) (pp : Option Addr) (qq : Nat) (pp2 : Option Addr) (qq2 : Nat), w' = (W'.setCell ⟨w2.heap.size, 0, none⟩ (.slice pp (k + 1) qq)).setCell ⟨w2.heap.size, 1, none⟩ (.slice pp2 0 qq2) ∧ Below wr.heap.size wr W' ∧ PmsAt W' pp (p.params.take k ++ [⟨q.name, q.ty⟩]) ∧ (∀ g i, pp = some ⟨g, i, none⟩ → w2.heap.size < g))))) (by kernel_rfl) ?_ ?_ ?_
      · intro l hl
        exact ⟨_, _, _, _, _, _, _, _, _, _, _, _, _, _, rfl, Or.inl ⟨hl 14, IS.start _ _ hl _⟩⟩
      · rintro l a w' ⟨v0, v1, v2, v3, v4, v5, v6, v7, v8, v9, v10, v11, v12, v13, rfl, hF⟩ i hi h0 hall
        have hF2 : i < 14 → ¬ On l 14 ∧ IS (P10 w.heap.size w2.heap.size (.agg #[.slice va k vc, .slice la 0 lc]) (.slice (some ⟨b3, i3, none⟩) m c1) i3 k b3 q.name q.ty (p.params.take k ++ [⟨q.name, q.ty⟩])) wr l w' [v0, v1, v2, v3, v4, v5, v6, v7, v8, v9, v10, v11, v12, v13] := fun h => hF.resolve_right (fun z => off_of h0 (z.2.1 i h))
        match i, hi, h0, hall, hF2 with
        | 0, _, h0, hall, hF2 =>
          obtain ⟨hn14, F⟩ := hF2 (by decide)
          have HN14 : Hid (¬ On (l.setIfInBounds 0 true) 14) := fun z => hn14 (((on_set h0 14).1 z).resolve_left (by decide))
          clear hF hF2 hn14
          have hxx := HBx.out.below F.bel
          have q0 := hxx.cell 0
          have q1 := hxx.cell 1
          simp only [List.getElem?_toArray, List.getElem?_cons_zero, List.getElem?_cons_succ] at q0 q1
          clear hxx
          have HF := Lib.hid (F.step P10.mono h0 (show 0 < 14 by decide) (Below.refl _ _) (x := .agg #[.slice va k vc, .slice la 0 lc]) rfl)
          clear F hall h0
          refine wpOp_step (by rfl) (fun K' hK => ?_)
          have HKk := Lib.hid hK
          clear hK
          go_simp
          exact HKk.out _ _ ⟨_, _, _, _, _, _, _, _, _, _, _, _, _, _, rfl, Or.inl ⟨HN14.out, HF.out⟩⟩
        | 1, _, h0, hall, hF2 =>
          obtain ⟨hn14, F⟩ := hF2 (by decide)
          have HN14 : Hid (¬ On (l.setIfInBounds 1 true) 14) := fun z => hn14 (((on_set h0 14).1 z).resolve_left (by decide))
          clear hF hF2 hn14
          have HF := Lib.hid (F.step P10.mono h0 (show 1 < 14 by decide) (Below.refl _ _) (x := .pointer (some ⟨w.heap.size, 1, none⟩)) rfl)
          clear F hall h0
          refine wpOp_step (by rfl) (fun K' hK => ?_)
          have HKk := Lib.hid hK
          clear hK
          go_simp
          exact HKk.out _ _ ⟨_, _, _, _, _, _, _, _, _, _, _, _, _, _, rfl, Or.inl ⟨HN14.out, HF.out⟩⟩
        | 2, _, h0, hall, hF2 =>
          obtain ⟨hn14, F⟩ := hF2 (by decide)
          have HN14 : Hid (¬ On (l.setIfInBounds 2 true) 14) := fun z => hn14 (((on_set h0 14).1 z).resolve_left (by decide))
          clear hF hF2 hn14
          obtain rfl : v1 = .pointer (some ⟨w.heap.size, 1, none⟩) := F.f 1 (hall 1 (by decide +kernel))
          have hxx := HX.out.below (below_2 HBw.out F.bel)
          have q1 := hxx.cell 1
          simp only [List.getElem?_toArray, List.getElem?_cons_zero, List.getElem?_cons_succ] at q1
          clear hxx
          have HF := Lib.hid (F.step P10.mono h0 (show 2 < 14 by decide) (Below.refl _ _) (x := (.slice (some ⟨b3, i3, none⟩) m c1)) rfl)
          clear F hall h0
          refine wpOp_step (by rfl) (fun K' hK => ?_)
          have HKk := Lib.hid hK
          clear hK
          go_simp
          exact HKk.out _ _ ⟨_, _, _, _, _, _, _, _, _, _, _, _, _, _, rfl, Or.inl ⟨HN14.out, HF.out⟩⟩
        | 3, _, h0, hall, hF2 =>
          obtain ⟨hn14, F⟩ := hF2 (by decide)
          have HN14 : Hid (¬ On (l.setIfInBounds 3 true) 14) := fun z => hn14 (((on_set h0 14).1 z).resolve_left (by decide))
          clear hF hF2 hn14
          have HF := Lib.hid (F.step P10.mono h0 (show 3 < 14 by decide) (Below.refl _ _) (x := .int .i64 (k : Int)) rfl)
          clear F hall h0
          refine wpOp_step (by rfl) (fun K' hK => ?_)
          have HKk := Lib.hid hK
          clear hK
          go_simp
          exact HKk.out _ _ ⟨_, _, _, _, _, _, _, _, _, _, _, _, _, _, rfl, Or.inl ⟨HN14.out, HF.out⟩⟩
        | 4, _, h0, hall, hF2 =>
          obtain ⟨hn14, F⟩ := hF2 (by decide)
          have HN14 : Hid (¬ On (l.setIfInBounds 4 true) 14) := fun z => hn14 (((on_set h0 14).1 z).resolve_left (by decide))
          clear hF hF2 hn14
          obtain rfl : v2 = (.slice (some ⟨b3, i3, none⟩) m c1) := F.f 2 (hall 2 (by decide +kernel))
          obtain rfl : v3 = .int .i64 (k : Int) := F.f 3 (hall 3 (by decide +kernel))
          have hix : 0 ≤ (k : Int) ∧ (k : Int) < m := ⟨by omega, by omega⟩
          have HF := Lib.hid (F.step P10.mono h0 (show 4 < 14 by decide) (Below.refl _ _) (x := .pointer (some ⟨b3, i3 + k * 2, none⟩)) rfl)
          clear F hall h0
          refine wpOp_step (by rfl) (fun K' hK => ?_)
          have HKk := Lib.hid hK
          clear hK
          go_simp
          exact HKk.out _ _ ⟨_, _, _, _, _, _, _, _, _, _, _, _, _, _, rfl, Or.inl ⟨HN14.out, HF.out⟩⟩
        | 5, _, h0, hall, hF2 =>
          obtain ⟨hn14, F⟩ := hF2 (by decide)
          have HN14 : Hid (¬ On (l.setIfInBounds 5 true) 14) := fun z => hn14 (((on_set h0 14).1 z).resolve_left (by decide))
          clear hF hF2 hn14
          obtain rfl : v4 = .pointer (some ⟨b3, i3 + k * 2, none⟩) := F.f 4 (hall 4 (by decide +kernel))
          have HF := Lib.hid (F.step P10.mono h0 (show 5 < 14 by decide) (Below.refl _ _) (x := .pointer (some ⟨b3, i3 + k * 2, none⟩)) rfl)
          clear F hall h0
          refine wpOp_step (by rfl) (fun K' hK => ?_)
          have HKk := Lib.hid hK
          clear hK
          go_simp
          exact HKk.out _ _ ⟨_, _, _, _, _, _, _, _, _, _, _, _, _, _, rfl, Or.inl ⟨HN14.out, HF.out⟩⟩
        | 6, _, h0, hall, hF2 =>
          obtain ⟨hn14, F⟩ := hF2 (by decide)
          have HN14 : Hid (¬ On (l.setIfInBounds 6 true) 14) := fun z => hn14 (((on_set h0 14).1 z).resolve_left (by decide))
          clear hF hF2 hn14
          obtain rfl : v5 = .pointer (some ⟨b3, i3 + k * 2, none⟩) := F.f 5 (hall 5 (by decide +kernel))
          have f0' := (F.bel.cell (block_lt_of_cell f0)).trans f0
          have HF := Lib.hid (F.step P10.mono h0 (show 6 < 14 by decide) (Below.refl _ _) (x := .string q.name) rfl)
          clear F hall h0
          refine wpOp_step (by rfl) (fun K' hK => ?_)
          have HKk := Lib.hid hK
          clear hK
          go_simp
          exact HKk.out _ _ ⟨_, _, _, _, _, _, _, _, _, _, _, _, _, _, rfl, Or.inl ⟨HN14.out, HF.out⟩⟩
        | 7, _, h0, hall, hF2 =>
          obtain ⟨hn14, F⟩ := hF2 (by decide)
          have HN14 : Hid (¬ On (l.setIfInBounds 7 true) 14) := fun z => hn14 (((on_set h0 14).1 z).resolve_left (by decide))
          clear hF hF2 hn14
          have HF := Lib.hid (F.step P10.mono h0 (show 7 < 14 by decide) (Below.refl _ _) (x := .pointer (some ⟨w.heap.size, 1, none⟩)) rfl)
          clear F hall h0
          refine wpOp_step (by rfl) (fun K' hK => ?_)
          have HKk := Lib.hid hK
          clear hK
          go_simp
          exact HKk.out _ _ ⟨_, _, _, _, _, _, _, _, _, _, _, _, _, _, rfl, Or.inl ⟨HN14.out, HF.out⟩⟩
        | 8, _, h0, hall, hF2 =>
          obtain ⟨hn14, F⟩ := hF2 (by decide)
          have HN14 : Hid (¬ On (l.setIfInBounds 8 true) 14) := fun z => hn14 (((on_set h0 14).1 z).resolve_left (by decide))
          clear hF hF2 hn14
          obtain rfl : v7 = .pointer (some ⟨w.heap.size, 1, none⟩) := F.f 7 (hall 7 (by decide +kernel))
          have hxx := HX.out.below (below_2 HBw.out F.bel)
          have q1 := hxx.cell 1
          simp only [List.getElem?_toArray, List.getElem?_cons_zero, List.getElem?_cons_succ] at q1
          clear hxx
          have HF := Lib.hid (F.step P10.mono h0 (show 8 < 14 by decide) (Below.refl _ _) (x := (.slice (some ⟨b3, i3, none⟩) m c1)) rfl)
          clear F hall h0
          refine wpOp_step (by rfl) (fun K' hK => ?_)
          have HKk := Lib.hid hK
          clear hK
          go_simp
          exact HKk.out _ _ ⟨_, _, _, _, _, _, _, _, _, _, _, _, _, _, rfl, Or.inl ⟨HN14.out, HF.out⟩⟩
        | 9, _, h0, hall, hF2 =>
          obtain ⟨hn14, F⟩ := hF2 (by decide)
          have HN14 : Hid (¬ On (l.setIfInBounds 9 true) 14) := fun z => hn14 (((on_set h0 14).1 z).resolve_left (by decide))
          clear hF hF2 hn14
          have HF := Lib.hid (F.step P10.mono h0 (show 9 < 14 by decide) (Below.refl _ _) (x := .int .i64 (k : Int)) rfl)
          clear F hall h0
          refine wpOp_step (by rfl) (fun K' hK => ?_)
          have HKk := Lib.hid hK
          clear hK
          go_simp
          exact HKk.out _ _ ⟨_, _, _, _, _, _, _, _, _, _, _, _, _, _, rfl, Or.inl ⟨HN14.out, HF.out⟩⟩
        | 10, _, h0, hall, hF2 =>
          obtain ⟨hn14, F⟩ := hF2 (by decide)
          have HN14 : Hid (¬ On (l.setIfInBounds 10 true) 14) := fun z => hn14 (((on_set h0 14).1 z).resolve_left (by decide))
          clear hF hF2 hn14
          obtain rfl : v8 = (.slice (some ⟨b3, i3, none⟩) m c1) := F.f 8 (hall 8 (by decide +kernel))
          obtain rfl : v9 = .int .i64 (k : Int) := F.f 9 (hall 9 (by decide +kernel))
          have hix : 0 ≤ (k : Int) ∧ (k : Int) < m := ⟨by omega, by omega⟩
          have HF := Lib.hid (F.step P10.mono h0 (show 10 < 14 by decide) (Below.refl _ _) (x := .pointer (some ⟨b3, i3 + k * 2, none⟩)) rfl)
          clear F hall h0
          refine wpOp_step (by rfl) (fun K' hK => ?_)
          have HKk := Lib.hid hK
          clear hK
          go_simp
          exact HKk.out _ _ ⟨_, _, _, _, _, _, _, _, _, _, _, _, _, _, rfl, Or.inl ⟨HN14.out, HF.out⟩⟩
        | 11, _, h0, hall, hF2 =>
          obtain ⟨hn14, F⟩ := hF2 (by decide)
          have HN14 : Hid (¬ On (l.setIfInBounds 11 true) 14) := fun z => hn14 (((on_set h0 14).1 z).resolve_left (by decide))
          clear hF hF2 hn14
          obtain rfl : v10 = .pointer (some ⟨b3, i3 + k * 2, none⟩) := F.f 10 (hall 10 (by decide +kernel))
          have HF := Lib.hid (F.step P10.mono h0 (show 11 < 14 by decide) (Below.refl _ _) (x := .pointer (some ⟨b3, i3 + k * 2 + 1, none⟩)) rfl)
          clear F hall h0
          refine wpOp_step (by rfl) (fun K' hK => ?_)
          have HKk := Lib.hid hK
          clear hK
          go_simp
          exact HKk.out _ _ ⟨_, _, _, _, _, _, _, _, _, _, _, _, _, _, rfl, Or.inl ⟨HN14.out, HF.out⟩⟩
        | 12, _, h0, hall, hF2 =>
          obtain ⟨hn14, F⟩ := hF2 (by decide)
          have HN14 : Hid (¬ On (l.setIfInBounds 12 true) 14) := fun z => hn14 (((on_set h0 14).1 z).resolve_left (by decide))
          clear hF hF2 hn14
          obtain rfl : v11 = .pointer (some ⟨b3, i3 + k * 2 + 1, none⟩) := F.f 11 (hall 11 (by decide +kernel))
          have f1' := (F.bel.cell (block_lt_of_cell f1)).trans f1
          have HF := Lib.hid (F.step P10.mono h0 (show 12 < 14 by decide) (Below.refl _ _) (x := .int .i64 q.ty) rfl)
          clear F hall h0
          refine wpOp_step (by rfl) (fun K' hK => ?_)
          have HKk := Lib.hid hK
          clear hK
          go_simp
          exact HKk.out _ _ ⟨_, _, _, _, _, _, _, _, _, _, _, _, _, _, rfl, Or.inl ⟨HN14.out, HF.out⟩⟩
        | 13, _, h0, hall, hF2 =>
          obtain ⟨hn14, F⟩ := hF2 (by decide)
          have HN14 : Hid (¬ On (l.setIfInBounds 13 true) 14) := fun z => hn14 (((on_set h0 14).1 z).resolve_left (by decide))
          clear hF hF2 hn14
          obtain rfl : v0 = .agg #[.slice va k vc, .slice la 0 lc] := F.f 0 (hall 0 (by decide +kernel))
          obtain rfl : v6 = .string q.name := F.f 6 (hall 6 (by decide +kernel))
          obtain rfl : v12 = .int .i64 q.ty := F.f 12 (hall 12 (by decide +kernel))
          have HC := Lib.hid (HWi.out w' F.bel)
          have HSZ : Hid (wr.heap.size ≤ w'.heap.size) := F.bel.size
          have HF := Lib.hid (fun w'' hb x hx => F.step P10.mono h0 (show 13 < 14 by decide) (w' := w'') hb (x := x) hx)
          clear F hall h0
          refine wpOp_step (by rfl) (fun K' hK => ?_)
          have HKk := Lib.hid hK
          clear hK
          go_simp
          go_at_call 36
          refine HC.out.mono ?_; rintro e' w5 ⟨p', q', p2', q2', rfl, hp', _, hf1, hf2, hb5⟩
          have HF5 := Lib.hid (HF.out w5 hb5 _ (show P10 _ _ _ _ _ _ _ _ _ _ 13 (.agg #[.slice p' (p.params.take k ++ [(⟨q.name, q.ty⟩ : Pm)]).length q', .slice p2' 0 q2']) w5 from ⟨p', q', p2', q2', by rw [HL5.out], hp', (fun g i hg => Nat.lt_of_lt_of_le HNW.out (Nat.le_trans HSZ.out (hf1 g i hg))), (fun g i hg => Nat.lt_of_lt_of_le HNW.out (Nat.le_trans HSZ.out (hf2 g i hg)))⟩))
          exact HKk.out _ _ ⟨_, _, _, _, _, _, _, _, _, _, _, _, _, _, rfl, Or.inl ⟨HN14.out, HF5.out⟩⟩
        | 14, _, h0, hall, _ =>
          obtain ⟨_, F⟩ := hF.resolve_right (fun z => off_of h0 z.1)
          obtain ⟨pp, qq, pp2, qq2, rfl, hp', hf1, hf2⟩ : ∃ p q p2 q2, v13 = .agg #[.slice p (k + 1) q, .slice p2 0 q2] ∧ PmsAt w' p _ ∧ (∀ g i, p = some ⟨g, i, none⟩ → w2.heap.size < g) ∧ (∀ g i, p2 = some ⟨g, i, none⟩ → w2.heap.size < g) := F.f 13 (hall 13 (by decide +kernel))
          have hxx := HBx.out.below F.bel
          have q0 := hxx.cell 0
          have q1 := hxx.cell 1
          have q2 := hxx.free 0
          have q3 := hxx.free 1
          simp only [List.getElem?_toArray, List.getElem?_cons_zero, List.getElem?_cons_succ] at q0 q1
          have HFin : Hid (On (l.setIfInBounds 14 true) 14 ∧ (∀ j, j < 14 → On (l.setIfInBounds 14 true) j) ∧ ∃ (W' : World) (pp' : Option Addr) (qq' : Nat) (pp2' : Option Addr) (qq2' : Nat), (w'.setCell ⟨w2.heap.size, 0, none⟩ (.slice pp (k + 1) qq)).setCell ⟨w2.heap.size, 1, none⟩ (.slice pp2 0 qq2) = (W'.setCell ⟨w2.heap.size, 0, none⟩ (.slice pp' (k + 1) qq')).setCell ⟨w2.heap.size, 1, none⟩ (.slice pp2' 0 qq2') ∧ Below wr.heap.size wr W' ∧ PmsAt W' pp' (p.params.take k ++ [⟨q.name, q.ty⟩]) ∧ (∀ g i, pp' = some ⟨g, i, none⟩ → w2.heap.size < g)) :=
            ⟨(on_set h0 14).2 (Or.inl rfl), (fun j hj => by
              refine (on_set h0 j).2 (Or.inr (hall j ?_))
              revert hj
              revert j
              decide +kernel), w', pp, qq, pp2, qq2, rfl, F.bel, hp', hf1⟩
          clear F hall h0 hxx hp' hf1 hf2 hF
          refine wpOp_step (by rfl) (fun K' hK => ?_)
          have HKk := Lib.hid hK
          clear hK
          go_simp
          exact HKk.out _ _ ⟨_, _, _, _, _, _, _, _, _, _, _, _, _, _, rfl, Or.inr HFin.out⟩
        | i + 15, hi, _, _, _ => exact absurd hi (by show ¬ (i + 15 < 15); omega)
      rintro l9 a wf ⟨r0, r1, r2, r3, r4, r5, r6, r7, r8, r9, r10, r11, r12, r13, rfl, hF⟩ hall
      obtain ⟨_, _, W', pp, qq, pp2, qq2, rfl, hbw, hpm, hff⟩ := hF.resolve_left (fun z => z.1 (hall 14 (by decide)))
      have HBx6 := Lib.hid (((HBx.out.below hbw).set 0 (u := .slice pp (k + 1) qq)).set 1 (u := .slice pp2 0 qq2))
      have HP6 : Hid (PmsAt ((W'.setCell ⟨w2.heap.size, 0, none⟩ (.slice pp (k + 1) qq)).setCell ⟨w2.heap.size, 1, none⟩ (.slice pp2 0 qq2)) pp (p.params.take (k + 1))) := by
        have h1 : p.params.take k ++ [(⟨q.name, q.ty⟩ : Pm)] = p.params.take (k + 1) := HTK.out.symm
        show PmsAt _ _ _
        rw [← h1]
        exact pms_put (pms_put hpm (fun g i hg => by have := hff g i hg; omega)) (fun g i hg => by have := hff g i hg; omega)
      have HB6 : Hid (Below w2.heap.size w2 ((W'.setCell ⟨w2.heap.size, 0, none⟩ (.slice pp (k + 1) qq)).setCell ⟨w2.heap.size, 1, none⟩ (.slice pp2 0 qq2))) := ((below_2 HBr.out hbw).setCell (Nat.le_refl _) _).setCell (Nat.le_refl _) _
      clear hF hall hbw hpm hff
      go_wp2_with fail
      go_roundw
      case rel => exact ⟨k + 1, pp, qq, pp2, qq2, by omega, by go_num, HQ2, HBx6, HP6, HB6⟩
      case measure => simp [intOf]; omega
    · have hkm : k = m := by omega
      subst hkm
      have hany : anyB p = false := by
        unfold anyB
        rw [List.any_eq_false]
        intro q hq
        have := HQ.out q (by rw [List.take_of_length_le (by rw [HM.out]; exact Nat.le_refl _)]; exact hq)
        rw [this]; decide
      have HR2 : Hid ((if rep [] (names p) = true then (8 : Int) else rfB p.params [] p.body) = R) := by
        have h := HR.out
        rw [if_neg (fun z => z rfl), hany, if_neg (by decide)] at h
        exact h
      have HPf : Hid (PmsAt wr va p.params) := by
        have := HP.out
        rw [List.take_of_length_le (by rw [HM.out]; exact Nat.le_refl _)] at this
        exact this
      have HN4 := Lib.hid (HNm.out wr (HK.out.below HBw.out))
      clear hany k0 k1
      go_wp2_with fail
      refine HN4.out.mono ?_; rintro e' w5 ⟨pn, qn, rfl, hq, hsn, hb5⟩
      have HSn := Lib.hid hsn
      have HB5 := Lib.hid (below_2 HBw.out hb5)
      have HPf5 := Lib.hid (HPf.out.below hb5)
      have HBx5 := Lib.hid (HBx.out.below hb5)
      have hnl := HNL.out
      clear hsn hb5 HN4 x0 x1 x2 z0 z1
      obtain ⟨nn, hnn⟩ : ∃ m, (names p).length = m := ⟨_, rfl⟩
      have HNN := Lib.hid hnn
      rw [hnn] at hnl hq ⊢
      clear hnn
      go_wp2_with fail
      go_loopw [7] (fun s7 wr => ∃ (i : Nat), i ≤ nn ∧ s7 = .int .i64 i ∧ Hid (∀ a (ha : a < (names p).length), a < i → ∀ b (hb : b < a), (names p)[b] ≠ (names p)[a]) ∧ Hid (Below w5.heap.size w5 wr)) (fun i _ => nn - (intOf i).toNat)
      case atStart => exact ⟨0, Nat.zero_le _, rfl, (fun a _ h => absurd h (Nat.not_lt_zero _)), Below.refl _ _⟩
      case round =>
        obtain ⟨i, hi, rfl, HD, HBi⟩ := hrel
        by_cases hlt2 : i < nn
        · have hlx : i < (names p).length := by rw [HNN.out]; exact hlt2
          have HLT := Lib.hid hlt2
          go_wp2_with fail
          go_loopw [8] (fun s8 wj => ∃ (j : Nat), j ≤ i ∧ s8 = .int .i64 j ∧ Hid (∀ b (hb : b < i), b < j → (names p)[b] ≠ (names p)[i]) ∧ Hid (Below w5.heap.size w5 wj)) (fun j _ => i - (intOf j).toNat)
          case atStart => exact ⟨0, Nat.zero_le _, rfl, (fun b _ h => absurd h (Nat.not_lt_zero _)), HBi.out⟩
          case round =>
            obtain ⟨j, hj, rfl, HDj, HBj⟩ := hrel
            by_cases hlt3 : j < i
            · have hly : j < (names p).length := by omega
              have HLT3 := Lib.hid hlt3
              have hjn : j < nn := by omega
              obtain ⟨bn, iN, rfl, hcn⟩ := (HSn.out.below HBj.out).open hlx
              have f0 := hcn i hlx
              have f1 := hcn j hly
              clear hcn
              by_cases he : (names p)[j] = (names p)[i]
              · have HW : Hid (8 = R) := by show _ = _; rw [← HR2.out, if_pos (isIn_takeN hlt3 hlx he)]
                rw [he] at f1
                clear he
                generalize (names p)[i] = y at f0 f1
                go_wp2_with fail
                go_quiet (fail)
                go_wp2_with fail
                go_ret
                exact ⟨ret_int HW.out, below_2 HB.out (below_2 HB5.out (below_2 HBj.out (A.below_dn _ _)))⟩
              · have HD2 : Hid (∀ b (hb : b < i), b < j + 1 → (names p)[b] ≠ (names p)[i]) := fun b hb h => by
                  by_cases e : b = j
                  · subst e; exact he
                  · exact HDj.out b hb (by omega)
                have bx := A.eql_no he
                obtain ⟨y, hy⟩ : ∃ y, (names p)[i] = y := ⟨_, rfl⟩
                obtain ⟨y2, hy2⟩ : ∃ y, (names p)[j] = y := ⟨_, rfl⟩
                rw [hy] at f0 bx
                rw [hy2] at f1 bx
                clear he hy hy2
                go_wp2_with fail
                go_quiet (fail)
                go_wp2_with fail
                go_roundw
                case rel => exact ⟨j + 1, HLT3.out, by go_num, HD2, below_2 HBj.out (A.below_dn _ _)⟩
                case measure => have := HLT3.out; simp [intOf]; omega
            · have HD3 : Hid (∀ a (ha : a < (names p).length), a < i + 1 → ∀ b (hb : b < a), (names p)[b] ≠ (names p)[a]) := fun a ha h b hb => by
                by_cases e : a = i
                · subst e; exact HDj.out b hb (by omega)
                · exact HD.out a ha (by omega) b hb
              go_wp2_with fail
              go_roundw
              case rel => exact ⟨i + 1, HLT.out, by go_num, HD3, HBj.out⟩
              case measure => have := HLT.out; simp [intOf]; omega
        · have HW : Hid (rfB p.params [] p.body = R) := by
            show _ = _
            rw [← HR2.out, if_neg (by rw [rep_no (fun a ha b hb => HD.out a ha (by have := HNN.out; omega) b hb)]; decide)]
          have hb6 := below_2 HB5.out HBi.out
          have hbx := HX.out.below hb6
          have x2 := hbx.cell 2
          have hz := HBx5.out.below HBi.out
          have z0 := hz.cell 0
          have z1 := hz.cell 1
          simp only [List.getElem?_toArray, List.getElem?_cons_zero, List.getElem?_cons_succ] at x2 z0 z1
          have HB6 := Lib.hid hb6
          have HBd6 := Lib.hid (HBd.out wr va vc la lc (HK.out.below hb6) (HPf5.out.below HBi.out))
          clear hbx hz hb6
          go_wp2_with fail
          refine HBd6.out.mono ?_; rintro e' w7 ⟨rfl, hb7⟩
          have HB7 := Lib.hid (below_2 HB6.out hb7)
          clear hb7
          go_wp2_with fail
          go_ret
          exact ⟨ret_int HW.out, below_2 HB.out HB7.out⟩
end Go.Proofs.YtgjnddjpinhkgaaDoor.Y
namespace Go.Proofs.YtgjnddjpinhkgaaDoor.Y
open Go.RowKit
open L (Str isName prt size_len below_2 below_box ret_bool ret_int eql_eq bytes_eq)
open A (Ex St Pm Pr Bx PmsAt StrsAt PrIn OkP prV prO names valE cB SmP small)
open P (On off_of wp_region_inv IS)
def PC (x : Value) (z : Int) : Nat → Value → World → Prop
  | 0, v, _ => v = x
  | 1, v, _ => v = .int .i64 z
  | 2, v, _ => v = x
  | 3, v, _ => v = .int .i64 z
  | 4, v, _ => v = .bool true
  | 5, v, _ => v = .bool true
  | 6, v, _ => v = .bool true
  | 7, v, _ => v = .bool true
  | 8, v, _ => v = .bool true
  | _, _, _ => True
theorem PC.mono {x : Value} {z : Int} : ∀ j v w w', PC x z j v w → Below w.heap.size w w' → PC x z j v w' := by
  intro j v w w' h _
  match j, h with
  | 0, h => exact h
  | 1, h => exact h
  | 2, h => exact h
  | 3, h => exact h
  | 4, h => exact h
  | 5, h => exact h
  | 6, h => exact h
  | 7, h => exact h
  | 8, h => exact h
  | _ + 9, _ => trivial
set_option maxHeartbeats 4000000 in
set_option maxRecDepth 100000 in
theorem lawChecks_any (p : Pr) (a1 a2 : Option Addr) (c1 c2 : Nat) (hok : OkP p) (hc1 : p.params.length ≤ c1) (w : World) (ht : Tb w) (hK : PrIn w p a1 a2) :
    Calls Tryd.prog 3 #[prV p a1 c1 a2 c2] w fun e' w' => e' = .returned (.bool true) ∧ Below w.heap.size w w' := by
  have hb := below_box w (prO p a1 c1 a2 c2)
  have hbx := Bx.new w #[.string p.name, .slice a1 p.params.length c1, .slice a2 p.body.length c2] 25
  have HS := Lib.hid (A.rsmall_any p a1 c1 a2 c2 1600 (by omega) hok _ (hK.below hb))
  have HW := Lib.hid works_any
  have HT := Lib.hid (ht.below hb)
  have HX := Lib.hid hbx
  have HK := Lib.hid (hK.below hb)
  have HB0 := Lib.hid hb
  have HC : Hid (small p 1600 = true → ∀ w', Tb w' → PrIn w' p a1 a2 → Calls Tryd.prog 12 #[prV p a1 c1 a2 c2] w' fun e' w'' => e' = .returned (.int .i64 (chk p).2) ∧ Below w'.heap.size w' w'') := fun h w' t k => by
    have s := A.small_smp h
    exact oCheck_any p a1 a2 c1 c2 hok (by have := s.body; omega) (by have := s.params; omega) (fun j hj => by have := s.each j hj; omega) hc1 w' t k
  have HR : Hid (small p 1600 = true → ∀ w', PrIn w' p a1 a2 → Calls Tryd.prog 13 #[prV p a1 c1 a2 c2] w' fun e' w'' => e' = .returned (.int .i64 (chk p).2) ∧ Below w'.heap.size w' w'') := fun h w' k => by
    have s := A.small_smp h
    rw [(chk_main p).1]
    exact rCheck_any p a1 a2 c1 c2 hok (by have := s.body; omega) (by have := s.params; omega) w' k
  unfold prV at HS HC HR ⊢
  unfold prO at *
  clear hb hbx hok hc1 ht hK
  generalize small p 1600 = sm at *
  generalize (chk p).2 = z at *
  cases sm with
  | false =>
    go_enter Tryd.func3, Tryd.ntmps3
    go_wp2_with fail
    refine HS.out.mono ?_; rintro e' w2 ⟨rfl, hb2⟩
    have HB2 := Lib.hid (below_2 HB0.out hb2)
    have HW2 := Lib.hid (HW.out w2 (HT.out.below hb2))
    clear hb2
    go_wp2_with fail
    refine HW2.out.mono ?_; rintro e' w3 ⟨rfl, hb3⟩
    have HB3 := Lib.hid (below_2 HB2.out hb3)
    clear hb3
    go_wp2_with fail
    go_ret
    exact ⟨rfl, HB3.out⟩
  | true =>
  have HC1 := Lib.hid (HC.out (by trivial))
  have HR1 := Lib.hid (HR.out (by trivial))
  go_enter Tryd.func3, Tryd.ntmps3
  go_wp2_with fail
  refine HS.out.mono ?_; rintro e' w2 ⟨rfl, hb2⟩
  have HB2 := Lib.hid hb2
  clear hb2 HC HR HS
  go_upto_region 3 with fail
  refine wp_region_inv rfl (fun l a w' => ∃ v0 v1 v2 v3 v4 v5 v6 v7 v8 : Value, a = { tmps := #[Value.agg #[Value.string p.name, Value.slice a1 p.params.length c1, Value.slice a2 p.body.length c2], Value.pointer (some { block := w.heap.size, off := 0 }), v8, Value.agg #[Value.string p.name, Value.slice a1 p.params.length c1, Value.slice a2 p.body.length c2], Value.bool true, Value.bool false, undef, v0, v1, v2, v3, v4, v5, v6, v7], defers := [] } ∧ IS (PC (.agg #[.string p.name, .slice a1 p.params.length c1, .slice a2 p.body.length c2]) z) w2 l w' [v0, v1, v2, v3, v4, v5, v6, v7, v8]) (by kernel_rfl) ?_ ?_ ?_
  · intro l hl
    exact ⟨_, _, _, _, _, _, _, _, _, rfl, IS.start _ _ hl _⟩
  · rintro l a w' ⟨v0, v1, v2, v3, v4, v5, v6, v7, v8, rfl, F⟩ i hi h0 hall
    match i, hi, h0, hall with
    | 0, _, h0, hall =>
      have hxx := HX.out.below (below_2 HB2.out F.bel)
      have q0 := hxx.cell 0
      have q1 := hxx.cell 1
      have q2 := hxx.cell 2
      simp only [List.getElem?_toArray, List.getElem?_cons_zero, List.getElem?_cons_succ] at q0 q1 q2
      clear hxx
      have HF := Lib.hid (F.step PC.mono h0 (show 0 < 9 by decide) (Below.refl _ _) (x := .agg #[.string p.name, .slice a1 p.params.length c1, .slice a2 p.body.length c2]) rfl)
      clear F hall h0
      refine wpOp_step (by rfl) (fun K' hK => ?_)
      have HKk := Lib.hid hK
      clear hK
      go_simp
      exact HKk.out _ _ ⟨_, _, _, _, _, _, _, _, _, rfl, HF.out⟩
    | 1, _, h0, hall =>
      obtain rfl : v0 = .agg #[.string p.name, .slice a1 p.params.length c1, .slice a2 p.body.length c2] := F.f 0 (hall 0 (by decide +kernel))
      have HC := Lib.hid (HC1.out w' (HT.out.below (below_2 HB2.out F.bel)) (HK.out.below (below_2 HB2.out F.bel)))
      have HF := Lib.hid (fun w'' hb x hx => F.step PC.mono h0 (show 1 < 9 by decide) (w' := w'') hb (x := x) hx)
      clear F hall h0
      refine wpOp_step (by rfl) (fun K' hK => ?_)
      have HKk := Lib.hid hK
      clear hK
      go_simp
      go_at_call 12
      refine HC.out.mono ?_; rintro e' w5 ⟨rfl, hb5⟩
      have HF5 := Lib.hid (HF.out w5 hb5 _ (show PC _ _ 1 (.int .i64 z) w5 from rfl))
      exact HKk.out _ _ ⟨_, _, _, _, _, _, _, _, _, rfl, HF5.out⟩
    | 2, _, h0, hall =>
      have hxx := HX.out.below (below_2 HB2.out F.bel)
      have q0 := hxx.cell 0
      have q1 := hxx.cell 1
      have q2 := hxx.cell 2
      simp only [List.getElem?_toArray, List.getElem?_cons_zero, List.getElem?_cons_succ] at q0 q1 q2
      clear hxx
      have HF := Lib.hid (F.step PC.mono h0 (show 2 < 9 by decide) (Below.refl _ _) (x := .agg #[.string p.name, .slice a1 p.params.length c1, .slice a2 p.body.length c2]) rfl)
      clear F hall h0
      refine wpOp_step (by rfl) (fun K' hK => ?_)
      have HKk := Lib.hid hK
      clear hK
      go_simp
      exact HKk.out _ _ ⟨_, _, _, _, _, _, _, _, _, rfl, HF.out⟩
    | 3, _, h0, hall =>
      obtain rfl : v2 = .agg #[.string p.name, .slice a1 p.params.length c1, .slice a2 p.body.length c2] := F.f 2 (hall 2 (by decide +kernel))
      have HC := Lib.hid (HR1.out w' (HK.out.below (below_2 HB2.out F.bel)))
      have HF := Lib.hid (fun w'' hb x hx => F.step PC.mono h0 (show 3 < 9 by decide) (w' := w'') hb (x := x) hx)
      clear F hall h0
      refine wpOp_step (by rfl) (fun K' hK => ?_)
      have HKk := Lib.hid hK
      clear hK
      go_simp
      go_at_call 13
      refine HC.out.mono ?_; rintro e' w5 ⟨rfl, hb5⟩
      have HF5 := Lib.hid (HF.out w5 hb5 _ (show PC _ _ 3 (.int .i64 z) w5 from rfl))
      exact HKk.out _ _ ⟨_, _, _, _, _, _, _, _, _, rfl, HF5.out⟩
    | 4, _, h0, hall =>
      obtain rfl : v1 = .int .i64 z := F.f 1 (hall 1 (by decide +kernel))
      obtain rfl : v3 = .int .i64 z := F.f 3 (hall 3 (by decide +kernel))
      have HF := Lib.hid (F.step PC.mono h0 (show 4 < 9 by decide) (Below.refl _ _) (x := .bool true) rfl)
      clear F hall h0
      refine wpOp_step (by rfl) (fun K' hK => ?_)
      have HKk := Lib.hid hK
      clear hK
      go_simp
      exact HKk.out _ _ ⟨_, _, _, _, _, _, _, _, _, rfl, HF.out⟩
    | 5, _, h0, hall =>
      obtain rfl : v4 = .bool true := F.f 4 (hall 4 (by decide +kernel))
      have HF := Lib.hid (F.step PC.mono h0 (show 5 < 9 by decide) (Below.refl _ _) (x := .bool true) rfl)
      clear F hall h0
      refine wpOp_step (by rfl) (fun K' hK => ?_)
      have HKk := Lib.hid hK
      clear hK
      go_simp
      exact HKk.out _ _ ⟨_, _, _, _, _, _, _, _, _, rfl, HF.out⟩
    | 6, _, h0, hall =>
      obtain rfl : v5 = .bool true := F.f 5 (hall 5 (by decide +kernel))
      have HC := Lib.hid (HW.out w' (HT.out.below (below_2 HB2.out F.bel)))
      have HF := Lib.hid (fun w'' hb x hx => F.step PC.mono h0 (show 6 < 9 by decide) (w' := w'') hb (x := x) hx)
      clear F hall h0
      refine wpOp_step (by rfl) (fun K' hK => ?_)
      have HKk := Lib.hid hK
      clear hK
      go_simp
      go_at_call 11
      refine HC.out.mono ?_; rintro e' w5 ⟨rfl, hb5⟩
      have HF5 := Lib.hid (HF.out w5 hb5 _ (show PC _ _ 6 (.bool true) w5 from rfl))
      exact HKk.out _ _ ⟨_, _, _, _, _, _, _, _, _, rfl, HF5.out⟩
    | 7, _, h0, hall =>
      obtain rfl : v5 = .bool true := F.f 5 (hall 5 (by decide +kernel))
      obtain rfl : v6 = .bool true := F.f 6 (hall 6 (by decide +kernel))
      have HF := Lib.hid (F.step PC.mono h0 (show 7 < 9 by decide) (Below.refl _ _) (x := .bool true) rfl)
      clear F hall h0
      refine wpOp_step (by rfl) (fun K' hK => ?_)
      have HKk := Lib.hid hK
      clear hK
      go_simp
      exact HKk.out _ _ ⟨_, _, _, _, _, _, _, _, _, rfl, HF.out⟩
    | 8, _, h0, hall =>
      obtain rfl : v7 = .bool true := F.f 7 (hall 7 (by decide +kernel))
      have HF := Lib.hid (F.step PC.mono h0 (show 8 < 9 by decide) (Below.refl _ _) (x := .bool true) rfl)
      clear F hall h0
      refine wpOp_step (by rfl) (fun K' hK => ?_)
      have HKk := Lib.hid hK
      clear hK
      go_simp
      exact HKk.out _ _ ⟨_, _, _, _, _, _, _, _, _, rfl, HF.out⟩
    | i + 9, hi, _, _ => exact absurd hi (by show ¬ (i + 9 < 9); omega)
  rintro l9 a wf ⟨r0, r1, r2, r3, r4, r5, r6, r7, r8, rfl, F⟩ hall
  obtain rfl : r8 = .bool true := F.f 8 (hall 8 (by decide))
  have HBf := Lib.hid (below_2 HB0.out (below_2 HB2.out F.bel))
  clear F hall
  go_wp2_with fail
  go_ret
  exact ⟨rfl, HBf.out⟩
end Go.Proofs.YtgjnddjpinhkgaaDoor.Y
namespace Go.Proofs.YtgjnddjpinhkgaaDoor.Y
open Go.RowKit
open L (Str isName prt size_len below_2 below_box ret_bool ret_int eql_eq bytes_eq)
open A (Ex St Pm Pr Bx PmsAt StrsAt PrIn OkP prV prO names valE cB plain)
open P (On off_of wp_region_inv IS)
set_option maxHeartbeats 4000000 in
set_option maxRecDepth 100000 in
theorem rfits_any (v : Vl) (ty : Int) (w : World) : Calls Tryd.prog 41 #[vlV v, .int .i64 ty] w fun e' w' => e' = .returned (.bool (fitsM v ty)) ∧ Below w.heap.size w w' := by
  obtain ⟨kd, n, s⟩ := v
  have hb := below_box w (.cells #[.int .i64 kd, .int .i64 n, .string s] 35)
  have HB := Lib.hid hb
  have HV := Lib.hid (A.rplain_any s (w.alloc (.cells #[.int .i64 kd, .int .i64 n, .string s] 35)))
  have hk1 : (kd == 1) = decide (kd = 1) := Bool.beq_eq_decide_eq _ _
  have hk2 : (kd == 2) = decide (kd = 2) := Bool.beq_eq_decide_eq _ _
  have hn0 : (n == 0) = decide (n = 0) := Bool.beq_eq_decide_eq _ _
  have hse : s.toList.isEmpty = decide (s = ⟨#[]⟩) := by
    rw [Lib.toList_data, Bool.eq_iff_iff, List.isEmpty_iff, decide_eq_true_iff]
    exact ⟨fun h => L.bytes_eq (by rw [h]), fun h => by rw [h]⟩
  by_cases ht : ty = 1
  · subst ht
    have hf : fitsM ⟨kd, n, s⟩ 1 = (decide (kd = 1) && decide (s = ⟨#[]⟩)) := by unfold fitsM; rw [if_pos rfl]
    rw [hf]
    generalize decide (kd = 1) = y1 at *
    generalize decide (s = ⟨#[]⟩) = y2 at *
    unfold vlV
    clear hf HV hb hk2 hn0
    have HSE := Lib.hid hse
    clear hse
    cases y1
    · go_enter Tryd.func41, Tryd.ntmps41
      go_wp2_with fail
      go_ret
      exact ⟨rfl, HB.out⟩
    · go_enter Tryd.func41, Tryd.ntmps41
      go_wp2_with fail
      go_ret
      exact ⟨ret_bool HSE.out, HB.out⟩
  · have hf : fitsM ⟨kd, n, s⟩ ty = (decide (kd = 2) && decide (n = 0) && plain s) := by unfold fitsM; rw [if_neg ht]
    have b1 : (ty == 1) = false := beq_eq_false_iff_ne.2 ht
    rw [hf]
    generalize decide (kd = 2) = y1 at *
    generalize decide (n = 0) = y2 at *
    generalize plain s = y3 at *
    unfold vlV
    clear hf hb hk1 hse ht
    cases y1
    · go_enter Tryd.func41, Tryd.ntmps41
      go_wp2_with fail
      go_ret
      exact ⟨rfl, HB.out⟩
    · cases y2
      · go_enter Tryd.func41, Tryd.ntmps41
        go_wp2_with fail
        go_ret
        exact ⟨rfl, HB.out⟩
      · go_enter Tryd.func41, Tryd.ntmps41
        go_wp2_with fail
        refine HV.out.mono ?_; rintro e' w2 ⟨rfl, rfl⟩
        go_wp2_with fail
        go_ret
        exact ⟨ret_bool (by simp), HB.out⟩
def PA (x y : Value) (b3 i3 b4 i4 k M : Nat) (v : Vl) (ty : Int) (r : Bool) : Nat → Value → World → Prop
  | 0, u, _ => u = x
  | 1, u, _ => u = .int .i64 (k : Int)
  | 2, u, _ => u = .pointer (some ⟨b3, i3 + k * 3, none⟩)
  | 3, u, _ => u = vlV v
  | 4, u, _ => u = .pointer (some ⟨M, 1, none⟩)
  | 5, u, _ => u = y
  | 6, u, _ => u = .int .i64 (k : Int)
  | 7, u, _ => u = .pointer (some ⟨b4, i4 + k * 2, none⟩)
  | 8, u, _ => u = .pointer (some ⟨b4, i4 + k * 2 + 1, none⟩)
  | 9, u, _ => u = .int .i64 ty
  | 10, u, _ => u = .bool r
  | 11, u, _ => u = .bool (!r)
  | _, _, _ => True
theorem PA.mono {x y : Value} {b3 i3 b4 i4 k M : Nat} {v : Vl} {ty : Int} {r : Bool} : ∀ j u w w', PA x y b3 i3 b4 i4 k M v ty r j u w → Below w.heap.size w w' → PA x y b3 i3 b4 i4 k M v ty r j u w' := by
  intro j u w w' h _
  match j, h with
  | 0, h => exact h
  | 1, h => exact h
  | 2, h => exact h
  | 3, h => exact h
  | 4, h => exact h
  | 5, h => exact h
  | 6, h => exact h
  | 7, h => exact h
  | 8, h => exact h
  | 9, h => exact h
  | 10, h => exact h
  | 11, h => exact h
  | _ + 12, _ => trivial
set_option maxHeartbeats 4000000 in
set_option maxRecDepth 100000 in
theorem rArgs_any (p : Pr) (a1 a2 : Option Addr) (c1 c2 : Nat) (hok : OkP p) (hsz : cB p.body ≤ 80000) (hpl : p.params.length ≤ 1000)
    (l : List Vl) (av : Option Addr) (cv : Nat) (hll : l.length ≤ 1000000) (w : World) (hK : PrIn w p a1 a2) (hKl : ValsAt w av l) :
    Calls Tryd.prog 18 #[prV p a1 c1 a2 c2, .slice av l.length cv] w fun e' w' => e' = .returned (.int .i64 (argE p l)) ∧ Below w.heap.size w w' := by
  have hb := below_box w (prO p a1 c1 a2 c2)
  have hbx := Bx.new w #[.string p.name, .slice a1 p.params.length c1, .slice a2 p.body.length c2] 25
  have HC := Lib.hid (rCheck_any p a1 a2 c1 c2 hok hsz hpl _ (hK.below hb))
  have HB := Lib.hid hb
  have HBX := Lib.hid hbx
  have HK := Lib.hid (hK.below hb).params
  have HKl := Lib.hid (hKl.below hb)
  have hae : argE p l = if (chk p).2 ≠ 0 ∨ l.length ≠ p.params.length then 1 else argF p.params l := rfl
  rw [(chk_main p).1] at hae
  obtain ⟨R, hR⟩ : ∃ R, argE p l = R := ⟨_, rfl⟩
  rw [hR] at hae ⊢
  have HA := Lib.hid hae
  generalize chkR p = x at *
  obtain ⟨m, hm⟩ : ∃ m, p.params.length = m := ⟨_, rfl⟩
  have HL := Lib.hid hm
  obtain ⟨ml, hml⟩ : ∃ ml, l.length = ml := ⟨_, rfl⟩
  have HLL := Lib.hid hml
  unfold prO at *
  unfold prV at *
  rw [hm] at HC HB HBX HK HKl HA hpl ⊢
  rw [hml] at HA hll ⊢
  clear hok hsz hK hb hbx hm hml hae hR hKl
  by_cases hx : x = 0
  case neg =>
    have b1 : (x != 0) = true := bne_iff_ne.2 hx
    have HR : Hid (R = 1) := by show _ = _; rw [HA.out, if_pos (Or.inl hx)]
    clear hx
    go_enter Tryd.func18, Tryd.ntmps18
    go_wp2_with fail
    refine HC.out.mono ?_; rintro e' w2 ⟨rfl, hb2⟩
    have HB2 := Lib.hid (below_2 HB.out hb2)
    clear hb2
    go_wp2_with fail
    go_ret
    exact ⟨ret_int HR.out.symm, HB2.out⟩
  rw [hx] at HC
  by_cases hlen : ml = m
  case neg =>
    have HR : Hid (R = 1) := by show _ = _; rw [HA.out, if_pos (Or.inr hlen)]
    have b2 : ((ml : Int) != (m : Int)) = true := bne_iff_ne.2 (by omega)
    clear hx hlen
    go_enter Tryd.func18, Tryd.ntmps18
    go_wp2_with fail
    refine HC.out.mono ?_; rintro e' w2 ⟨rfl, hb2⟩
    have HB2 := Lib.hid (below_2 HB.out hb2)
    have hbx2 := HBX.out.below hb2
    have x1 := hbx2.cell 1
    simp at x1
    clear hb2 hbx2
    go_wp2_with fail
    go_ret
    exact ⟨ret_int HR.out.symm, HB2.out⟩
  subst hlen
  have HR0 : Hid (argF (p.params.drop 0) (l.drop 0) = R) := by
    show argF p.params l = R
    rw [HA.out, if_neg (by rintro (z | z); exact z hx; exact z rfl)]
  clear hx HA
  go_enter Tryd.func18, Tryd.ntmps18
  go_wp2_with fail
  refine HC.out.mono ?_; rintro e' w2 ⟨rfl, hb2⟩
  have HB2 := Lib.hid (below_2 HB.out hb2)
  have HBX2 := Lib.hid (HBX.out.below hb2)
  have x1 := HBX2.out.cell 1
  simp at x1
  have HK2 := Lib.hid (HK.out.below hb2)
  have HKl2 := Lib.hid (HKl.out.below hb2)
  clear hb2
  go_wp2_with fail
  clear x1
  go_loopw [5] (fun s5 wr => ∃ k : Nat, k ≤ ml ∧ s5 = .int .i64 k ∧ Hid (argF (p.params.drop k) (l.drop k) = R) ∧ Hid (Below w2.heap.size w2 wr)) (fun s5 _ => ml - (intOf s5).toNat)
  case atStart => exact ⟨0, Nat.zero_le _, rfl, HR0, Below.refl _ _⟩
  case round =>
    obtain ⟨k, hk, rfl, HX, HBr⟩ := hrel
    by_cases hlt : k < ml
    · have hpx : k < p.params.length := by rw [HL.out]; exact hlt
      have hlx : k < l.length := by rw [HLL.out]; exact hlt
      have HLT := Lib.hid hlt
      obtain ⟨b4, i4, rfl, hcp⟩ := (HK2.out.below HBr.out).open hpx
      obtain ⟨f0, f1⟩ := hcp k hpx
      obtain ⟨b3, i3, rfl, hcl⟩ := (HKl2.out.below HBr.out).open hlx
      obtain ⟨g0, g1, g2⟩ := hcl k hlx
      have hx := HX.out
      rw [argF_drop hpx hlx] at hx
      have HF := Lib.hid (fun w' => rfits_any l[k] p.params[k].ty w')
      generalize l[k] = v at *
      generalize p.params[k].ty = ty at *
      generalize fitsM v ty = r at *
      have HX1 := Lib.hid hx
      clear hcp hcl hx f0
      go_upto_region 6 with fail
      refine wp_region_inv rfl (fun l a w' => ∃ v0 v1 v2 v3 v4 v5 v6 v7 v8 v9 v10 v11 : Value, a = { tmps := #[Value.agg #[Value.string p.name, Value.slice (some { block := b4, off := i4 }) ml c1, Value.slice a2 p.body.length c2], Value.slice (some { block := b3, off := i3 }) ml cv, Value.pointer (some { block := w.heap.size, off := 0 }), undef, u4, Value.int IntKind.i64 ↑k, Value.agg #[Value.string p.name, Value.slice (some { block := b4, off := i4 }) ml c1, Value.slice a2 p.body.length c2], Value.int IntKind.i64 0, Value.bool false, Value.bool false, Value.slice (some { block := b3, off := i3 }) ml cv, Value.int IntKind.i64 ↑ml, Value.pointer (some { block := w.heap.size, off := 1 }), Value.slice (some { block := b4, off := i4 }) ml c1, Value.int IntKind.i64 ↑ml, Value.bool false, Value.bool false, Value.int IntKind.i64 ↑k, Value.slice (some { block := b3, off := i3 }) ml cv, Value.int IntKind.i64 ↑ml, Value.bool true, u21, u22, v0, v1, v2, v3, v4, v5, v6, v7, v8, v9, v10, v11], defers := [] } ∧ IS (PA (.slice (some ⟨b3, i3, none⟩) ml cv) (.slice (some ⟨b4, i4, none⟩) ml c1) b3 i3 b4 i4 k w.heap.size v ty r) wr l w' [v0, v1, v2, v3, v4, v5, v6, v7, v8, v9, v10, v11]) (by kernel_rfl) ?_ ?_ ?_
      · intro l hl
        exact ⟨_, _, _, _, _, _, _, _, _, _, _, _, rfl, IS.start _ _ hl _⟩
      · rintro l a w' ⟨v0, v1, v2, v3, v4, v5, v6, v7, v8, v9, v10, v11, rfl, F⟩ i hi h0 hall
        match i, hi, h0, hall with
        | 0, _, h0, hall =>
          have HFs := Lib.hid (F.step PA.mono h0 (show 0 < 12 by decide) (Below.refl _ _) (x := (.slice (some ⟨b3, i3, none⟩) ml cv)) rfl)
          clear F hall h0
          refine wpOp_step (by rfl) (fun K' hK => ?_)
          have HKk := Lib.hid hK
          clear hK
          go_simp
          exact HKk.out _ _ ⟨_, _, _, _, _, _, _, _, _, _, _, _, rfl, HFs.out⟩
        | 1, _, h0, hall =>
          have HFs := Lib.hid (F.step PA.mono h0 (show 1 < 12 by decide) (Below.refl _ _) (x := .int .i64 (k : Int)) rfl)
          clear F hall h0
          refine wpOp_step (by rfl) (fun K' hK => ?_)
          have HKk := Lib.hid hK
          clear hK
          go_simp
          exact HKk.out _ _ ⟨_, _, _, _, _, _, _, _, _, _, _, _, rfl, HFs.out⟩
        | 2, _, h0, hall =>
          obtain rfl : v0 = (.slice (some ⟨b3, i3, none⟩) ml cv) := F.f 0 (hall 0 (by decide +kernel))
          obtain rfl : v1 = .int .i64 (k : Int) := F.f 1 (hall 1 (by decide +kernel))
          have hix : 0 ≤ (k : Int) ∧ (k : Int) < ml := ⟨by omega, by have := HLT.out; omega⟩
          have HFs := Lib.hid (F.step PA.mono h0 (show 2 < 12 by decide) (Below.refl _ _) (x := .pointer (some ⟨b3, i3 + k * 3, none⟩)) rfl)
          clear F hall h0
          refine wpOp_step (by rfl) (fun K' hK => ?_)
          have HKk := Lib.hid hK
          clear hK
          go_simp
          exact HKk.out _ _ ⟨_, _, _, _, _, _, _, _, _, _, _, _, rfl, HFs.out⟩
        | 3, _, h0, hall =>
          obtain rfl : v2 = .pointer (some ⟨b3, i3 + k * 3, none⟩) := F.f 2 (hall 2 (by decide +kernel))
          have q0 := (F.bel.cell (block_lt_of_cell g0)).trans g0
          have q1 := (F.bel.cell (block_lt_of_cell g1)).trans g1
          have q2 := (F.bel.cell (block_lt_of_cell g2)).trans g2
          have HFs := Lib.hid (F.step PA.mono h0 (show 3 < 12 by decide) (Below.refl _ _) (x := vlV v) rfl)
          clear F hall h0
          refine wpOp_step (by rfl) (fun K' hK => ?_)
          have HKk := Lib.hid hK
          clear hK
          go_simp
          exact HKk.out _ _ ⟨_, _, _, _, _, _, _, _, _, _, _, _, rfl, HFs.out⟩
        | 4, _, h0, hall =>
          have HFs := Lib.hid (F.step PA.mono h0 (show 4 < 12 by decide) (Below.refl _ _) (x := .pointer (some ⟨w.heap.size, 1, none⟩)) rfl)
          clear F hall h0
          refine wpOp_step (by rfl) (fun K' hK => ?_)
          have HKk := Lib.hid hK
          clear hK
          go_simp
          exact HKk.out _ _ ⟨_, _, _, _, _, _, _, _, _, _, _, _, rfl, HFs.out⟩
        | 5, _, h0, hall =>
          obtain rfl : v4 = .pointer (some ⟨w.heap.size, 1, none⟩) := F.f 4 (hall 4 (by decide +kernel))
          have hxx := (HBX2.out.below HBr.out).below F.bel
          have q1 := hxx.cell 1
          simp only [List.getElem?_toArray, List.getElem?_cons_zero, List.getElem?_cons_succ] at q1
          clear hxx
          have HFs := Lib.hid (F.step PA.mono h0 (show 5 < 12 by decide) (Below.refl _ _) (x := (.slice (some ⟨b4, i4, none⟩) ml c1)) rfl)
          clear F hall h0
          refine wpOp_step (by rfl) (fun K' hK => ?_)
          have HKk := Lib.hid hK
          clear hK
          go_simp
          exact HKk.out _ _ ⟨_, _, _, _, _, _, _, _, _, _, _, _, rfl, HFs.out⟩
        | 6, _, h0, hall =>
          have HFs := Lib.hid (F.step PA.mono h0 (show 6 < 12 by decide) (Below.refl _ _) (x := .int .i64 (k : Int)) rfl)
          clear F hall h0
          refine wpOp_step (by rfl) (fun K' hK => ?_)
          have HKk := Lib.hid hK
          clear hK
          go_simp
          exact HKk.out _ _ ⟨_, _, _, _, _, _, _, _, _, _, _, _, rfl, HFs.out⟩
        | 7, _, h0, hall =>
          obtain rfl : v5 = (.slice (some ⟨b4, i4, none⟩) ml c1) := F.f 5 (hall 5 (by decide +kernel))
          obtain rfl : v6 = .int .i64 (k : Int) := F.f 6 (hall 6 (by decide +kernel))
          have hix : 0 ≤ (k : Int) ∧ (k : Int) < ml := ⟨by omega, by have := HLT.out; omega⟩
          have HFs := Lib.hid (F.step PA.mono h0 (show 7 < 12 by decide) (Below.refl _ _) (x := .pointer (some ⟨b4, i4 + k * 2, none⟩)) rfl)
          clear F hall h0
          refine wpOp_step (by rfl) (fun K' hK => ?_)
          have HKk := Lib.hid hK
          clear hK
          go_simp
          exact HKk.out _ _ ⟨_, _, _, _, _, _, _, _, _, _, _, _, rfl, HFs.out⟩
        | 8, _, h0, hall =>
          obtain rfl : v7 = .pointer (some ⟨b4, i4 + k * 2, none⟩) := F.f 7 (hall 7 (by decide +kernel))
          have HFs := Lib.hid (F.step PA.mono h0 (show 8 < 12 by decide) (Below.refl _ _) (x := .pointer (some ⟨b4, i4 + k * 2 + 1, none⟩)) rfl)
          clear F hall h0
          refine wpOp_step (by rfl) (fun K' hK => ?_)
          have HKk := Lib.hid hK
          clear hK
          go_simp
          exact HKk.out _ _ ⟨_, _, _, _, _, _, _, _, _, _, _, _, rfl, HFs.out⟩
        | 9, _, h0, hall =>
          obtain rfl : v8 = .pointer (some ⟨b4, i4 + k * 2 + 1, none⟩) := F.f 8 (hall 8 (by decide +kernel))
          have q1 := (F.bel.cell (block_lt_of_cell f1)).trans f1
          have HFs := Lib.hid (F.step PA.mono h0 (show 9 < 12 by decide) (Below.refl _ _) (x := .int .i64 ty) rfl)
          clear F hall h0
          refine wpOp_step (by rfl) (fun K' hK => ?_)
          have HKk := Lib.hid hK
          clear hK
          go_simp
          exact HKk.out _ _ ⟨_, _, _, _, _, _, _, _, _, _, _, _, rfl, HFs.out⟩
        | 10, _, h0, hall =>
          obtain rfl : v3 = vlV v := F.f 3 (hall 3 (by decide +kernel))
          obtain rfl : v9 = .int .i64 ty := F.f 9 (hall 9 (by decide +kernel))
          have HC := Lib.hid (HF.out w')
          have HFs := Lib.hid (fun w'' hb x hx => F.step PA.mono h0 (show 10 < 12 by decide) (w' := w'') hb (x := x) hx)
          clear F hall h0
          refine wpOp_step (by rfl) (fun K' hK => ?_)
          have HKk := Lib.hid hK
          clear hK
          go_simp
          go_at_call 41
          refine HC.out.mono ?_; rintro e' w5 ⟨rfl, hb5⟩
          have HF5 := Lib.hid (HFs.out w5 hb5 _ (show PA _ _ _ _ _ _ _ _ _ _ _ 10 (.bool r) w5 from rfl))
          exact HKk.out _ _ ⟨_, _, _, _, _, _, _, _, _, _, _, _, rfl, HF5.out⟩
        | 11, _, h0, hall =>
          obtain rfl : v10 = .bool r := F.f 10 (hall 10 (by decide +kernel))
          have HFs := Lib.hid (F.step PA.mono h0 (show 11 < 12 by decide) (Below.refl _ _) (x := .bool (!r)) rfl)
          clear F hall h0
          refine wpOp_step (by rfl) (fun K' hK => ?_)
          have HKk := Lib.hid hK
          clear hK
          go_simp
          exact HKk.out _ _ ⟨_, _, _, _, _, _, _, _, _, _, _, _, rfl, HFs.out⟩
        | i + 12, hi, _, _ => exact absurd hi (by show ¬ (i + 12 < 12); omega)
      rintro l9 a wf ⟨r0, r1, r2, r3, r4, r5, r6, r7, r8, r9, r10, r11, rfl, F⟩ hall
      obtain rfl : r11 = .bool (!r) := F.f 11 (hall 11 (by decide))
      have HBf := Lib.hid (below_2 HBr.out F.bel)
      clear F hall
      cases r with
      | false =>
        have HV : Hid (10 = R) := HX1.out
        go_wp2_with fail
        go_ret
        exact ⟨ret_int HV.out, below_2 HB2.out HBf.out⟩
      | true =>
        have HX2 : Hid (argF (p.params.drop (k + 1)) (l.drop (k + 1)) = R) := HX1.out
        go_wp2_with fail
        go_roundw
        case rel => exact ⟨k + 1, HLT.out, by go_num, HX2, HBf.out⟩
        case measure => have := HLT.out; simp [intOf]; omega
    · have hx := HX.out
      rw [List.drop_of_length_le (by have := HL.out; omega), argF] at hx
      have HV : Hid (0 = R) := hx
      clear hx
      go_wp2_with fail
      go_ret
      exact ⟨ret_int HV.out, below_2 HB2.out HBr.out⟩
end Go.Proofs.YtgjnddjpinhkgaaDoor.Y
namespace Go.Proofs.YtgjnddjpinhkgaaDoor.Y
open Go.RowKit
open L (Str isName prt size_len below_2 below_box ret_bool ret_int eql_eq bytes_eq)
open A (Ex St Pm Pr Bx PmsAt StrsAt PrIn OkP prV prO names valE cB SmP small)
open P (On off_of wp_region_inv IS)
def PD (x y : Value) (z : Int) : Nat → Value → World → Prop
  | 0, v, _ => v = x
  | 1, v, _ => v = y
  | 2, v, _ => v = .int .i64 z
  | 3, v, _ => v = x
  | 4, v, _ => v = y
  | 5, v, _ => v = .int .i64 z
  | 6, v, _ => v = .bool true
  | 7, v, _ => v = .bool true
  | 8, v, _ => v = .bool true
  | 9, v, _ => v = .bool true
  | 10, v, _ => v = .bool true
  | _, _, _ => True
theorem PD.mono {x y : Value} {z : Int} : ∀ j v w w', PD x y z j v w → Below w.heap.size w w' → PD x y z j v w' := by
  intro j v w w' h _
  match j, h with
  | 0, h => exact h
  | 1, h => exact h
  | 2, h => exact h
  | 3, h => exact h
  | 4, h => exact h
  | 5, h => exact h
  | 6, h => exact h
  | 7, h => exact h
  | 8, h => exact h
  | 9, h => exact h
  | 10, h => exact h
  | _ + 11, _ => trivial
set_option maxHeartbeats 4000000 in
set_option maxRecDepth 100000 in
theorem lawArgs_any (p : Pr) (a1 a2 : Option Addr) (c1 c2 : Nat) (hok : OkP p) (hc1 : p.params.length ≤ c1) (l : List Vl) (av : Option Addr) (cv : Nat) (w : World) (ht : Tb w) (hK : PrIn w p a1 a2) (hKl : ValsAt w av l) :
    Calls Tryd.prog 5 #[prV p a1 c1 a2 c2, .slice av l.length cv] w fun e' w' => e' = .returned (.bool true) ∧ Below w.heap.size w w' := by
  have hb := below_box w (prO p a1 c1 a2 c2)
  have hbx := Bx.new w #[.string p.name, .slice a1 p.params.length c1, .slice a2 p.body.length c2] 25
  have HS := Lib.hid (A.rsmall_any p a1 c1 a2 c2 600 (by omega) hok _ (hK.below hb))
  have HW := Lib.hid works_any
  have HT := Lib.hid (ht.below hb)
  have HX := Lib.hid hbx
  have HK := Lib.hid (hK.below hb)
  have HKl := Lib.hid (hKl.below hb)
  have HB0 := Lib.hid hb
  have HC : Hid (small p 600 = true → l.length ≤ 40 → (∀ v ∈ l, v.s.size ≤ 300) → ∀ w', Tb w' → PrIn w' p a1 a2 → ValsAt w' av l → Calls Tryd.prog 17 #[prV p a1 c1 a2 c2, .slice av l.length cv] w' fun e' w'' => e' = .returned (.int .i64 (argE p l)) ∧ Below w'.heap.size w' w'') := fun h h1 h2 w' t k kl => by
    have s := A.small_smp h
    exact oArgs_any p a1 a2 c1 c2 hok (by have := s.body; omega) (by have := s.params; omega) (fun j hj => by have := s.each j hj; omega) hc1 l av cv (by omega) (fun v hv => by have := h2 v hv; omega) w' t k kl
  have HR : Hid (small p 600 = true → l.length ≤ 40 → ∀ w', PrIn w' p a1 a2 → ValsAt w' av l → Calls Tryd.prog 18 #[prV p a1 c1 a2 c2, .slice av l.length cv] w' fun e' w'' => e' = .returned (.int .i64 (argE p l)) ∧ Below w'.heap.size w' w'') := fun h h1 w' k kl => by
    have s := A.small_smp h
    exact rArgs_any p a1 a2 c1 c2 hok (by have := s.body; omega) (by have := s.params; omega) l av cv (by omega) w' k kl
  obtain ⟨ml, hml⟩ : ∃ m, l.length = m := ⟨_, rfl⟩
  have HLL := Lib.hid hml
  rw [hml] at HC HR ⊢
  unfold prV at HS HC HR ⊢
  unfold prO at *
  clear hb hbx hok hc1 ht hK hKl hml
  generalize small p 600 = sm at *
  generalize argE p l = z at *
  cases sm with
  | false =>
    go_enter Tryd.func5, Tryd.ntmps5
    go_wp2_with fail
    refine HS.out.mono ?_; rintro e' w2 ⟨rfl, hb2⟩
    have HB2 := Lib.hid (below_2 HB0.out hb2)
    have HW2 := Lib.hid (HW.out w2 (HT.out.below hb2))
    clear hb2
    go_wp2_with fail
    refine HW2.out.mono ?_; rintro e' w3 ⟨rfl, hb3⟩
    have HB3 := Lib.hid (below_2 HB2.out hb3)
    clear hb3
    go_wp2_with fail
    go_ret
    exact ⟨rfl, HB3.out⟩
  | true =>
  by_cases h40 : 40 < ml
  · have b4 : decide ((ml : Int) > 40) = true := decide_eq_true (by omega)
    go_enter Tryd.func5, Tryd.ntmps5
    go_wp2_with fail
    refine HS.out.mono ?_; rintro e' w2 ⟨rfl, hb2⟩
    have HB2 := Lib.hid (below_2 HB0.out hb2)
    have HW2 := Lib.hid (HW.out w2 (HT.out.below hb2))
    clear hb2
    go_wp2_with fail
    refine HW2.out.mono ?_; rintro e' w3 ⟨rfl, hb3⟩
    have HB3 := Lib.hid (below_2 HB2.out hb3)
    clear hb3
    go_wp2_with fail
    go_ret
    exact ⟨rfl, HB3.out⟩
  have b4 : decide ((ml : Int) > 40) = false := decide_eq_false (by omega)
  have hm40 : ml ≤ 40 := by omega
  have HC1 := Lib.hid (HC.out rfl (by omega))
  have HR1 := Lib.hid (HR.out rfl (by omega))
  clear HC HR
  go_enter Tryd.func5, Tryd.ntmps5
  go_wp2_with fail
  refine HS.out.mono ?_; rintro e' w2 ⟨rfl, hb2⟩
  have HB2 := Lib.hid hb2
  have HKl2 := Lib.hid (HKl.out.below hb2)
  clear hb2 HS
  go_wp2_with fail
  go_loopw [5] (fun s5 wr => ∃ k : Nat, k ≤ ml ∧ s5 = .int .i64 k ∧ Hid (∀ j (h : j < l.length), j < k → l[j].s.size ≤ 300) ∧ wr = w2) (fun s5 _ => ml - (intOf s5).toNat)
  case atStart => exact ⟨0, Nat.zero_le _, rfl, (fun j _ h => absurd h (Nat.not_lt_zero _)), rfl⟩
  case round =>
    obtain ⟨k, hk, rfl, HQ, rfl⟩ := hrel
    by_cases hlt : k < ml
    · have hlx : k < l.length := by rw [HLL.out]; exact hlt
      have HLT := Lib.hid hlt
      obtain ⟨b3, i3, rfl, hcl⟩ := HKl2.out.open hlx
      obtain ⟨g0, g1, g2⟩ := hcl k hlx
      clear hcl g0 g1
      have HQ2 : Hid (l[k].s.size ≤ 300 → ∀ j (h : j < l.length), j < k + 1 → l[j].s.size ≤ 300) := fun hs j h hj => by
        by_cases e : j = k
        · subst e; exact hs
        · exact HQ.out j h (by omega)
      generalize l[k].s = s at g2 HQ2
      by_cases h3 : 300 < s.size
      · have b5 : decide ((s.size : Int) > 300) = true := decide_eq_true (by omega)
        have HW2 := Lib.hid (HW.out wr (HT.out.below HB2.out))
        go_wp2_with fail
        refine HW2.out.mono ?_; rintro e' w3 ⟨rfl, hb3⟩
        have HB3 := Lib.hid (below_2 HB0.out (below_2 HB2.out hb3))
        clear hb3
        go_wp2_with fail
        go_ret
        exact ⟨rfl, HB3.out⟩
      · have b5 : decide ((s.size : Int) > 300) = false := decide_eq_false (by omega)
        have HQ3 := Lib.hid (HQ2.out (by omega))
        clear HQ2 h3
        go_wp2_with fail
        go_roundw
        case rel => exact ⟨k + 1, HLT.out, by go_num, HQ3.out, trivial⟩
        case measure => have := HLT.out; simp [intOf]; omega
    · have HC2 := Lib.hid (HC1.out (fun v hv => by
        obtain ⟨j, hj, rfl⟩ := List.getElem_of_mem hv
        exact HQ.out j hj (by have := HLL.out; omega)))
      clear HC1 HQ
      go_upto_region 8 with fail
      refine wp_region_inv rfl (fun l a w' => ∃ v0 v1 v2 v3 v4 v5 v6 v7 v8 v9 v10 : Value, a = { tmps := #[Value.agg #[Value.string p.name, Value.slice a1 p.params.length c1, Value.slice a2 p.body.length c2], Value.slice av ml cv, Value.pointer (some { block := w.heap.size, off := 0 }), undef, v10, Value.int IntKind.i64 ↑k, Value.agg #[Value.string p.name, Value.slice a1 p.params.length c1, Value.slice a2 p.body.length c2], Value.bool true, Value.bool false, Value.bool false, Value.slice av ml cv, Value.int IntKind.i64 ↑ml, Value.bool false, Value.bool false, undef, Value.int IntKind.i64 ↑k, Value.slice av ml cv, Value.int IntKind.i64 ↑ml, Value.bool false, u19, u20, u21, u22, u23, u24, u25, u26, u27, u28, v0, v1, v2, v3, v4, v5, v6, v7, v8, v9], defers := [] } ∧ IS (PD (.agg #[.string p.name, .slice a1 p.params.length c1, .slice a2 p.body.length c2]) (.slice av ml cv) z) wr l w' [v0, v1, v2, v3, v4, v5, v6, v7, v8, v9, v10]) (by kernel_rfl) ?_ ?_ ?_
      · intro l hl
        exact ⟨_, _, _, _, _, _, _, _, _, _, _, rfl, IS.start _ _ hl _⟩
      · rintro l a w' ⟨v0, v1, v2, v3, v4, v5, v6, v7, v8, v9, v10, rfl, F⟩ i hi h0 hall
        match i, hi, h0, hall with
        | 0, _, h0, hall =>
          have hxx := HX.out.below (below_2 HB2.out F.bel)
          have q0 := hxx.cell 0
          have q1 := hxx.cell 1
          have q2 := hxx.cell 2
          simp only [List.getElem?_toArray, List.getElem?_cons_zero, List.getElem?_cons_succ] at q0 q1 q2
          clear hxx
          have HF := Lib.hid (F.step PD.mono h0 (show 0 < 11 by decide) (Below.refl _ _) (x := .agg #[.string p.name, .slice a1 p.params.length c1, .slice a2 p.body.length c2]) rfl)
          clear F hall h0
          refine wpOp_step (by rfl) (fun K' hK => ?_)
          have HKk := Lib.hid hK
          clear hK
          go_simp
          exact HKk.out _ _ ⟨_, _, _, _, _, _, _, _, _, _, _, rfl, HF.out⟩
        | 1, _, h0, hall =>
          have HF := Lib.hid (F.step PD.mono h0 (show 1 < 11 by decide) (Below.refl _ _) (x := .slice av ml cv) rfl)
          clear F hall h0
          refine wpOp_step (by rfl) (fun K' hK => ?_)
          have HKk := Lib.hid hK
          clear hK
          go_simp
          exact HKk.out _ _ ⟨_, _, _, _, _, _, _, _, _, _, _, rfl, HF.out⟩
        | 2, _, h0, hall =>
          obtain rfl : v0 = .agg #[.string p.name, .slice a1 p.params.length c1, .slice a2 p.body.length c2] := F.f 0 (hall 0 (by decide +kernel))
          obtain rfl : v1 = .slice av ml cv := F.f 1 (hall 1 (by decide +kernel))
          have HC := Lib.hid (HC2.out w' (HT.out.below (below_2 HB2.out F.bel)) (HK.out.below (below_2 HB2.out F.bel)) (HKl2.out.below F.bel))
          have HF := Lib.hid (fun w'' hb x hx => F.step PD.mono h0 (show 2 < 11 by decide) (w' := w'') hb (x := x) hx)
          clear F hall h0
          refine wpOp_step (by rfl) (fun K' hK => ?_)
          have HKk := Lib.hid hK
          clear hK
          go_simp
          go_at_call 17
          refine HC.out.mono ?_; rintro e' w5 ⟨rfl, hb5⟩
          have HF5 := Lib.hid (HF.out w5 hb5 _ (show PD _ _ _ 2 (.int .i64 z) w5 from rfl))
          exact HKk.out _ _ ⟨_, _, _, _, _, _, _, _, _, _, _, rfl, HF5.out⟩
        | 3, _, h0, hall =>
          have hxx := HX.out.below (below_2 HB2.out F.bel)
          have q0 := hxx.cell 0
          have q1 := hxx.cell 1
          have q2 := hxx.cell 2
          simp only [List.getElem?_toArray, List.getElem?_cons_zero, List.getElem?_cons_succ] at q0 q1 q2
          clear hxx
          have HF := Lib.hid (F.step PD.mono h0 (show 3 < 11 by decide) (Below.refl _ _) (x := .agg #[.string p.name, .slice a1 p.params.length c1, .slice a2 p.body.length c2]) rfl)
          clear F hall h0
          refine wpOp_step (by rfl) (fun K' hK => ?_)
          have HKk := Lib.hid hK
          clear hK
          go_simp
          exact HKk.out _ _ ⟨_, _, _, _, _, _, _, _, _, _, _, rfl, HF.out⟩
        | 4, _, h0, hall =>
          have HF := Lib.hid (F.step PD.mono h0 (show 4 < 11 by decide) (Below.refl _ _) (x := .slice av ml cv) rfl)
          clear F hall h0
          refine wpOp_step (by rfl) (fun K' hK => ?_)
          have HKk := Lib.hid hK
          clear hK
          go_simp
          exact HKk.out _ _ ⟨_, _, _, _, _, _, _, _, _, _, _, rfl, HF.out⟩
        | 5, _, h0, hall =>
          obtain rfl : v3 = .agg #[.string p.name, .slice a1 p.params.length c1, .slice a2 p.body.length c2] := F.f 3 (hall 3 (by decide +kernel))
          obtain rfl : v4 = .slice av ml cv := F.f 4 (hall 4 (by decide +kernel))
          have HC := Lib.hid (HR1.out w' (HK.out.below (below_2 HB2.out F.bel)) (HKl2.out.below F.bel))
          have HF := Lib.hid (fun w'' hb x hx => F.step PD.mono h0 (show 5 < 11 by decide) (w' := w'') hb (x := x) hx)
          clear F hall h0
          refine wpOp_step (by rfl) (fun K' hK => ?_)
          have HKk := Lib.hid hK
          clear hK
          go_simp
          go_at_call 18
          refine HC.out.mono ?_; rintro e' w5 ⟨rfl, hb5⟩
          have HF5 := Lib.hid (HF.out w5 hb5 _ (show PD _ _ _ 5 (.int .i64 z) w5 from rfl))
          exact HKk.out _ _ ⟨_, _, _, _, _, _, _, _, _, _, _, rfl, HF5.out⟩
        | 6, _, h0, hall =>
          obtain rfl : v2 = .int .i64 z := F.f 2 (hall 2 (by decide +kernel))
          obtain rfl : v5 = .int .i64 z := F.f 5 (hall 5 (by decide +kernel))
          have HF := Lib.hid (F.step PD.mono h0 (show 6 < 11 by decide) (Below.refl _ _) (x := .bool true) rfl)
          clear F hall h0
          refine wpOp_step (by rfl) (fun K' hK => ?_)
          have HKk := Lib.hid hK
          clear hK
          go_simp
          exact HKk.out _ _ ⟨_, _, _, _, _, _, _, _, _, _, _, rfl, HF.out⟩
        | 7, _, h0, hall =>
          obtain rfl : v6 = .bool true := F.f 6 (hall 6 (by decide +kernel))
          have HF := Lib.hid (F.step PD.mono h0 (show 7 < 11 by decide) (Below.refl _ _) (x := .bool true) rfl)
          clear F hall h0
          refine wpOp_step (by rfl) (fun K' hK => ?_)
          have HKk := Lib.hid hK
          clear hK
          go_simp
          exact HKk.out _ _ ⟨_, _, _, _, _, _, _, _, _, _, _, rfl, HF.out⟩
        | 8, _, h0, hall =>
          obtain rfl : v7 = .bool true := F.f 7 (hall 7 (by decide +kernel))
          have HC := Lib.hid (HW.out w' (HT.out.below (below_2 HB2.out F.bel)))
          have HF := Lib.hid (fun w'' hb x hx => F.step PD.mono h0 (show 8 < 11 by decide) (w' := w'') hb (x := x) hx)
          clear F hall h0
          refine wpOp_step (by rfl) (fun K' hK => ?_)
          have HKk := Lib.hid hK
          clear hK
          go_simp
          go_at_call 11
          refine HC.out.mono ?_; rintro e' w5 ⟨rfl, hb5⟩
          have HF5 := Lib.hid (HF.out w5 hb5 _ (show PD _ _ _ 8 (.bool true) w5 from rfl))
          exact HKk.out _ _ ⟨_, _, _, _, _, _, _, _, _, _, _, rfl, HF5.out⟩
        | 9, _, h0, hall =>
          obtain rfl : v7 = .bool true := F.f 7 (hall 7 (by decide +kernel))
          obtain rfl : v8 = .bool true := F.f 8 (hall 8 (by decide +kernel))
          have HF := Lib.hid (F.step PD.mono h0 (show 9 < 11 by decide) (Below.refl _ _) (x := .bool true) rfl)
          clear F hall h0
          refine wpOp_step (by rfl) (fun K' hK => ?_)
          have HKk := Lib.hid hK
          clear hK
          go_simp
          exact HKk.out _ _ ⟨_, _, _, _, _, _, _, _, _, _, _, rfl, HF.out⟩
        | 10, _, h0, hall =>
          obtain rfl : v9 = .bool true := F.f 9 (hall 9 (by decide +kernel))
          have HF := Lib.hid (F.step PD.mono h0 (show 10 < 11 by decide) (Below.refl _ _) (x := .bool true) rfl)
          clear F hall h0
          refine wpOp_step (by rfl) (fun K' hK => ?_)
          have HKk := Lib.hid hK
          clear hK
          go_simp
          exact HKk.out _ _ ⟨_, _, _, _, _, _, _, _, _, _, _, rfl, HF.out⟩
        | i + 11, hi, _, _ => exact absurd hi (by show ¬ (i + 11 < 11); omega)
      rintro l9 a wf ⟨r0, r1, r2, r3, r4, r5, r6, r7, r8, r9, r10, rfl, F⟩ hall
      obtain rfl : r10 = .bool true := F.f 10 (hall 10 (by decide))
      have HBf := Lib.hid (below_2 HB0.out (below_2 HB2.out F.bel))
      clear F hall
      go_wp2_with fail
      go_ret
      exact ⟨rfl, HBf.out⟩
end Go.Proofs.YtgjnddjpinhkgaaDoor.Y
