/-
  Plain mathematics of layer 8: a valid procedure's bounds.
  What the reference of layer 8 returns: Names: a contract.
  What the program's function Exprs of layer 8 returns: its contract.
  What the program's function Exprs of layer 8 returns: its contract.
  What the program's function Exprs of layer 8 returns: its contract.
-/
import Derived.Test.YtkjefigebdbkaaaGreatDoorN03
import Derived.Test.YtkjefigebdbkaaaGreatDoorN12
import Derived.Test.YtkjefigebdbkaaaGreatDoorN10
import Derived.Test.YtkjefigebdbkaaaGreatDoorN08
import Derived.Deep.RegionLaw
import Derived.Deep.RegionWith
import Derived.Laws.NewBlocks
namespace Go.Proofs.YtkjefigebdbkaaaGreatDoor.A
open L (Str isName prt size_len)

theorem nam_small {s : ByteArray} (h : nam s = true) : s.size ≤ 16 := by
  unfold nam at h
  unfold isName at h
  simp only [Bool.and_eq_true, decide_eq_true_eq] at h
  have h1 := h.1.1.1
  rwa [size_len]
theorem node_small {e : Ex} {d : Nat} (h : nodeE e d = 0) : e.s.size ≤ 64 := by
  unfold nodeE at h
  split at h
  · cases h
  · rename_i h1
    split at h
    · cases h
    · rename_i h2
      split at h
      · cases h
      · rename_i h3
        by_cases hs : e.s.size = 0
        · omega
        · by_cases h4 : e.op = 3
          · have : nam e.s = true := by
              cases hn : nam e.s
              · exact absurd ⟨h4, hn⟩ h2
              · rfl
            have := nam_small this
            omega
          · by_cases h5 : e.op = 2
            · have : plain e.s = true := by
                cases hn : plain e.s
                · exact absurd (Or.inr (Or.inl ⟨h5, hn⟩)) h3
                · rfl
              unfold plain at this
              simp only [Bool.and_eq_true, decide_eq_true_eq] at this
              exact this.1
            · exact absurd (Or.inr (Or.inr ⟨h5, h4, hs⟩)) h1
mutual
theorem vE_count : ∀ (e : Ex) (d : Nat) (r : Bool), vE e d = 0 → cE e ≤ 2 * (preE e r).length
  | .mk o n s l, d, r, h => by
    rw [vE] at h
    by_cases h0 : nodeE (.mk o n s l) d = 0
    · rw [if_neg (fun x => x h0)] at h
      have h1 : s.size ≤ 64 := node_small h0
      have h2 := vEs_count l (d + 1) h
      rw [cE, preE, List.length_cons]
      omega
    · rw [if_pos h0] at h; exact absurd h h0
theorem vEs_count : ∀ (l : List Ex) (d : Nat), vEs l d = 0 → cEs l ≤ 2 * (preEs l).length
  | [], _, _ => by rw [cEs]; omega
  | e :: r, d, h => by
    rw [vEs] at h
    by_cases h0 : vE e d = 0
    · rw [if_neg (fun x => x h0)] at h
      have h1 := vE_count e d false h0
      have h2 := vEs_count r d h
      rw [cEs, preEs, List.length_append]
      omega
    · rw [if_pos h0] at h; exact absurd h h0
end
theorem names_valid {p : Pr} (h : valE p = 0) : (names p).length ≤ 406 := by
  obtain ⟨_, h2, _, h4⟩ := val_parts h
  unfold names
  rw [List.length_append, List.length_map]
  have h1 := List.length_filterMap_le V.decl (walk p)
  have := (par_each h2).1
  omega
theorem exprs_count (p : Pr) : (exprs p).length ≤ nodes p := List.length_filterMap_le V.rooted (walk p)
end Go.Proofs.YtkjefigebdbkaaaGreatDoor.A
namespace Go.Proofs.YtkjefigebdbkaaaGreatDoor.A
open Go.RowKit
open L (Str isName prt size_len below_2 below_box ret_bool ret_int eql_eq bytes_eq)

set_option maxHeartbeats 8000000 in
set_option maxRecDepth 100000 in
theorem rnames_any (p : Pr) (a1 a2 : Option Addr) (c1 c2 : Nat) (hok : OkP p) (hpl : p.params.length ≤ 1000) (w : World) (hK : PrIn w p a1 a2) :
    Calls Tryz.prog 53 #[prV p a1 c1 a2 c2] w fun e' w' => GivesN w (names p) e' w' := by
  have hb := below_box w (prO p a1 c1 a2 c2)
  have hbx := Bx.new w #[.string p.name, .slice a1 p.params.length c1, .slice a2 p.body.length c2] 25
  have HC := Lib.hid (fun w' hK => rwalk_any p a1 a2 c1 c2 hok.body hok.bodyLen w' hK)
  have HB := Lib.hid hb
  have HBX := Lib.hid hbx
  have HK := Lib.hid (hK.below hb)
  have hn : (walk p).length ≤ 401 := by unfold walk; rw [List.length_take]; omega
  have hnl := names_len p hpl
  have HND : Hid (names p = p.params.map Pm.name ++ (walk p).filterMap V.decl) := rfl
  obtain ⟨m, hm⟩ : ∃ m, p.params.length = m := ⟨_, rfl⟩
  have HL := Lib.hid hm
  unfold prO at *
  unfold prV at *
  rw [hm] at HC HB HBX HK hpl ⊢
  clear hok hK hb hbx hm
  go_enter Tryz.func53, Tryz.ntmps53
  go_wp2_with fail
  go_loopw [3, 4] (fun s3 s4 wr => ∃ (k : Nat) (l : List ByteArray) (pl : Option Addr) (ql : Nat), k ≤ m ∧ s4 = .int .i64 k ∧ s3 = .slice pl l.length ql ∧ Hid (l = (p.params.take k).map Pm.name) ∧ Hid (Own1 kN wr (w.heap.size + 1) (fun j => j < w.heap.size + 1) (.slice pl l.length ql) l) ∧ Hid (Below (w.alloc (.cells #[.string p.name, .slice a1 m c1, .slice a2 p.body.length c2] 25)).heap.size (w.alloc (.cells #[.string p.name, .slice a1 m c1, .slice a2 p.body.length c2] 25)) wr)) (fun _ i _ => m - (intOf i).toNat)
  case atStart => exact ⟨0, [], none, 0, Nat.zero_le _, rfl, rfl, rfl, Own1.nil, Below.refl _ _⟩
  case round =>
    obtain ⟨k, l, pl, ql, hk, rfl, rfl, HX, HR, HBr⟩ := hrel
    have hllk : l.length ≤ k := by have := congrArg List.length HX.out; rw [List.length_map, List.length_take] at this; omega
    have hbx := HBX.out.below HBr.out
    have x0 := hbx.cell 0
    have x1 := hbx.cell 1
    have x2 := hbx.cell 2
    simp at x0 x1 x2
    have hz1 : (w.alloc (.cells #[.string p.name, .slice a1 m c1, .slice a2 p.body.length c2] 25)).heap.size = w.heap.size + 1 := by simp
    have hz := HBr.out.size
    rw [hz1] at hz
    have HZ1 := Lib.hid hz1
    clear hz1 hbx
    by_cases hlt : k < m
    · have hlx : k < p.params.length := by rw [HL.out]; exact hlt
      obtain ⟨b3, i3, rfl, hcc⟩ := (HK.out.below HBr.out).params.open hlx
      obtain ⟨f0, f1⟩ := hcc k hlx
      have hxn := names_take hlx
      generalize p.params[k] = q at f0 f1 hxn
      have HXN : Hid (l ++ [q.name] = (p.params.take (k + 1)).map Pm.name) := by show _ = _; rw [hxn, HX.out]
      have HL6 : Hid ((l ++ [q.name]).length = l.length + 1) := by show _ = _; simp
      clear hcc hxn
      go_wp2_with (at_builtin; refine kN.wpList rfl (.tmp 14) (.tmp 21) rfl (w.heap.size + 1) (.slice pl l.length ql) l rfl HR.out.row q.name _ rfl wr.heap.size rfl rfl (by omega) (by omega) ?_; intro g6 cap6 w6 hown6 hgrow6 hlie6)
      have HR6 := Lib.hid (HR.out.push trivial (fun j hj => by omega) hown6 hgrow6 hlie6)
      have HB6 := Lib.hid (HR.out.frame (by rw [← HZ1.out]; exact HBr.out) hz hgrow6)
      clear hown6 hgrow6 hlie6
      go_wp2_with fail
      go_roundw
      case rel => exact ⟨k + 1, l ++ [q.name], some ⟨g6, 0, none⟩, cap6, by omega, by go_num, by rw [HL6.out], HXN.out, by show Own1 _ _ _ _ _ _; rw [HL6.out]; exact HR6.out, by show Below _ _ _; rw [HZ1.out]; exact HB6.out⟩
      case measure => simp [intOf]; omega
    · have hX := HX.out
      rw [List.take_of_length_le (by rw [HL.out]; omega)] at hX
      have HX0 := Lib.hid hX
      have HC2 := Lib.hid (HC.out wr (HK.out.below HBr.out).body)
      clear hX
      go_wp2_with fail
      refine HC2.out.mono ?_; rintro e w2 ⟨p3, q3, l', rfl, ho, hi, hv, hb2⟩
      have HO := Lib.hid ho
      have HW := Lib.hid hv
      have HB2 := Lib.hid hb2
      have HR2 := Lib.hid (HR.out.below hb2)
      have hz2 := hb2.size
      have hln : l'.length ≤ 401 := by rw [← vs_len, hv]; exact hn
      clear ho hi hv hb2 x0 x1 x2
      go_wp2_with fail
      go_loopw [3, 6] (fun s3 s6 w3 => ∃ (k2 : Nat) (l2 : List ByteArray) (pl : Option Addr) (ql : Nat), k2 ≤ l'.length ∧ s6 = .int .i64 k2 ∧ s3 = .slice pl l2.length ql ∧ Hid (l2 = l ++ ((walk p).take k2).filterMap V.decl) ∧ Hid (Own1 kN w3 (w.heap.size + 1) (fun j => j < w.heap.size + 1) (.slice pl l2.length ql) l2) ∧ Hid (∀ g, p3 = some ⟨g, 0, none⟩ → w3.heap[g]? = w2.heap[g]? ∧ (Value.slice pl l2.length ql).ownBlock ≠ some g) ∧ Hid (Below (w.heap.size + 1) w2 w3)) (fun _ i _ => l'.length - (intOf i).toNat)
      case atStart =>
        refine ⟨0, l, pl, ql, Nat.zero_le _, rfl, rfl, (List.append_nil l).symm, HR2.out, fun g hg => ⟨rfl, fun h => ?_⟩, Below.refl _ _⟩
        have h1 := (HR.out.lt g h).2
        have h2 := (World.ownsRow.lt HO.out g (by rw [hg]; rfl)).1
        omega
      case round =>
        obtain ⟨k2, l2, pl2, ql2, hk2, rfl, rfl, HX2, HR3, HG, HBs⟩ := hrel
        have hll2 : l2.length ≤ 1000 + k2 := by
          have := congrArg List.length HX2.out
          rw [List.length_append] at this
          have h2 := fm_le V.decl (walk p) k2
          omega
        have hz3 := HBs.out.size
        by_cases hlt2 : k2 < l'.length
        · obtain ⟨g3, rfl, hcell⟩ := visit_cells HO.out hlt2
          have hlw : k2 < (walk p).length := by rw [← HW.out, vs_len]; exact hlt2
          have hvk : (walk p)[k2] = (l'[k2]).v := by simp only [← HW.out, vs, List.getElem_map]
          have hxt := fm_take V.decl hlw
          rw [hvk] at hxt
          obtain ⟨hgh, hgn⟩ := HG.out g3 rfl
          have hcr : ∀ r, r < 20 → wr.cell? ⟨g3, k2 * 20 + r, none⟩ = (l'[k2]).cells[r]? := fun r hr => (World.cell?_of_block (w := w2) (by exact hgh)).trans (hcell r hr)
          generalize l'[k2] = y at hcr hxt
          clear hvk hlw hcell
          cases y with
          | ex e r a5 c5 =>
            have f0 : wr.cell? ⟨g3, k2 * 20, none⟩ = some (.bool false) := hcr 0 (by omega)
            have HX3 : Hid (l2 = l ++ ((walk p).take (k2 + 1)).filterMap V.decl) := by show _ = _; rw [hxt, ← List.append_assoc, ← HX2.out]; exact (List.append_nil _).symm
            clear hcr hxt
            go_wp2_with fail
            go_roundw
            case rel => exact ⟨k2 + 1, l2, pl2, ql2, by omega, by go_num, rfl, HX3.out, HR3.out, HG.out, HBs.out⟩
            case measure => simp [intOf]; omega
          | st s d a5 c5 a6 c6 a7 c7 a8 c8 =>
            have f0 : wr.cell? ⟨g3, k2 * 20, none⟩ = some (.bool true) := hcr 0 (by omega)
            have f1 : wr.cell? ⟨g3, k2 * 20 + 1, none⟩ = some (.int .i64 s.op) := hcr 1 (by omega)
            have f2 : wr.cell? ⟨g3, k2 * 20 + 2, none⟩ = some (.string s.name) := hcr 2 (by omega)
            have hd : V.decl (VT.st s d a5 c5 a6 c6 a7 c7 a8 c8).v = if s.op = 1 ∨ s.op = 6 then some s.name else none := rfl
            rw [hd] at hxt
            by_cases hop : s.op = 1 ∨ s.op = 6
            · rw [if_pos hop] at hxt
              have HX3 : Hid (l2 ++ [s.name] = l ++ ((walk p).take (k2 + 1)).filterMap V.decl) := by show _ = _; rw [hxt, ← List.append_assoc, ← HX2.out]
              have HL6 : Hid ((l2 ++ [s.name]).length = l2.length + 1) := by show _ = _; simp
              have t2 : wr.cell? ⟨g3, k2 * 20 + 1 + 1, none⟩ = some (.string s.name) := f2
              have hg3 := block_lt_of_cell f0
              clear hcr hxt hd
              rcases hop with hop | hop
              all_goals
                rw [hop] at f1
                clear hop
                go_wp2_with (at_builtin; refine kN.wpList rfl (.tmp 54) (.tmp 61) rfl (w.heap.size + 1) (.slice pl2 l2.length ql2) l2 rfl HR3.out.row s.name _ rfl wr.heap.size rfl rfl (by omega) (by omega) ?_; intro g6 cap6 w6 hown6 hgrow6 hlie6)
                have HR6 := Lib.hid (HR3.out.push trivial (fun j hj => by omega) hown6 hgrow6 hlie6)
                have HB6 := Lib.hid (HR3.out.frame HBs.out (by omega) hgrow6)
                have HG6 : Hid (∀ g, (some ⟨g3, 0, none⟩ : Option Addr) = some ⟨g, 0, none⟩ → w6.heap[g]? = w2.heap[g]? ∧ (Value.slice (some ⟨g6, 0, none⟩) (l2.length + 1) cap6).ownBlock ≠ some g) := fun g hg => by
                  have hgg : g3 = g := by injection hg with h; injection h
                  subst hgg
                  refine ⟨((hgrow6.block g3 (by simp; exact Nat.lt_succ_of_lt hg3) (fun e => hgn e.symm)).trans (Below.heap_alloc wr _ g3 hg3)).trans hgh, fun h => ?_⟩
                  have h6 : g6 = g3 := by injection h
                  rcases hlie6 with h7 | h7
                  · exact hgn (by rw [h7, h6])
                  · have hlt9 : g3 < wr.heap.size := hg3
                    omega
                clear hown6 hgrow6 hlie6
                go_wp2_with fail
                go_roundw
                case rel => exact ⟨k2 + 1, l2 ++ [s.name], some ⟨g6, 0, none⟩, cap6, by omega, by go_num, by rw [HL6.out], HX3.out, by show Own1 _ _ _ _ _ _; rw [HL6.out]; exact HR6.out, by intro g hg; rw [HL6.out]; exact HG6.out g hg, HB6.out⟩
                case measure => simp [intOf]; omega
            · rw [if_neg hop] at hxt
              have HX3 : Hid (l2 = l ++ ((walk p).take (k2 + 1)).filterMap V.decl) := by show _ = _; rw [hxt, ← List.append_assoc, ← HX2.out]; exact (List.append_nil _).symm
              have o1 : (s.op == 1) = false := beq_eq_false_iff_ne.2 (by omega)
              have o6 : (s.op == 6) = false := beq_eq_false_iff_ne.2 (by omega)
              clear hcr hxt hd hop
              go_wp2_with fail
              go_roundw
              case rel => exact ⟨k2 + 1, l2, pl2, ql2, by omega, by go_num, rfl, HX3.out, HR3.out, HG.out, HBs.out⟩
              case measure => simp [intOf]; omega
        · have hX2 := HX2.out
          rw [List.take_of_length_le (by rw [← HW.out, vs_len]; omega), HX0.out, ← HND.out] at hX2
          obtain ⟨_, _, hsh, hle⟩ := HR3.out.shape
          have hq : l2.length ≤ ql2 := by injection hsh with h1 h2 h3; omega
          have HV : Hid (GivesN w (names p) (.returned (.slice pl2 l2.length ql2)) wr) := by
            refine ⟨pl2, ql2, by rw [hX2], by rw [← hX2]; exact hq, by rw [← hX2]; exact HR3.out.strs, ?_⟩
            exact (below_2 HB.out (below_2 HBr.out HB2.out)).trans (HBs.out.mono (Nat.le_succ _))
          clear hX2 hsh hle hq
          go_wp2_with fail
          go_ret
          exact HV.out
end Go.Proofs.YtkjefigebdbkaaaGreatDoor.A
namespace Go.Proofs.YtkjefigebdbkaaaGreatDoor.A
open Go.RowKit
open L (Str isName prt size_len below_2 below_box ret_bool ret_int eql_eq bytes_eq)

theorem renE_same (f : ByteArray) : ∀ e, renE f f e = e := by
  refine Ex.ind (P := fun e => renE f f e = e) fun o n s l ih => ?_
  rw [renE, renEs_map, swap_same, ite_self]
  congr 1
  exact List.ext_getElem (by simp) fun j h1 h2 => by rw [List.getElem_map]; exact ih j h2
theorem set_last (a : List Value) (b0 b1 b2 b3 c0 c1 c2 c3 : Value) : ((((a ++ [b0, b1, b2, b3]).set a.length c0).set (a.length + 1) c1).set (a.length + 2) c2).set (a.length + 3) c3 = a ++ [c0, c1, c2, c3] := by
  rw [List.set_append_right _ _ (Nat.le_refl _), List.set_append_right _ _ (by omega), List.set_append_right _ _ (by omega), List.set_append_right _ _ (by omega)]
  simp [Nat.add_sub_cancel_left]
def put4 (w : World) (g i : Nat) (v0 v1 v2 v3 : Value) : World := (((w.setCell ⟨g, i, none⟩ v0).setCell ⟨g, i + 1, none⟩ v1).setCell ⟨g, i + 2, none⟩ v2).setCell ⟨g, i + 3, none⟩ v3
theorem put4_block (w : World) (g i : Nat) (v0 v1 v2 v3 : Value) (k : Nat) (hk : k ≠ g) : (put4 w g i v0 v1 v2 v3).heap[k]? = w.heap[k]? := by
  unfold put4
  rw [Below.heap_setCell _ _ _ _ hk, Below.heap_setCell _ _ _ _ hk, Below.heap_setCell _ _ _ _ hk, Below.heap_setCell _ _ _ _ hk]
theorem put4_size (w : World) (g i : Nat) (v0 v1 v2 v3 : Value) : (put4 w g i v0 v1 v2 v3).heap.size = w.heap.size := by unfold put4; simp
theorem put4_row {w : World} {b0 g n cap : Nat} {a : List Value} (ha : a.length = n * 4) {b1 b2 b3 b4 : Value} (h : w.ownsRow b0 kE.e kE.size (.slice (some ⟨g, 0, none⟩) (n + 1) cap) (n + 1) (a ++ [b1, b2, b3, b4])) (v0 v1 v2 v3 : Value) :
    (put4 w g (n * 4) v0 v1 v2 v3).ownsRow b0 kE.e kE.size (.slice (some ⟨g, 0, none⟩) (n + 1) cap) (n + 1) (a ++ [v0, v1, v2, v3]) := by
  have h4 := ((((h.stored (n * 4) v0).1.stored (n * 4 + 1) v1).1).stored (n * 4 + 2) v2).1.stored (n * 4 + 3) v3
  rw [← ha, set_last, ha] at h4
  exact h4.1
def JX (w0 : World) (N n : Nat) (X : Nat → Prop) (l : List Ex) (w : World) : Prop := ∃ lt : List ET, l = lt.map ET.e ∧ lt.length ≤ n + 1000 ∧ JL kE w0 N X lt w
theorem JX.fin {w0 w1 w3 w6 w7 : World} {N n : Nat} {X : Nat → Prop} {p : Option Addr} {q : Nat} {lt : List ET} {y : Ex} {pe : Option Addr} {qe g' cap : Nat} (hX : ∀ k, X k → w0.heap.size ≤ k ∧ k < w1.heap.size) (hN0 : w0.heap.size ≤ N) (hNX : ¬ X N) (hB0 : Below w0.heap.size w0 w1)
    (hC : Cell1 N (.slice p lt.length q) w1) (hO : Own1 kE w1 w0.heap.size (ZL w0 X N) (.slice p lt.length q) lt) (hl : lt.length ≤ n + 1000) (hb3 : Below w1.heap.size w1 w3)
    (h1 : w6.ownsRow w0.heap.size kE.e kE.size (.slice (some ⟨g', 0, none⟩) (lt.length + 1) cap) (lt.length + 1) (kE.cs lt ++ [.int .i64 0, .int .i64 0, .string ⟨#[]⟩, .slice none 0 0])) (h2 : w3.grownBy w6 (Value.slice p lt.length q).ownBlock) (h3 : (Value.slice p lt.length q).ownBlock = some g' ∨ g' = w3.heap.size)
    (hb7 : Below w6.heap.size w6 w7) (hy : KidsF (fun k => k < w1.heap.size ∨ k = g') w7 pe y.args) :
    N ≠ g' ∧ Cell1 N (.slice p lt.length q) (put4 w7 g' (lt.length * 4) (.int .i64 y.op) (.int .i64 y.n) (.string y.s) (.slice pe y.args.length qe)) ∧
    JX w0 N (n + 1) X (lt.map ET.e ++ [y]) ((put4 w7 g' (lt.length * 4) (.int .i64 y.op) (.int .i64 y.n) (.string y.s) (.slice pe y.args.length qe)).setCell ⟨N, 0, none⟩ (.slice (some ⟨g', 0, none⟩) (lt.length + 1) cap)) ∧
    Below w0.heap.size w1 ((put4 w7 g' (lt.length * 4) (.int .i64 y.op) (.int .i64 y.n) (.string y.s) (.slice pe y.args.length qe)).setCell ⟨N, 0, none⟩ (.slice (some ⟨g', 0, none⟩) (lt.length + 1) cap)) ∧
    ∀ k, X k → ((put4 w7 g' (lt.length * 4) (.int .i64 y.op) (.int .i64 y.n) (.string y.s) (.slice pe y.args.length qe)).setCell ⟨N, 0, none⟩ (.slice (some ⟨g', 0, none⟩) (lt.length + 1) cap)).heap[k]? = w1.heap[k]? := by
  have hNlt := hC.lt
  have hz0 := hB0.size
  have hz3 := hb3.size
  have hz6 := h2.size
  have hz7 := hb7.size
  have hg0 : w0.heap.size ≤ g' := by
    rcases h3 with h3 | h3
    · exact (hO.lt g' h3).1
    · omega
  have hgZ : ¬ ZL w0 X N g' := by
    rcases h3 with h3 | h3
    · exact hO.off g' h3
    · intro hz
      rcases hz with hz | hz | hz
      · omega
      · have := (hX g' hz).2; omega
      · omega
  have hzz : ∀ k, ZL w0 X N k → k < w1.heap.size := fun k hk => by
    rcases hk with hk | hk | hk
    · omega
    · exact (hX k hk).2
    · omega
  have hgl : g' < w6.heap.size := by
    rcases h1.2 with ⟨h0, _⟩ | ⟨g, cap', cur, hv, _, hg, _⟩
    · cases h0
    · have e : g' = g := by injection hv with e1; injection e1 with e2; injection e2
      subst e
      exact (Array.getElem?_eq_some_iff.1 hg).1
  -- what lay there and is not the row has stayed
  have hst : ∀ k, k < w1.heap.size → k ≠ g' → ¬ (Value.slice p lt.length q).ownBlock = some k → w7.heap[k]? = w1.heap[k]? := fun k hk hne ho =>
    (hb7.block k (by omega)).trans ((h2.block k (by omega) (fun e => ho e.symm)).trans (hb3.block k hk))
  have hstZ : ∀ k, ZL w0 X N k → w7.heap[k]? = w1.heap[k]? := fun k hk => hst k (hzz k hk) (fun e => hgZ (e ▸ hk)) (fun e => hO.off k e hk)
  have hN7 := hC.moved (hstZ N (Or.inr (Or.inr rfl)))
  have hNg : N ≠ g' := fun e => hgZ (Or.inr (Or.inr e.symm))
  have hN8 : Cell1 N (.slice p lt.length q) (put4 w7 g' (lt.length * 4) (.int .i64 y.op) (.int .i64 y.n) (.string y.s) (.slice pe y.args.length qe)) := hN7.moved (put4_block _ _ _ _ _ _ _ N hNg)
  have h1' : w7.ownsRow w0.heap.size kE.e kE.size (.slice (some ⟨g', 0, none⟩) (lt.length + 1) cap) (lt.length + 1) (kE.cs lt ++ [.int .i64 0, .int .i64 0, .string ⟨#[]⟩, .slice none 0 0]) := by
    refine ⟨h1.1, ?_⟩
    rcases h1.2 with ⟨h0, _⟩ | ⟨g, cap', cur, hv, hB, hg, r⟩
    · cases h0
    · exact Or.inr ⟨g, cap', cur, hv, hB, (hb7.block g (Array.getElem?_eq_some_iff.1 hg).1).trans hg, r⟩
  have hrow := put4_row (kE.cs_len lt) h1' (.int .i64 y.op) (.int .i64 y.n) (.string y.s) (.slice pe y.args.length qe)
  generalize hw8 : put4 w7 g' (lt.length * 4) (.int .i64 y.op) (.int .i64 y.n) (.string y.s) (.slice pe y.args.length qe) = w8 at *
  have hb8 : ∀ k, k ≠ g' → w8.heap[k]? = w7.heap[k]? := fun k hk => by rw [← hw8]; exact put4_block _ _ _ _ _ _ _ k hk
  have hs8 : w8.heap.size = w7.heap.size := by rw [← hw8]; exact put4_size _ _ _ _ _ _ _
  have hcs : kE.cs lt ++ [Value.int .i64 y.op, .int .i64 y.n, .string y.s, .slice pe y.args.length qe] = kE.cs (lt ++ [⟨y, pe, qe⟩]) := by rw [kE.cs_app, kE.cs_one]; rfl
  rw [hcs] at hrow
  have hO8 : Own1 kE w8 w0.heap.size (ZL w0 X N) (.slice (some ⟨g', 0, none⟩) (lt ++ [(⟨y, pe, qe⟩ : ET)]).length cap) (lt ++ [⟨y, pe, qe⟩]) := by
    have hl1 : (lt ++ [(⟨y, pe, qe⟩ : ET)]).length = lt.length + 1 := by simp
    refine ⟨by rw [hl1]; exact hrow, fun g hg => ?_, fun x hx => ?_⟩
    · have e : g' = g := by injection hg
      rw [← e]; exact hgZ
    · rcases List.mem_append.1 hx with hx | hx
      · refine KidsF.next (hO.each x hx) ⟨fun k hk hz => ?_, fun k hk => ?_⟩
        · have hne : k ≠ g' := fun e => by
            rcases h3 with h3 | h3
            · exact hz (Or.inr (by rw [h3, e]))
            · omega
          exact (hb8 k hne).trans (hst k hk hne (fun e => hz (Or.inr e)))
        · rcases hk with hk | hk
          · exact Or.inl (Or.inl hk)
          · have e : g' = k := by injection hk
            rcases h3 with h3 | h3
            · exact Or.inl (Or.inr (by rw [h3, e]))
            · exact Or.inr (by omega)
      · rw [List.mem_singleton] at hx
        rw [hx]
        refine KidsF.next hy ⟨fun k _ hz => hb8 k (fun e => hz (Or.inr e)), fun k hk => Or.inl ?_⟩
        rcases hk with hk | hk
        · exact Or.inl (hzz k hk)
        · exact Or.inr (by injection hk with e; exact e.symm)
  have hB8 : Below w0.heap.size w1 w8 := by
    have h6 : Below w0.heap.size w1 w6 := (hb3.mono hz0).grown h2 (by omega) (fun g hg => (hO.lt g hg).1)
    have h7 : Below w0.heap.size w1 w7 := h6.trans (hb7.mono (by omega))
    rw [← hw8]
    unfold put4
    exact (((h7.setCell (p := ⟨g', lt.length * 4, none⟩) hg0 _).setCell (p := ⟨g', lt.length * 4 + 1, none⟩) hg0 _).setCell (p := ⟨g', lt.length * 4 + 2, none⟩) hg0 _).setCell (p := ⟨g', lt.length * 4 + 3, none⟩) hg0 _
  refine ⟨hNg, hN8, ⟨lt ++ [⟨y, pe, qe⟩], by rw [List.map_append]; rfl, by simp; omega, some ⟨g', 0, none⟩, cap, ?_, hNX, ?_⟩, hB8.setCell hN0 _, fun k hk => ?_⟩
  · have := hN8.set (u := .slice (some ⟨g', 0, none⟩) (lt.length + 1) cap)
    rw [show (lt ++ [(⟨y, pe, qe⟩ : ET)]).length = lt.length + 1 by simp]
    exact this
  · exact hO8.next ⟨fun k _ hk2 => Below.heap_setCell _ _ _ _ (fun e => hk2 (Or.inr (Or.inr e))), fun k hk => Or.inl hk⟩
  · have hne : k ≠ N := fun e => hNX (e ▸ hk)
    exact (Below.heap_setCell _ _ _ _ hne).trans ((hb8 k (fun e => hgZ (Or.inr (Or.inl (e ▸ hk))))).trans (hstZ k (Or.inr (Or.inl hk))))
theorem row_later {w w' : World} {b0 g n cap k : Nat} {xs : List Value} (h : w.ownsRow b0 kE.e kE.size (.slice (some ⟨g, 0, none⟩) n cap) k xs) (hb : Below w.heap.size w w') : w'.ownsRow b0 kE.e kE.size (.slice (some ⟨g, 0, none⟩) n cap) k xs := by
  refine ⟨h.1, ?_⟩
  rcases h.2 with h0 | ⟨g2, cap', cur, hv, hB, hg, r⟩
  · exact Or.inl h0
  · exact Or.inr ⟨g2, cap', cur, hv, hB, (hb.block g2 (Array.getElem?_eq_some_iff.1 hg).1).trans hg, r⟩
theorem row_cell4 {w : World} {b0 g n cap : Nat} {a : List Value} (ha : a.length = n * 4) {b1 b2 b3 b4 : Value} (h : w.ownsRow b0 kE.e kE.size (.slice (some ⟨g, 0, none⟩) (n + 1) cap) (n + 1) (a ++ [b1, b2, b3, b4])) :
    w.cell? ⟨g, n * 4, none⟩ = some b1 ∧ w.cell? ⟨g, n * 4 + 1, none⟩ = some b2 ∧ w.cell? ⟨g, n * 4 + 2, none⟩ = some b3 ∧ w.cell? ⟨g, n * 4 + 3, none⟩ = some b4 ∧ ∀ j, w.frozen? ⟨g, j, none⟩ = false := by
  have hs : kE.size = 4 := rfl
  have hc := fun j hj => h.cellAt j hj
  rw [hs] at hc
  refine ⟨?_, ?_, ?_, ?_, fun j => h.frozenAt j⟩
  · rw [hc (n * 4) (by omega), List.getElem?_append_right (by omega), ha, Nat.sub_self]; rfl
  · rw [hc (n * 4 + 1) (by omega), List.getElem?_append_right (by omega), ha, Nat.add_sub_cancel_left]; rfl
  · rw [hc (n * 4 + 2) (by omega), List.getElem?_append_right (by omega), ha, Nat.add_sub_cancel_left]; rfl
  · rw [hc (n * 4 + 3) (by omega), List.getElem?_append_right (by omega), ha, Nat.add_sub_cancel_left]; rfl
theorem kE_step {w : World} {ops : Array Oper} {o : Oper} {a : Act} {Kk : Act → World → Prop} {Q : Exit → Act → World → Prop} {E : Prop} (hgd : o.guard = none) (s x : Operand)
    (ho : o.op = .call { callee := .builtin .append, args := #[s, x], argTypes := #[kE.t, kE.t] })
    (base : Nat) (v : Value) (l : List ET) (hs : a.eval s = v) (hown : w.ownsRow base kE.e kE.size v l.length (kE.cs l))
    (g : Nat) (hx : a.eval x = .slice (some ⟨g, 0, none⟩) 1 1) (hg : w.cell? ⟨g, 0, none⟩ = some (.int .i64 0) ∧ w.cell? ⟨g, 1, none⟩ = some (.int .i64 0) ∧ w.cell? ⟨g, 2, none⟩ = some (.string ⟨#[]⟩) ∧ w.cell? ⟨g, 3, none⟩ = some (.slice none 0 0)) (hn : l.length ≤ 1000000) (hbase : base ≤ w.heap.size)
    (h : ∀ g' cap w', w'.ownsRow base kE.e kE.size (.slice (some ⟨g', 0, none⟩) (l.length + 1) cap) (l.length + 1) (kE.cs l ++ [.int .i64 0, .int .i64 0, .string ⟨#[]⟩, .slice none 0 0]) → w.grownBy w' v.ownBlock → (v.ownBlock = some g' ∨ g' = w.heap.size) → Kk (a.put o.dst (.slice (some ⟨g', 0, none⟩) (l.length + 1) cap)) w') :
    if Region.wanted o (yielded ops a.tmps) = true then Oper.wp Tryz.prog o a w Kk Q else E := by
  obtain ⟨i0, hi, hz0, hz1, hz2⟩ := info_parts3 kE.info
  have hb : (l.length + 1) * kE.bytes ≤ 140737488355328 := Nat.le_trans (Nat.mul_le_mul (show l.length + 1 ≤ 1000001 by omega) kE.small) (by decide)
  obtain ⟨g0, g1, g2, g3⟩ := hg
  refine step_append_lies _ hgd s x kE.t ho base kE.e i0 _ kE.size kE.bytes kE.und hi hz0 hz1 hz2 kE.zs kE.pos v l.length (kE.cs l) hs hown ⟨g, 0, none⟩ 1 1 [.int .i64 0, .int .i64 0, .string ⟨#[]⟩, .slice none 0 0] hx rfl (fun j u hu => ?_) (fun u hu => ?_) (by decide) (by unfold maxLen; omega) hb hbase w.heap.size rfl ?_
  · match j, hu with
    | 0, hu => exact g0.trans hu
    | 1, hu => exact g1.trans hu
    | 2, hu => exact g2.trans hu
    | 3, hu => exact g3.trans hu
  · simp at hu; rcases hu with rfl | rfl | rfl <;> rfl
  · intro g' cap w' h1 h2 h3 _
    exact h g' cap w' h1 h2 h3
end Go.Proofs.YtkjefigebdbkaaaGreatDoor.A
namespace Go.Proofs.YtkjefigebdbkaaaGreatDoor.A
open Go.RowKit
open L (Str isName prt size_len below_2 below_box ret_bool ret_int eql_eq bytes_eq)

theorem setCell_comm (w : World) (a b : Addr) (u v : Value) (h : a.block ≠ b.block) : (w.setCell a u).setCell b v = (w.setCell b v).setCell a u := by
  unfold World.setCell
  congr 1
  refine Array.ext_getElem? fun k => ?_
  simp only [Array.getElem?_modify]
  by_cases h1 : a.block = k
  · have h2 : ¬ b.block = k := fun e => h (h1.trans e.symm)
    simp [h1, h2]
  · simp [h1]
theorem put4_comm (w : World) (g i N : Nat) (v0 v1 v2 v3 u : Value) (h : N ≠ g) : put4 (w.setCell ⟨N, 0, none⟩ u) g i v0 v1 v2 v3 = (put4 w g i v0 v1 v2 v3).setCell ⟨N, 0, none⟩ u := by
  unfold put4
  rw [setCell_comm w ⟨N, 0, none⟩ _ _ _ h, setCell_comm _ ⟨N, 0, none⟩ _ _ _ h, setCell_comm _ ⟨N, 0, none⟩ _ _ _ h, setCell_comm _ ⟨N, 0, none⟩ _ _ _ h]
theorem JX.see {w0 w1 w3 w6 w7 : World} {N : Nat} {X : Nat → Prop} {p : Option Addr} {q : Nat} {lt : List ET} (hO : Own1 kE w1 w0.heap.size (ZL w0 X N) (.slice p lt.length q) lt) (hb3 : Below w1.heap.size w1 w3) (h2 : w3.grownBy w6 (Value.slice p lt.length q).ownBlock) (hb7 : Below w6.heap.size w6 w7) :
    ∀ k, k < w1.heap.size → ¬ (Value.slice p lt.length q).ownBlock = some k → w7.heap[k]? = w1.heap[k]? := fun k hk ho => by
  have := hb3.size
  have := h2.size
  have _ := hO
  exact (hb7.block k (by omega)).trans ((h2.block k (by omega) (fun e => ho e.symm)).trans (hb3.block k hk))
theorem lit4 (w : World) : (w.alloc (.cells #[.int .i64 0, .int .i64 0, .string ⟨#[]⟩, .slice none 0 0] 41)).cell? ⟨w.heap.size, 0, none⟩ = some (.int .i64 0) ∧ (w.alloc (.cells #[.int .i64 0, .int .i64 0, .string ⟨#[]⟩, .slice none 0 0] 41)).cell? ⟨w.heap.size, 1, none⟩ = some (.int .i64 0) ∧ (w.alloc (.cells #[.int .i64 0, .int .i64 0, .string ⟨#[]⟩, .slice none 0 0] 41)).cell? ⟨w.heap.size, 2, none⟩ = some (.string ⟨#[]⟩) ∧ (w.alloc (.cells #[.int .i64 0, .int .i64 0, .string ⟨#[]⟩, .slice none 0 0] 41)).cell? ⟨w.heap.size, 3, none⟩ = some (.slice none 0 0) := by
  have h := Bx.new w #[.int .i64 0, .int .i64 0, .string ⟨#[]⟩, .slice none 0 0] 41
  exact ⟨h.cell 0, h.cell 1, h.cell 2, h.cell 3⟩
theorem lit4_later {w w' : World} (hb : Below (w.alloc (.cells #[.int .i64 0, .int .i64 0, .string ⟨#[]⟩, .slice none 0 0] 41)).heap.size (w.alloc (.cells #[.int .i64 0, .int .i64 0, .string ⟨#[]⟩, .slice none 0 0] 41)) w') : w'.cell? ⟨w.heap.size, 0, none⟩ = some (.int .i64 0) ∧ w'.cell? ⟨w.heap.size, 1, none⟩ = some (.int .i64 0) ∧ w'.cell? ⟨w.heap.size, 2, none⟩ = some (.string ⟨#[]⟩) ∧ w'.cell? ⟨w.heap.size, 3, none⟩ = some (.slice none 0 0) := by
  have h := (Bx.new w #[.int .i64 0, .int .i64 0, .string ⟨#[]⟩, .slice none 0 0] 41).below hb
  exact ⟨h.cell 0, h.cell 1, h.cell 2, h.cell 3⟩
theorem JX.early {w1 w3 w6 : World} {v : Value} {M g' : Nat} {pe : Option Addr} {l : List Ex} (hM : w1.heap.size ≤ M) (hv : ∀ g, v.ownBlock = some g → g < w1.heap.size) (hk : KidsF (fun k => k < M) w3 pe l) (h2 : w3.grownBy w6 v.ownBlock) (h3 : v.ownBlock = some g' ∨ g' = w3.heap.size) : KidsF (fun k => k < w1.heap.size ∨ k = g') w6 pe l := by
  refine hk.next ⟨fun k hk2 hz => h2.block k hk2 (fun e => ?_), fun k hk2 => ?_⟩
  · have := hv k e.symm
    exact hz (by show k < M; omega)
  · rcases hk2 with hk2 | hk2
    · left; show k < M; omega
    · rcases h3 with h3 | h3
      · have := hv g' h3; left; show k < M; omega
      · right; omega
set_option maxHeartbeats 8000000 in
set_option maxRecDepth 100000 in
theorem visX {w0 : World} {N : Nat} (hN : w0.heap.size ≤ N) : VisX ⟨N, 0, none⟩ gX w0 (JX w0 N) := by
  refine ⟨fun n X l u ps pe w hn hX hJ hb0 hat hok => ?_, fun n X s w w' ⟨lt, h0, h1, h2⟩ h3 h4 => ⟨lt, h0, h1, h2.keep h3 h4⟩, fun n X s w ⟨lt, h0, h1, h2⟩ h3 => ⟨lt, h0, h1, h2.wide h3⟩, fun n X s w ⟨lt, h0, h1, h2⟩ => ⟨lt, h0, h1, h2.narrow⟩⟩
  obtain ⟨lt, rfl, hll, p, q, hC, hNX, hO⟩ := hJ
  have hw := below_box w (.cells #[.pointer ps, .pointer pe, .int .i64 (u.d : Int)] 66)
  have hC1 := hC.later hw
  have hSame : Hid (gX (lt.map ET.e) u = (lt.map ET.e, true) → (JX w0 N (n + 1) X (lt.map ET.e) (w.alloc (.cells #[.pointer ps, .pointer pe, .int .i64 (u.d : Int)] 66)) ∧ Below w0.heap.size w (w.alloc (.cells #[.pointer ps, .pointer pe, .int .i64 (u.d : Int)] 66)) ∧ ∀ k, X k → (w.alloc (.cells #[.pointer ps, .pointer pe, .int .i64 (u.d : Int)] 66)).heap[k]? = w.heap[k]?)) :=
    fun _ => ⟨⟨lt, rfl, by omega, JL.keep ⟨p, q, hC, hNX, hO⟩ hw.size (fun k hk _ => hw.block k hk)⟩, hw.mono hb0.size, fun k hk => hw.block k (hX k hk).2⟩
  cases u with
  | st s d =>
    obtain ⟨b, i, rfl, rfl, _⟩ := hat
    have HG : Hid (gX (lt.map ET.e) (.st s d) = (lt.map ET.e, true)) := by show (lt.map ET.e ++ [], true) = _; rw [List.append_nil]
    have HP := Lib.hid (hSame.out HG.out)
    rw [HG.out]
    unfold nodeV
    simp only [U.d] at *
    clear hw hC hO hb0 hX hok hSame HG hC1
    go_enter Tryz.func42, Tryz.ntmps42
    go_wp2_with fail
    go_ret
    exact ⟨rfl, HP.out⟩
  | ex e d =>
    obtain ⟨b, i, rfl, rfl, hat⟩ := hat
    by_cases hd : d = 1
    · subst hd
      have HG : Hid (gX (lt.map ET.e) (.ex e 1) = (lt.map ET.e ++ [e], true)) := rfl
      rw [HG.out]
      obtain ⟨d0, d1, d2, a4, c4, d3, hk4⟩ := (hat.below (hb0.trans (hw.mono hb0.size))).open
      have hsz := hok.2
      -- what the call makes
      have HCp : Hid (∀ w', Below w0.heap.size w0 w' → Calls Tryz.prog 43 #[exV e a4 c4, .func (Fn.func 44) #[] #[]] w' fun e' w'' => GivesE w' e e' w'') := fun w' hb => by
        obtain ⟨_, _, _, a5, c5, d5, hk5⟩ := (hat.below hb).open
        have hat0 := hat.open
        obtain ⟨_, _, _, a6, c6, d6, hk6⟩ := hat0
        have e1 := (((hb0.trans (hw.mono hb0.size)).cell (block_lt_of_cell d6)).trans d6).symm.trans d3
        have ea : a6 = a4 := by injection e1 with e1; injection e1
        have h := ocopiedExprC_any (namC w' ⟨#[]⟩) e a4 c4 w' hok.1 (by omega) (by rw [← ea]; exact hk6.below hb) (Below.refl _ _)
        rw [renE_same] at h
        exact h
      have HO1 := Lib.hid (hO.below hw)
      have HOl : Hid (∀ g, (Value.slice p lt.length q).ownBlock = some g → g < w.heap.size) := fun g hg => (hO.lt g hg).2
      have hbb : b < w0.heap.size := hat.lt
      have hNlt := hC.lt
      have HSN : Hid (∀ W' : World, (∀ k, k < (w.alloc (.cells #[.pointer none, .pointer (some ⟨b, i, none⟩), .int .i64 ((U.ex e 1).d : Int)] 66)).heap.size → ¬ (Value.slice p lt.length q).ownBlock = some k → W'.heap[k]? = (w.alloc (.cells #[.pointer none, .pointer (some ⟨b, i, none⟩), .int .i64 ((U.ex e 1).d : Int)] 66)).heap[k]?) → W'.cell? ⟨N, 0, none⟩ = some (.slice p lt.length q)) := fun W' hs => by
        have hbn : W'.heap[N]? = _ := hs N (Nat.lt_of_lt_of_le hC.lt hw.size) (fun h => hO.off N h (Or.inr (Or.inr rfl)))
        exact (World.cell?_of_block (a := ⟨N, 0, none⟩) hbn).trans hC1.cell
      have HNF : Hid (∀ W' : World, (∀ k, k < (w.alloc (.cells #[.pointer none, .pointer (some ⟨b, i, none⟩), .int .i64 ((U.ex e 1).d : Int)] 66)).heap.size → ¬ (Value.slice p lt.length q).ownBlock = some k → W'.heap[k]? = (w.alloc (.cells #[.pointer none, .pointer (some ⟨b, i, none⟩), .int .i64 ((U.ex e 1).d : Int)] 66)).heap[k]?) → W'.frozen? ⟨N, 0, none⟩ = false) := fun W' hs => by
        have hbn : W'.heap[N]? = _ := hs N (Nat.lt_of_lt_of_le hC.lt hw.size) (fun h => hO.off N h (Or.inr (Or.inr rfl)))
        exact (World.frozen?_of_block (a := ⟨N, 0, none⟩) hbn).trans hC1.free
      have HS : Hid (∀ W' : World, (∀ k, k < (w.alloc (.cells #[.pointer none, .pointer (some ⟨b, i, none⟩), .int .i64 ((U.ex e 1).d : Int)] 66)).heap.size → ¬ k = N → ¬ (Value.slice p lt.length q).ownBlock = some k → W'.heap[k]? = (w.alloc (.cells #[.pointer none, .pointer (some ⟨b, i, none⟩), .int .i64 ((U.ex e 1).d : Int)] 66)).heap[k]?) →
          (W'.cell? ⟨w.heap.size, 1, none⟩ = some (.pointer (some ⟨b, i, none⟩)) ∧ W'.cell? ⟨b, i, none⟩ = some (.int .i64 e.op) ∧ W'.cell? ⟨b, i + 1, none⟩ = some (.int .i64 e.n) ∧ W'.cell? ⟨b, i + 2, none⟩ = some (.string e.s) ∧ W'.cell? ⟨b, i + 3, none⟩ = some (.slice a4 e.args.length c4))) := fun W' hs => by
        have hz := hw.size
        have hz0 := hb0.size
        have hbk : W'.heap[b]? = _ := hs b (by omega) (by omega) (fun h => by have := (hO.lt b h).1; omega)
        have hbw : W'.heap[w.heap.size]? = _ := hs w.heap.size (by simp) (by omega) (fun h => by have := (hO.lt _ h).2; omega)
        exact ⟨(World.cell?_of_block (a := ⟨w.heap.size, 1, none⟩) hbw).trans (by go_simp), (World.cell?_of_block (a := ⟨b, i, none⟩) hbk).trans d0, (World.cell?_of_block (a := ⟨b, i + 1, none⟩) hbk).trans d1, (World.cell?_of_block (a := ⟨b, i + 2, none⟩) hbk).trans d2, (World.cell?_of_block (a := ⟨b, i + 3, none⟩) hbk).trans d3⟩
      have HB01 := Lib.hid (hb0.trans (hw.mono hb0.size))
      have HFin := Lib.hid (fun w3 w6 w7 g' cap pe qe hb3 h1 h2 h3 hb7 hy => JX.fin (w0 := w0) (w3 := w3) (w6 := w6) (w7 := w7) (g' := g') (cap := cap) (pe := pe) (qe := qe) (y := e) (fun k hk => ⟨(hX k hk).1, Nat.lt_of_lt_of_le (hX k hk).2 hw.size⟩) hN hNX (hb0.trans (hw.mono hb0.size)) hC1 (hO.below hw) hll hb3 h1 h2 h3 hb7 hy)
      have HXw : Hid (∀ k, X k → (w.alloc (.cells #[.pointer none, .pointer (some ⟨b, i, none⟩), .int .i64 1] 66)).heap[k]? = w.heap[k]?) := fun k hk => hw.block k (hX k hk).2
      have HW := Lib.hid hw
      have HZ : Hid (w0.heap.size ≤ w.heap.size) := hb0.size
      have hll2 : lt.length ≤ 1000000 := by omega
      unfold nodeV
      simp only [U.d, show ((1 : Nat) : Int) = 1 from rfl] at *
      unfold exV at HCp
      clear hC hC1 hO hb0 hX hok hSame HG hat hsz hk4 hNX hn hll d0 d1 d2 d3 hw hbb hN
      go_enter Tryz.func42, Tryz.ntmps42
      go_wp2_with fail
      have hz1 : w.heap.size < (w.alloc (.cells #[.pointer none, .pointer (some ⟨b, i, none⟩), .int .i64 1] 66)).heap.size := by simp
      generalize hw1 : w.alloc (.cells #[.pointer none, .pointer (some ⟨b, i, none⟩), .int .i64 1] 66) = w1 at *
      clear hw1
      have hS1 := HS.out w1 (fun k _ _ _ => rfl)
      have hN1 := HSN.out w1 (fun k _ _ => rfl)
      have hNl1 : N < w1.heap.size := by omega
      have hNl1' : N ≤ w1.heap.size := by omega
      have hz01 := HB01.out.size
      have hlt1 : (lt.length : Int) < (lt.length : Int) + 1 := by omega
      obtain ⟨v1, v2, v3, v4, v5⟩ := hS1
      have hbl1 : b < w1.heap.size := block_lt_of_cell v2
      go_region_law
        (first
          | (go_simp; go_at_call 43; (first
              | (with_reducible refine (HCp.out _ (HB01.out.trans ((L.below_drew w1).mono hz01))).mono ?_); rintro e' w3 ⟨pe, qe, he, hk3, hb3⟩; unfold exV at he; subst he; have HK3 := Lib.hid hk3; have HB3 := Lib.hid (below_2 (L.below_drew w1) hb3); obtain ⟨x1, x2, x3, x4, x5⟩ := HS.out w3 (fun k hk _ _ => HB3.out.block k hk); have hbl3 : b < w3.heap.size := block_lt_of_cell x2; have hwl3 : w.heap.size < w3.heap.size := block_lt_of_cell x1; have hN3 := HSN.out w3 (fun k hk _ => HB3.out.block k hk); have hNl3 : N < w3.heap.size := (by have := HB3.out.size; omega); have hz3 := HB3.out.size; clear hk3 hb3
              | (with_reducible refine (HCp.out _ (HB01.out.trans ((below_2 (below_box w1 (.cells #[.int .i64 0, .int .i64 0, .string ⟨#[]⟩, .slice none 0 0] 41)) (L.below_drew _)).mono hz01))).mono ?_); rintro e' w3 ⟨pe, qe, he, hk3, hb3⟩; unfold exV at he; subst he; have HK3 := Lib.hid hk3; have HL3 := Lib.hid (lit4_later (below_2 (L.below_drew _) hb3)); have HB3 := Lib.hid (below_2 (below_2 (below_box w1 (.cells #[.int .i64 0, .int .i64 0, .string ⟨#[]⟩, .slice none 0 0] 41)) (L.below_drew _)) hb3); obtain ⟨x1, x2, x3, x4, x5⟩ := HS.out w3 (fun k hk _ _ => HB3.out.block k hk); have hbl3 : b < w3.heap.size := block_lt_of_cell x2; have hwl3 : w.heap.size < w3.heap.size := block_lt_of_cell x1; have hN3 := HSN.out w3 (fun k hk _ => HB3.out.block k hk); have hNl3 : N < w3.heap.size := (by have := HB3.out.size; omega); have hz3 := HB3.out.size; clear hk3 hb3
              | (with_reducible refine (HCp.out _ HB06.out).mono ?_); rintro e' w7 ⟨pe, qe, he, hk7, hb7⟩; unfold exV at he; subst he; have HF := Lib.hid (HFin.out (w1.alloc (.cells #[.int .i64 0, .int .i64 0, .string ⟨#[]⟩, .slice none 0 0] 41)).drew w6 w7 g6 cap6 pe qe HB3.out h61 h62 h63 hb7 (KidsF.next hk7 ⟨fun _ _ _ => rfl, fun k hk => Or.inl (HG6.out k hk)⟩)); obtain ⟨x1, x2, x3, x4, x5⟩ := HS.out w7 (fun k h1 _ h2 => JX.see HO1.out HB3.out h62 hb7 k h1 h2); have hNc := HSN.out w7 (JX.see HO1.out HB3.out h62 hb7); have hNf := HNF.out w7 (JX.see HO1.out HB3.out h62 hb7); obtain ⟨k0, k1, k2, k3, kf⟩ := row_cell4 (kE.cs_len lt) (row_later h61 hb7); have kf0 := kf (lt.length * 4); have kf1 := kf (lt.length * 4 + 1); have kf2 := kf (lt.length * 4 + 2); have kf3 := kf (lt.length * 4 + 3); have hgN := HF.out.1; have hNg : ¬ g6 = N := fun e => hgN e.symm; have hEq := put4_comm w7 g6 (lt.length * 4) N (.int .i64 e.op) (.int .i64 e.n) (.string e.s) (.slice pe e.args.length qe) (.slice (some ⟨g6, 0, none⟩) (lt.length + 1) cap6) hgN; unfold put4 at HF hEq;  obtain ⟨r1, r2, r3⟩ := HF.out.2.1; clear kf; clear h61 h62 h63 hk7 hb7))
          | (refine kE_step rfl (.tmp 12) (.tmp 19) rfl w0.heap.size (.slice p lt.length q) lt rfl (HO1.out.below (below_2 HB3.out (below_box w3 _))).row w3.heap.size rfl (lit4 w3) hll2 (by have := HB3.out.size; simp; omega) ?_; intro g6 cap6 w6 h61 h62 h63; have HF := Lib.hid (HFin.out (w3.alloc (.cells #[.int .i64 0, .int .i64 0, .string ⟨#[]⟩, .slice none 0 0] 41)) w6 w6 g6 cap6 pe qe (below_2 HB3.out (below_box w3 (.cells #[.int .i64 0, .int .i64 0, .string ⟨#[]⟩, .slice none 0 0] 41))) h61 h62 h63 (Below.refl _ _) (JX.early (M := w1.drew.heap.size) (Nat.le_refl _) (fun g hg => Nat.lt_trans (HOl.out g hg) hz1) (KidsF.next HK3.out (Stays.below (below_box _ _) (fun _ h => Or.inl h))) h62 h63)); obtain ⟨x1, x2, x3, x4, x5⟩ := HS.out w6 (fun k h1 _ h2 => JX.see HO1.out (below_2 HB3.out (below_box w3 (.cells #[.int .i64 0, .int .i64 0, .string ⟨#[]⟩, .slice none 0 0] 41))) h62 (Below.refl _ _) k h1 h2); have hNc := HSN.out w6 (JX.see HO1.out (below_2 HB3.out (below_box w3 (.cells #[.int .i64 0, .int .i64 0, .string ⟨#[]⟩, .slice none 0 0] 41))) h62 (Below.refl _ _)); have hNf := HNF.out w6 (JX.see HO1.out (below_2 HB3.out (below_box w3 (.cells #[.int .i64 0, .int .i64 0, .string ⟨#[]⟩, .slice none 0 0] 41))) h62 (Below.refl _ _)); obtain ⟨k0, k1, k2, k3, kf⟩ := row_cell4 (kE.cs_len lt) h61; have kf0 := kf (lt.length * 4); have kf1 := kf (lt.length * 4 + 1); have kf2 := kf (lt.length * 4 + 2); have kf3 := kf (lt.length * 4 + 3); have hgN := HF.out.1; have hNg : ¬ g6 = N := fun e => hgN e.symm; have hEq := put4_comm w6 g6 (lt.length * 4) N (.int .i64 e.op) (.int .i64 e.n) (.string e.s) (.slice pe e.args.length qe) (.slice (some ⟨g6, 0, none⟩) (lt.length + 1) cap6) hgN; unfold put4 at HF hEq;  obtain ⟨r1, r2, r3⟩ := HF.out.2.1; clear kf; clear h61 h62 h63)
          | (refine kE_step rfl (.tmp 12) (.tmp 19) rfl w0.heap.size (.slice p lt.length q) lt rfl (HO1.out.below HB3.out).row w1.heap.size rfl HL3.out hll2 (by have := HB3.out.size; omega) ?_; intro g6 cap6 w6 h61 h62 h63; have HF := Lib.hid (HFin.out w3 w6 w6 g6 cap6 pe qe HB3.out h61 h62 h63 (Below.refl _ _) (JX.early (M := (w1.alloc (.cells #[.int .i64 0, .int .i64 0, .string ⟨#[]⟩, .slice none 0 0] 41)).drew.heap.size) (by simp) (fun g hg => Nat.lt_trans (HOl.out g hg) hz1) HK3.out h62 h63)); obtain ⟨x1, x2, x3, x4, x5⟩ := HS.out w6 (fun k h1 _ h2 => JX.see HO1.out HB3.out h62 (Below.refl _ _) k h1 h2); have hNc := HSN.out w6 (JX.see HO1.out HB3.out h62 (Below.refl _ _)); have hNf := HNF.out w6 (JX.see HO1.out HB3.out h62 (Below.refl _ _)); obtain ⟨k0, k1, k2, k3, kf⟩ := row_cell4 (kE.cs_len lt) h61; have kf0 := kf (lt.length * 4); have kf1 := kf (lt.length * 4 + 1); have kf2 := kf (lt.length * 4 + 2); have kf3 := kf (lt.length * 4 + 3); have hgN := HF.out.1; have hNg : ¬ g6 = N := fun e => hgN e.symm; have hEq := put4_comm w6 g6 (lt.length * 4) N (.int .i64 e.op) (.int .i64 e.n) (.string e.s) (.slice pe e.args.length qe) (.slice (some ⟨g6, 0, none⟩) (lt.length + 1) cap6) hgN; unfold put4 at HF hEq;  obtain ⟨r1, r2, r3⟩ := HF.out.2.1; clear kf; clear h61 h62 h63)
          | (refine kE_step rfl (.tmp 12) (.tmp 19) rfl w0.heap.size (.slice p lt.length q) lt rfl (HO1.out.below (below_2 (below_box w1 (.cells #[.int .i64 0, .int .i64 0, .string ⟨#[]⟩, .slice none 0 0] 41)) (L.below_drew _))).row w1.heap.size rfl (lit4_later (L.below_drew _)) hll2 (by simp; omega) ?_; intro g6 cap6 w6 h61 h62 h63; have HB3 := Lib.hid (below_2 (below_box w1 (.cells #[.int .i64 0, .int .i64 0, .string ⟨#[]⟩, .slice none 0 0] 41)) (L.below_drew _)); have HB06 := Lib.hid (HO1.out.frame HB01.out hz01 (o := (.cells #[.int .i64 0, .int .i64 0, .string ⟨#[]⟩, .slice none 0 0] 41)) h62); have HG6 : Hid (∀ k, (k < w1.heap.size ∨ k = g6) → k < w6.heap.size) := (by intro k hk; have h1 := h62.size; have h2 := HB3.out.size; have h3 := (World.ownsRow.lt h61 g6 rfl).2; omega); obtain ⟨x1, x2, x3, x4, x5⟩ := HS.out w6 (fun k h1 _ h2 => JX.see HO1.out HB3.out h62 (Below.refl _ _) k h1 h2); have hN6 := HSN.out w6 (JX.see HO1.out HB3.out h62 (Below.refl _ _))))
      all_goals
        clear x1 x2 x3 x4 x5 v1 v2 v3 v4 v5 k0 k1 k2 k3 kf0 kf1 kf2 kf3 hNc hNf r1 r2 r3
        have HEq := Lib.hid hEq
        clear hEq
        go_wp2_with fail
        go_ret
        first
          | exact ⟨rfl, HF.out.2.2.1, (HW.out.mono HZ.out).trans HF.out.2.2.2.1, fun k hk => (HF.out.2.2.2.2 k hk).trans (HXw.out k hk)⟩
          | (rw [HEq.out]; exact ⟨rfl, HF.out.2.2.1, (HW.out.mono HZ.out).trans HF.out.2.2.2.1, fun k hk => (HF.out.2.2.2.2 k hk).trans (HXw.out k hk)⟩)
    · have HG : Hid (gX (lt.map ET.e) (.ex e d) = (lt.map ET.e, true)) := by show (lt.map ET.e ++ (if d = 1 then [e] else []), true) = _; rw [if_neg hd, List.append_nil]
      have HP := Lib.hid (hSame.out HG.out)
      rw [HG.out]
      have bd : ((d : Int) == 1) = false := beq_eq_false_iff_ne.2 (by omega)
      unfold nodeV
      simp only [U.d] at *
      clear hw hC hO hb0 hX hok hSame HG hC1 hat hd
      go_enter Tryz.func42, Tryz.ntmps42
      go_wp2_with fail
      go_ret
      exact ⟨rfl, HP.out⟩
end Go.Proofs.YtkjefigebdbkaaaGreatDoor.A
namespace Go.Proofs.YtkjefigebdbkaaaGreatDoor.A
open Go.RowKit
open L (Str isName prt size_len below_2 below_box ret_bool ret_int eql_eq bytes_eq)

set_option maxHeartbeats 8000000 in
set_option maxRecDepth 100000 in
theorem oexprs_any (p : Pr) (a1 a2 : Option Addr) (c1 c2 : Nat) (hok : OkP p) (hsz : cB p.body ≤ 900000) (w : World) (hK : PrIn w p a1 a2) :
    Calls Tryz.prog 18 #[prV p a1 c1 a2 c2] w fun e' w' => GivesXs w (exprs p) e' w' := by
  have hw := below_box w (prO p a1 c1 a2 c2)
  have hbx := Bx.new w #[.string p.name, .slice a1 p.params.length c1, .slice a2 p.body.length c2] 25
  have hz1 : (w.alloc (prO p a1 c1 a2 c2)).heap.size = w.heap.size + 1 := by simp
  have hJ0 : JX (w.alloc (prO p a1 c1 a2 c2)) (w.heap.size + 1) 0 (fun _ => False) [] ((w.alloc (prO p a1 c1 a2 c2)).alloc (.cells #[.slice none 0 0] 38)) := ⟨[], rfl, by simp, none, 0, cell1_at (by simp), fun h => h, Own1.nil⟩
  have hb2 := below_box (w.alloc (prO p a1 c1 a2 c2)) (.cells #[.slice none 0 0] 38)
  have hC := owalkX_any (visX (w0 := w.alloc (prO p a1 c1 a2 c2)) (N := w.heap.size + 1) (by omega)) p a1 c1 a2 c2 hok.body hok.bodyLen (by omega) (hK.below hw).body [] _ hJ0 hb2
  rw [exprs_run] at hC
  have HC := Lib.hid hC
  have HBX := Lib.hid (hbx.below hb2)
  have HW := Lib.hid hw
  have HB := Lib.hid (below_2 hw hb2)
  have HZ := Lib.hid hz1
  have x0 := HBX.out.cell 0
  have x1 := HBX.out.cell 1
  have x2 := HBX.out.cell 2
  unfold prO at *
  unfold prV at *
  simp at x0 x1 x2
  clear hC hJ0 hb2 hw hbx hz1 hok hsz hK
  go_enter Tryz.func18, Tryz.ntmps18
  go_wp2_with fail
  refine HC.out.mono ?_; rintro e' w5 ⟨rfl, ⟨n5, lt, hlt, hll, pl, ql, hC5, _, hO5⟩, hb5⟩
  have s1 := hC5.cell
  have HV : Hid (GivesXs w (exprs p) (.returned (.slice pl lt.length ql)) w5) := by
    show GivesXs _ _ _ _
    rw [hlt]
    exact ⟨pl, ql, by rw [List.length_map], hO5.kids.now, HB.out.trans (hb5.mono HW.out.size)⟩
  clear hC5 hO5 hb5 hlt hll
  go_wp2_with fail
  go_ret
  exact HV.out
end Go.Proofs.YtkjefigebdbkaaaGreatDoor.A
