/-
  What the reference of layer 8 returns: stmt: what its walks share.
  What the program's function occurs of layer 8 returns: its contract.
  Plain mathematics of layer 8: a valid procedure's bounds.
  What the reference of layer 8 returns: Exprs, Names: contracts.
  What the reference of layer 8 returns: Names: a contract.
-/
import Derived.Test.YtnelpgeiioflmaaGreatDoorM10
import Derived.Test.YtnelpgeiioflmaaGreatDoorM08
import Derived.Lib.SlicesS
import Derived.Deep.CutRange
import Derived.Deep.RegionHeld3
import Derived.Test.YtnelpgeiioflmaaGreatDoorM03
import Derived.Test.YtnelpgeiioflmaaGreatDoorM09
namespace Go.Proofs.YtnelpgeiioflmaaGreatDoor.A
open Go.RowKit
open L (Str isName prt size_len below_2 below_box ret_bool ret_int eql_eq bytes_eq isName_any)

theorem bad_bools (s : St) : badS s = (decide (s.op < 1) || decide (8 < s.op) || (!uN s.op && !decide (s.name.size = 0)) || (!uM s.op && (s.mx != 0)) || (!uA s.op && !absent s.a) || (!uB s.op && !absent s.b) || (!uD s.op && decide (0 < (s.body.length : Int))) || (!uE s.op && decide (0 < (s.els.length : Int)))) := by
  unfold badS
  rw [show (s.mx != 0) = !decide (s.mx = 0) by simp [bne, Bool.beq_eq_decide_eq], empty_len, empty_len]
structure StW (s : St) (a1 : Option Addr) (c1 : Nat) (a2 : Option Addr) (c2 : Nat) (a3 a4 : Option Addr) (va vb : Int) (NM v1 v3 v4 : Bool) : Prop where
  aa : ∀ w, Calls Tryz.prog 74 #[.agg #[.int .i64 s.a.op, .int .i64 s.a.n, .string s.a.s, .slice a1 s.a.args.length c1]] w fun e' w' => e' = .returned (.bool v3) ∧ Below w.heap.size w w'
  ab : ∀ w, Calls Tryz.prog 74 #[.agg #[.int .i64 s.b.op, .int .i64 s.b.n, .string s.b.s, .slice a2 s.b.args.length c2]] w fun e' w' => e' = .returned (.bool v4) ∧ Below w.heap.size w w'
  nam : ∀ w, Calls Tryz.prog 49 #[.string s.name] w fun e' w' => e' = .returned (.bool NM) ∧ Below w.heap.size w w'
  va : ∀ w, StKids w s a1 a2 a3 a4 → Calls Tryz.prog 88 #[.agg #[.int .i64 s.a.op, .int .i64 s.a.n, .string s.a.s, .slice a1 s.a.args.length c1]] w fun e' w' => e' = .returned (.int .i64 va) ∧ Below w.heap.size w w'
  vb : ∀ w, StKids w s a1 a2 a3 a4 → Calls Tryz.prog 88 #[.agg #[.int .i64 s.b.op, .int .i64 s.b.n, .string s.b.s, .slice a2 s.b.args.length c2]] w fun e' w' => e' = .returned (.int .i64 vb) ∧ Below w.heap.size w w'
  name : (s.name.toList == []) = v1
  name2 : s.name.toList.isEmpty = v1
theorem stW_of (s : St) (a1 : Option Addr) (c1 : Nat) (a2 : Option Addr) (c2 : Nat) (a3 a4 : Option Addr) (hok : okS s) : StW s a1 c1 a2 c2 a3 a4 (vE s.a 1) (vE s.b 1) (nam s.name) (decide (s.name.size = 0)) (absent s.a) (absent s.b) where
  aa := fun w => rabsent_any s.a a1 c1 w
  ab := fun w => rabsent_any s.b a2 c2 w
  nam := fun w => isName_any s.name (by have := (okS_open hok).name; omega) w
  va := fun w h => rvalidExpr_any s.a a1 c1 (okS_open hok).a w h.a
  vb := fun w h => rvalidExpr_any s.b a2 c2 (okS_open hok).b w h.b
  name := nil_of
  name2 := empty_of
end Go.Proofs.YtnelpgeiioflmaaGreatDoor.A
namespace Go.Proofs.YtnelpgeiioflmaaGreatDoor.A
open Go.RowKit
open L (Str isName prt size_len below_2 below_box ret_bool ret_int eql_eq bytes_eq)

theorem names_len (p : Pr) (hpl : p.params.length ≤ 1000) : (names p).length ≤ 2000 := by
  unfold names
  rw [List.length_append, List.length_map]
  have h1 := List.length_filterMap_le V.decl (walk p)
  have h2 : (walk p).length ≤ 401 := by unfold walk; rw [List.length_take]; omega
  omega
end Go.Proofs.YtnelpgeiioflmaaGreatDoor.A
namespace Go.Proofs.YtnelpgeiioflmaaGreatDoor.A
open L (Str isName prt size_len)

mutual
theorem preE_root : ∀ (a : Ex) (r : Bool) (e : Ex), V.ex e true ∈ preE a r → e = a ∧ r = true
  | .mk o n s l, r, e, h => by
    rw [preE] at h
    rcases List.mem_cons.1 h with h | h
    · injection h with h1 h2
      exact ⟨h1, h2.symm⟩
    · exact absurd h (preEs_root l e)
theorem preEs_root : ∀ (l : List Ex) (e : Ex), ¬ V.ex e true ∈ preEs l
  | [], e, h => by rw [preEs] at h; cases h
  | a :: r, e, h => by
    rw [preEs] at h
    rcases List.mem_append.1 h with h | h
    · exact absurd (preE_root a false e h).2 (by decide)
    · exact preEs_root r e h
end
theorem preR_root {a e : Ex} (h : V.ex e true ∈ preR a) : e = a ∧ absent a = false ∧ preR a = preE a true := by
  unfold preR at h ⊢
  split at h
  · cases h
  · rename_i h0
    exact ⟨(preE_root a true e h).1, by simpa using h0, if_neg h0⟩
theorem root_ok {s : St} {d : Nat} (hg : stE s d = 0) {e : Ex} (h : V.ex e true ∈ preR s.a ∨ V.ex e true ∈ preR s.b) : vE e 1 = 0 := by
  have hg := good_of hg
  have hf := hg.form
  unfold badS at hf
  simp only [Bool.or_eq_false_iff, Bool.and_eq_false_iff, Bool.not_eq_false'] at hf
  obtain ⟨⟨⟨⟨_, h1⟩, h2⟩, _⟩, _⟩ := hf
  rcases h with h | h
  · obtain ⟨rfl, ha, _⟩ := preR_root h
    rcases h1 with h1 | h1
    · exact hg.a h1
    · rw [ha] at h1; cases h1
  · obtain ⟨rfl, ha, _⟩ := preR_root h
    rcases h2 with h2 | h2
    · exact hg.b h2
    · rw [ha] at h2; cases h2
mutual
theorem preS_root : ∀ (s : St) (d : Nat), (∀ t k, V.st t k ∈ preS s d → stE t k = 0) → ∀ e, V.ex e true ∈ preS s d → vE e 1 = 0 ∧ (preE e true).length ≤ (preS s d).length
  | .mk o nm mx a b bd el, d, hg, e, h => by
    rw [preS] at hg h ⊢
    have h0 := hg _ _ List.mem_cons_self
    rcases List.mem_cons.1 h with h | h
    · cases h
    rcases List.mem_append.1 h with h | h
    · rcases List.mem_append.1 h with h | h
      · have hv : vE e 1 = 0 := root_ok h0 (List.mem_append.1 h)
        refine ⟨hv, ?_⟩
        rcases List.mem_append.1 h with h | h
        · obtain ⟨rfl, _, he⟩ := preR_root h
          simp only [List.length_cons, List.length_append, he]
          omega
        · obtain ⟨rfl, _, he⟩ := preR_root h
          simp only [List.length_cons, List.length_append, he]
          omega
      · have := preB_root bd (d + 1) (fun t k ht => hg t k (by simp [ht])) e h
        refine ⟨this.1, ?_⟩
        simp only [List.length_cons, List.length_append]
        omega
    · have := preB_root el (d + 1) (fun t k ht => hg t k (by simp [ht])) e h
      refine ⟨this.1, ?_⟩
      simp only [List.length_cons, List.length_append]
      omega
theorem preB_root : ∀ (l : List St) (d : Nat), (∀ t k, V.st t k ∈ preB l d → stE t k = 0) → ∀ e, V.ex e true ∈ preB l d → vE e 1 = 0 ∧ (preE e true).length ≤ (preB l d).length
  | [], d, _, e, h => by rw [preB] at h; cases h
  | s :: r, d, hg, e, h => by
    rw [preB] at hg h ⊢
    rcases List.mem_append.1 h with h | h
    · have := preS_root s d (fun t k ht => hg t k (List.mem_append.2 (Or.inl ht))) e h
      refine ⟨this.1, ?_⟩
      rw [List.length_append]; omega
    · have := preB_root r d (fun t k ht => hg t k (List.mem_append.2 (Or.inr ht))) e h
      refine ⟨this.1, ?_⟩
      rw [List.length_append]; omega
end
end Go.Proofs.YtnelpgeiioflmaaGreatDoor.A
namespace Go.Proofs.YtnelpgeiioflmaaGreatDoor.A
open Go.RowKit
open L (Str isName prt size_len below_2 below_box ret_bool ret_int eql_eq bytes_eq)

def kE0 : RowK ET := { kE with inn := fun _ _ _ => True, next := fun _ _ => trivial }
def GivesXs (w : World) (x : List Ex) (e' : Ending) (w' : World) : Prop := ∃ p q, e' = .returned (.slice p x.length q) ∧ Kids w' p x ∧ Below w.heap.size w w'
theorem Own1.kids0 {w : World} {b0 : Nat} {Z : Nat → Prop} {p : Option Addr} {q : Nat} {l : List ET} (h : Own1 kE0 w b0 Z (.slice p l.length q) l) (hk : ∀ x ∈ l, Kids w x.a x.e.args) : Kids w p (l.map ET.e) := by
  by_cases h0 : l = []
  · left; rw [h0]; rfl
  · have hpos : 0 < l.length := List.length_pos_iff.2 h0
    obtain ⟨g, rfl, hz, _⟩ := h.cell hpos
    refine Or.inr ⟨g, 0, rfl, exs_of l 0 (fun j hj r hr => ?_) hk⟩
    obtain ⟨g2, hg, hz2, hc⟩ := h.cell hj
    cases hg
    rw [Nat.zero_add]
    exact hc r hr
theorem fm_take {α β : Type} (g : α → Option β) {l : List α} {k : Nat} (h : k < l.length) : (l.take (k + 1)).filterMap g = (l.take k).filterMap g ++ (match g l[k] with | some x => [x] | none => []) := by
  rw [List.take_succ_eq_append_getElem h, List.filterMap_append]
  congr 1
  rw [List.filterMap_cons]
  cases g l[k] <;> rfl
theorem fm_le {α β : Type} (g : α → Option β) (l : List α) (k : Nat) : ((l.take k).filterMap g).length ≤ k := by
  have := List.length_filterMap_le g (l.take k)
  rw [List.length_take] at this
  omega
set_option maxHeartbeats 8000000 in
set_option maxRecDepth 100000 in
theorem rexprs_any (p : Pr) (a1 a2 : Option Addr) (c1 c2 : Nat) (hok : okB p.body) (hl : p.body.length ≤ 1000000000000000) (w : World) (hK : Bodies w a2 p.body) :
    Calls Tryz.prog 48 #[prV p a1 c1 a2 c2] w fun e' w' => GivesXs w (exprs p) e' w' := by
  have hb := below_box w (prO p a1 c1 a2 c2)
  have HC := Lib.hid (rwalk_any p a1 a2 c1 c2 hok hl (w.alloc (prO p a1 c1 a2 c2)) (hK.below hb))
  have HB := Lib.hid hb
  have hn : (walk p).length ≤ 401 := by unfold walk; rw [List.length_take]; omega
  unfold prO at HC HB
  unfold prV at HC ⊢
  clear hok hK hb
  go_enter Tryz.func48, Tryz.ntmps48
  go_wp2_with fail
  refine HC.out.mono ?_; rintro e w2 ⟨p3, q3, l', rfl, ho, hi, hv, hb2⟩
  have HO := Lib.hid ho
  have HI := Lib.hid hi
  have HW := Lib.hid hv
  have HB2 := Lib.hid hb2
  have hln : l'.length ≤ 401 := by rw [← vs_len, hv]; exact hn
  clear ho hi hv hb2
  go_wp2_with fail
  go_loopw [4, 5] (fun s4 s5 wr => ∃ (k : Nat) (lt : List ET) (pl : Option Addr) (ql : Nat), k ≤ l'.length ∧ s5 = .int .i64 k ∧ s4 = .slice pl lt.length ql ∧ Hid (lt.map ET.e = ((walk p).take k).filterMap V.rooted) ∧ Hid (Own1 kE0 wr w2.heap.size (fun j => j < w2.heap.size) (.slice pl lt.length ql) lt) ∧ Hid (∀ x ∈ lt, Kids (w.alloc (.cells #[.string p.name, .slice a1 p.params.length c1, .slice a2 p.body.length c2] 25)) x.a x.e.args) ∧ Hid (Below w2.heap.size w2 wr)) (fun _ i _ => l'.length - (intOf i).toNat)
  case atStart => exact ⟨0, [], none, 0, Nat.zero_le _, rfl, rfl, rfl, Own1.nil, (fun x h => by cases h), Below.refl _ _⟩
  case round =>
    obtain ⟨k, lt, pl, ql, hk, rfl, rfl, HX, HR, HKs, HBr⟩ := hrel
    have hllk : lt.length ≤ k := by have := congrArg List.length HX.out; rw [List.length_map] at this; have h2 := fm_le V.rooted (walk p) k; omega
    by_cases hlt : k < l'.length
    · obtain ⟨g3, rfl, hcell⟩ := visit_cells HO.out hlt
      have hlw : k < (walk p).length := by rw [← HW.out, vs_len]; exact hlt
      have hvk : (walk p)[k] = (l'[k]).v := by simp only [← HW.out, vs, List.getElem_map]
      have hxt := fm_take V.rooted hlw
      rw [hvk] at hxt
      have hin := HI.out _ (List.getElem_mem hlt)
      have hg3 : g3 < w2.heap.size := by
        have h := hcell 0 (by omega)
        cases hh : l'[k] with
        | st s d a5 c5 a6 c6 a7 c7 a8 c8 => rw [hh] at h; exact block_lt_of_cell (show w2.cell? ⟨g3, k * 20 + 0, none⟩ = some (.bool true) from h)
        | ex e r a5 c5 => rw [hh] at h; exact block_lt_of_cell (show w2.cell? ⟨g3, k * 20 + 0, none⟩ = some (.bool false) from h)
      have hcr : ∀ r, r < 20 → wr.cell? ⟨g3, k * 20 + r, none⟩ = (l'[k]).cells[r]? := fun r hr => (HBr.out.cell (by exact hg3)).trans (hcell r hr)
      generalize l'[k] = y at hcr hxt hin
      clear hvk hlw hcell
      cases y with
      | st s d a5 c5 a6 c6 a7 c7 a8 c8 =>
        have f19 : wr.cell? ⟨g3, k * 20 + 19, none⟩ = some (.bool false) := hcr 19 (by omega)
        have HX2 : Hid (lt.map ET.e = ((walk p).take (k + 1)).filterMap V.rooted) := by show _ = _; rw [hxt, HX.out]; exact (List.append_nil _).symm
        clear hcr hxt hin
        go_wp2_with fail
        go_roundw
        case rel => exact ⟨k + 1, lt, pl, ql, by omega, by go_num, rfl, HX2.out, HR.out, HKs.out, HBr.out⟩
        case measure => simp [intOf]; omega
      | ex e r a5 c5 =>
        have f19 : wr.cell? ⟨g3, k * 20 + 19, none⟩ = some (.bool r) := hcr 19 (by omega)
        cases r
        · have HX2 : Hid (lt.map ET.e = ((walk p).take (k + 1)).filterMap V.rooted) := by show _ = _; rw [hxt, HX.out]; exact (List.append_nil _).symm
          clear hcr hxt hin
          go_wp2_with fail
          go_roundw
          case rel => exact ⟨k + 1, lt, pl, ql, by omega, by go_num, rfl, HX2.out, HR.out, HKs.out, HBr.out⟩
          case measure => simp [intOf]; omega
        · have f15 : wr.cell? ⟨g3, k * 20 + 15, none⟩ = some (.int .i64 e.op) := hcr 15 (by omega)
          have f16 : wr.cell? ⟨g3, k * 20 + 16, none⟩ = some (.int .i64 e.n) := hcr 16 (by omega)
          have f17 : wr.cell? ⟨g3, k * 20 + 17, none⟩ = some (.string e.s) := hcr 17 (by omega)
          have f18 : wr.cell? ⟨g3, k * 20 + 18, none⟩ = some (.slice a5 e.args.length c5) := hcr 18 (by omega)
          have h15 : k * 20 + 16 = k * 20 + 15 + 1 := by omega
          have h16 : k * 20 + 17 = k * 20 + 15 + 2 := by omega
          have h17 : k * 20 + 18 = k * 20 + 15 + 3 := by omega
          have t16 := f16
          have t17 := f17
          have t18 := f18
          rw [h15] at t16
          rw [h16] at t17
          rw [h17] at t18
          have HX2 : Hid ((lt ++ [(⟨e, a5, c5⟩ : ET)]).map ET.e = ((walk p).take (k + 1)).filterMap V.rooted) := by show _ = _; rw [hxt, List.map_append, HX.out]; rfl
          have HK2 : Hid (∀ x ∈ lt ++ [(⟨e, a5, c5⟩ : ET)], Kids (w.alloc (.cells #[.string p.name, .slice a1 p.params.length c1, .slice a2 p.body.length c2] 25)) x.a x.e.args) := fun x hx => by
            rcases List.mem_append.1 hx with hx | hx
            · exact HKs.out x hx
            · rw [List.mem_singleton] at hx; rw [hx]; exact hin
          have hz := HBr.out.size
          have HL6 : Hid ((lt ++ [(⟨e, a5, c5⟩ : ET)]).length = lt.length + 1) := by show _ = _; simp
          clear hcr hxt hin h15 h16 h17
          go_wp2_with (at_builtin; refine kE0.wpList rfl (.tmp 19) (.tmp 25) rfl w2.heap.size (.slice pl lt.length ql) lt rfl HR.out.row ⟨e, a5, c5⟩ _ rfl wr.heap.size rfl rfl (by omega) (by omega) ?_; intro g6 cap6 w6 hown6 hgrow6 hlie6)
          have HR6 := Lib.hid (HR.out.push trivial (fun j hj => by omega) hown6 hgrow6 hlie6)
          have HB6 := Lib.hid (HR.out.frame HBr.out hz hgrow6)
          clear hown6 hgrow6 hlie6
          go_wp2_with fail
          go_roundw
          case rel => exact ⟨k + 1, lt ++ [(⟨e, a5, c5⟩ : ET)], some ⟨g6, 0, none⟩, cap6, by omega, by go_num, by rw [HL6.out], HX2.out, by show Own1 _ _ _ _ _ _; rw [HL6.out]; exact HR6.out, HK2.out, HB6.out⟩
          case measure => simp [intOf]; omega
    · have hX := HX.out
      rw [List.take_of_length_le (by rw [← HW.out, vs_len]; omega)] at hX
      have hX2 : lt.map ET.e = exprs p := hX
      have hlen : lt.length = (exprs p).length := by rw [← hX2, List.length_map]
      have HV : Hid (GivesXs w (exprs p) (.returned (.slice pl lt.length ql)) wr) := by
        refine ⟨pl, ql, by rw [hlen], ?_, below_2 HB.out (below_2 HB2.out HBr.out)⟩
        rw [← hX2]
        exact HR.out.kids0 fun x hx => (HKs.out x hx).below (below_2 HB2.out HBr.out)
      clear hX hX2 hlen
      go_wp2_with fail
      go_ret
      exact HV.out
end Go.Proofs.YtnelpgeiioflmaaGreatDoor.A
namespace Go.Proofs.YtnelpgeiioflmaaGreatDoor.A
open Go.RowKit
open L (Str isName prt size_len below_2 below_box ret_bool ret_int eql_eq bytes_eq)

set_option maxHeartbeats 8000000 in
set_option maxRecDepth 100000 in
theorem rnames_any (p : Pr) (a1 a2 : Option Addr) (c1 c2 : Nat) (hok : OkP p) (hpl : p.params.length ≤ 1000) (w : World) (hK : PrIn w p a1 a2) :
    Calls Tryz.prog 23 #[prV p a1 c1 a2 c2] w fun e' w' => GivesN w (names p) e' w' := by
  have hb := below_box w (prO p a1 c1 a2 c2)
  have hbx := Bx.new w #[.string p.name, .slice a1 p.params.length c1, .slice a2 p.body.length c2] 25
  have HC := Lib.hid (fun w' hK => rwalk_any p a1 a2 c1 c2 hok.body hok.bodyLen w' hK)
  have HB := Lib.hid hb
  have HBX := Lib.hid hbx
  have HK := Lib.hid (hK.below hb)
  have hn : (walk p).length ≤ 401 := by unfold walk; rw [List.length_take]; omega
  have hnl := names_len p hpl
  have HND : Hid (names p = p.params.map Pm.name ++ (walk p).filterMap V.decl) := rfl
  obtain ⟨m, hm⟩ : ∃ m, p.params.length = m := ⟨_, rfl⟩
  have HL := Lib.hid hm
  unfold prO at *
  unfold prV at *
  rw [hm] at HC HB HBX HK hpl ⊢
  clear hok hK hb hbx hm
  go_enter Tryz.func23, Tryz.ntmps23
  go_wp2_with fail
  go_loopw [3, 4] (fun s3 s4 wr => ∃ (k : Nat) (l : List ByteArray) (pl : Option Addr) (ql : Nat), k ≤ m ∧ s4 = .int .i64 k ∧ s3 = .slice pl l.length ql ∧ Hid (l = (p.params.take k).map Pm.name) ∧ Hid (Own1 kN wr (w.heap.size + 1) (fun j => j < w.heap.size + 1) (.slice pl l.length ql) l) ∧ Hid (Below (w.alloc (.cells #[.string p.name, .slice a1 m c1, .slice a2 p.body.length c2] 25)).heap.size (w.alloc (.cells #[.string p.name, .slice a1 m c1, .slice a2 p.body.length c2] 25)) wr)) (fun _ i _ => m - (intOf i).toNat)
  case atStart => exact ⟨0, [], none, 0, Nat.zero_le _, rfl, rfl, rfl, Own1.nil, Below.refl _ _⟩
  case round =>
    obtain ⟨k, l, pl, ql, hk, rfl, rfl, HX, HR, HBr⟩ := hrel
    have hllk : l.length ≤ k := by have := congrArg List.length HX.out; rw [List.length_map, List.length_take] at this; omega
    have hbx := HBX.out.below HBr.out
    have x0 := hbx.cell 0
    have x1 := hbx.cell 1
    have x2 := hbx.cell 2
    simp at x0 x1 x2
    have hz1 : (w.alloc (.cells #[.string p.name, .slice a1 m c1, .slice a2 p.body.length c2] 25)).heap.size = w.heap.size + 1 := by simp
    have hz := HBr.out.size
    rw [hz1] at hz
    have HZ1 := Lib.hid hz1
    clear hz1 hbx
    by_cases hlt : k < m
    · have hlx : k < p.params.length := by rw [HL.out]; exact hlt
      obtain ⟨b3, i3, rfl, hcc⟩ := (HK.out.below HBr.out).params.open hlx
      obtain ⟨f0, f1⟩ := hcc k hlx
      have hxn := names_take hlx
      generalize p.params[k] = q at f0 f1 hxn
      have HXN : Hid (l ++ [q.name] = (p.params.take (k + 1)).map Pm.name) := by show _ = _; rw [hxn, HX.out]
      have HL6 : Hid ((l ++ [q.name]).length = l.length + 1) := by show _ = _; simp
      clear hcc hxn
      go_wp2_with (at_builtin; refine kN.wpList rfl (.tmp 14) (.tmp 21) rfl (w.heap.size + 1) (.slice pl l.length ql) l rfl HR.out.row q.name _ rfl wr.heap.size rfl rfl (by omega) (by omega) ?_; intro g6 cap6 w6 hown6 hgrow6 hlie6)
      have HR6 := Lib.hid (HR.out.push trivial (fun j hj => by omega) hown6 hgrow6 hlie6)
      have HB6 := Lib.hid (HR.out.frame (by rw [← HZ1.out]; exact HBr.out) hz hgrow6)
      clear hown6 hgrow6 hlie6
      go_wp2_with fail
      go_roundw
      case rel => exact ⟨k + 1, l ++ [q.name], some ⟨g6, 0, none⟩, cap6, by omega, by go_num, by rw [HL6.out], HXN.out, by show Own1 _ _ _ _ _ _; rw [HL6.out]; exact HR6.out, by show Below _ _ _; rw [HZ1.out]; exact HB6.out⟩
      case measure => simp [intOf]; omega
    · have hX := HX.out
      rw [List.take_of_length_le (by rw [HL.out]; omega)] at hX
      have HX0 := Lib.hid hX
      have HC2 := Lib.hid (HC.out wr (HK.out.below HBr.out).body)
      clear hX
      go_wp2_with fail
      refine HC2.out.mono ?_; rintro e w2 ⟨p3, q3, l', rfl, ho, hi, hv, hb2⟩
      have HO := Lib.hid ho
      have HW := Lib.hid hv
      have HB2 := Lib.hid hb2
      have HR2 := Lib.hid (HR.out.below hb2)
      have hz2 := hb2.size
      have hln : l'.length ≤ 401 := by rw [← vs_len, hv]; exact hn
      clear ho hi hv hb2 x0 x1 x2
      go_wp2_with fail
      go_loopw [3, 6] (fun s3 s6 w3 => ∃ (k2 : Nat) (l2 : List ByteArray) (pl : Option Addr) (ql : Nat), k2 ≤ l'.length ∧ s6 = .int .i64 k2 ∧ s3 = .slice pl l2.length ql ∧ Hid (l2 = l ++ ((walk p).take k2).filterMap V.decl) ∧ Hid (Own1 kN w3 (w.heap.size + 1) (fun j => j < w.heap.size + 1) (.slice pl l2.length ql) l2) ∧ Hid (∀ g, p3 = some ⟨g, 0, none⟩ → w3.heap[g]? = w2.heap[g]? ∧ (Value.slice pl l2.length ql).ownBlock ≠ some g) ∧ Hid (Below (w.heap.size + 1) w2 w3)) (fun _ i _ => l'.length - (intOf i).toNat)
      case atStart =>
        refine ⟨0, l, pl, ql, Nat.zero_le _, rfl, rfl, (List.append_nil l).symm, HR2.out, fun g hg => ⟨rfl, fun h => ?_⟩, Below.refl _ _⟩
        have h1 := (HR.out.lt g h).2
        have h2 := (World.ownsRow.lt HO.out g (by rw [hg]; rfl)).1
        omega
      case round =>
        obtain ⟨k2, l2, pl2, ql2, hk2, rfl, rfl, HX2, HR3, HG, HBs⟩ := hrel
        have hll2 : l2.length ≤ 1000 + k2 := by
          have := congrArg List.length HX2.out
          rw [List.length_append] at this
          have h2 := fm_le V.decl (walk p) k2
          omega
        have hz3 := HBs.out.size
        by_cases hlt2 : k2 < l'.length
        · obtain ⟨g3, rfl, hcell⟩ := visit_cells HO.out hlt2
          have hlw : k2 < (walk p).length := by rw [← HW.out, vs_len]; exact hlt2
          have hvk : (walk p)[k2] = (l'[k2]).v := by simp only [← HW.out, vs, List.getElem_map]
          have hxt := fm_take V.decl hlw
          rw [hvk] at hxt
          obtain ⟨hgh, hgn⟩ := HG.out g3 rfl
          have hcr : ∀ r, r < 20 → wr.cell? ⟨g3, k2 * 20 + r, none⟩ = (l'[k2]).cells[r]? := fun r hr => (World.cell?_of_block (w := w2) (by exact hgh)).trans (hcell r hr)
          generalize l'[k2] = y at hcr hxt
          clear hvk hlw hcell
          cases y with
          | ex e r a5 c5 =>
            have f0 : wr.cell? ⟨g3, k2 * 20, none⟩ = some (.bool false) := hcr 0 (by omega)
            have HX3 : Hid (l2 = l ++ ((walk p).take (k2 + 1)).filterMap V.decl) := by show _ = _; rw [hxt, ← List.append_assoc, ← HX2.out]; exact (List.append_nil _).symm
            clear hcr hxt
            go_wp2_with fail
            go_roundw
            case rel => exact ⟨k2 + 1, l2, pl2, ql2, by omega, by go_num, rfl, HX3.out, HR3.out, HG.out, HBs.out⟩
            case measure => simp [intOf]; omega
          | st s d a5 c5 a6 c6 a7 c7 a8 c8 =>
            have f0 : wr.cell? ⟨g3, k2 * 20, none⟩ = some (.bool true) := hcr 0 (by omega)
            have f1 : wr.cell? ⟨g3, k2 * 20 + 1, none⟩ = some (.int .i64 s.op) := hcr 1 (by omega)
            have f2 : wr.cell? ⟨g3, k2 * 20 + 2, none⟩ = some (.string s.name) := hcr 2 (by omega)
            have hd : V.decl (VT.st s d a5 c5 a6 c6 a7 c7 a8 c8).v = if s.op = 1 ∨ s.op = 6 then some s.name else none := rfl
            rw [hd] at hxt
            by_cases hop : s.op = 1 ∨ s.op = 6
            · rw [if_pos hop] at hxt
              have HX3 : Hid (l2 ++ [s.name] = l ++ ((walk p).take (k2 + 1)).filterMap V.decl) := by show _ = _; rw [hxt, ← List.append_assoc, ← HX2.out]
              have HL6 : Hid ((l2 ++ [s.name]).length = l2.length + 1) := by show _ = _; simp
              have t2 : wr.cell? ⟨g3, k2 * 20 + 1 + 1, none⟩ = some (.string s.name) := f2
              have hg3 := block_lt_of_cell f0
              clear hcr hxt hd
              rcases hop with hop | hop
              all_goals
                rw [hop] at f1
                clear hop
                go_wp2_with (at_builtin; refine kN.wpList rfl (.tmp 54) (.tmp 61) rfl (w.heap.size + 1) (.slice pl2 l2.length ql2) l2 rfl HR3.out.row s.name _ rfl wr.heap.size rfl rfl (by omega) (by omega) ?_; intro g6 cap6 w6 hown6 hgrow6 hlie6)
                have HR6 := Lib.hid (HR3.out.push trivial (fun j hj => by omega) hown6 hgrow6 hlie6)
                have HB6 := Lib.hid (HR3.out.frame HBs.out (by omega) hgrow6)
                have HG6 : Hid (∀ g, (some ⟨g3, 0, none⟩ : Option Addr) = some ⟨g, 0, none⟩ → w6.heap[g]? = w2.heap[g]? ∧ (Value.slice (some ⟨g6, 0, none⟩) (l2.length + 1) cap6).ownBlock ≠ some g) := fun g hg => by
                  have hgg : g3 = g := by injection hg with h; injection h
                  subst hgg
                  refine ⟨((hgrow6.block g3 (by simp; exact Nat.lt_succ_of_lt hg3) (fun e => hgn e.symm)).trans (Below.heap_alloc wr _ g3 hg3)).trans hgh, fun h => ?_⟩
                  have h6 : g6 = g3 := by injection h
                  rcases hlie6 with h7 | h7
                  · exact hgn (by rw [h7, h6])
                  · have hlt9 : g3 < wr.heap.size := hg3
                    omega
                clear hown6 hgrow6 hlie6
                go_wp2_with fail
                go_roundw
                case rel => exact ⟨k2 + 1, l2 ++ [s.name], some ⟨g6, 0, none⟩, cap6, by omega, by go_num, by rw [HL6.out], HX3.out, by show Own1 _ _ _ _ _ _; rw [HL6.out]; exact HR6.out, by intro g hg; rw [HL6.out]; exact HG6.out g hg, HB6.out⟩
                case measure => simp [intOf]; omega
            · rw [if_neg hop] at hxt
              have HX3 : Hid (l2 = l ++ ((walk p).take (k2 + 1)).filterMap V.decl) := by show _ = _; rw [hxt, ← List.append_assoc, ← HX2.out]; exact (List.append_nil _).symm
              have o1 : (s.op == 1) = false := beq_eq_false_iff_ne.2 (by omega)
              have o6 : (s.op == 6) = false := beq_eq_false_iff_ne.2 (by omega)
              clear hcr hxt hd hop
              go_wp2_with fail
              go_roundw
              case rel => exact ⟨k2 + 1, l2, pl2, ql2, by omega, by go_num, rfl, HX3.out, HR3.out, HG.out, HBs.out⟩
              case measure => simp [intOf]; omega
        · have hX2 := HX2.out
          rw [List.take_of_length_le (by rw [← HW.out, vs_len]; omega), HX0.out, ← HND.out] at hX2
          obtain ⟨_, _, hsh, hle⟩ := HR3.out.shape
          have hq : l2.length ≤ ql2 := by injection hsh with h1 h2 h3; omega
          have HV : Hid (GivesN w (names p) (.returned (.slice pl2 l2.length ql2)) wr) := by
            refine ⟨pl2, ql2, by rw [hX2], by rw [← hX2]; exact hq, by rw [← hX2]; exact HR3.out.strs, ?_⟩
            exact (below_2 HB.out (below_2 HBr.out HB2.out)).trans (HBs.out.mono (Nat.le_succ _))
          clear hX2 hsh hle hq
          go_wp2_with fail
          go_ret
          exact HV.out
end Go.Proofs.YtnelpgeiioflmaaGreatDoor.A
