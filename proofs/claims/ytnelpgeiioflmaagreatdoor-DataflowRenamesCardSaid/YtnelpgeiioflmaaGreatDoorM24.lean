/-
  What ast.Names returns, in a row of the call's own; slices.DeleteFunc over such a row: contracts.
  What the program's functions of layer 14 return: contracts.
  What the reference of layer 14 returns: all: contract.
  What the reference of layer 14 returns: Tainted, over what Check and Names return: contract.
  The law package of layer 14: has, reads, strings, within, touches: contracts.
-/
import Derived.Test.YtnelpgeiioflmaaGreatDoorM23
import Derived.Test.YtnelpgeiioflmaaGreatDoorSFShelf
import Derived.Deep.RegionLaw
import Derived.Test.YtnelpgeiioflmaaGreatDoorM22
namespace Go.Proofs.YtnelpgeiioflmaaGreatDoor.A
open Go.RowKit
open L (Str isName prt size_len below_2 below_box ret_bool ret_int eql_eq bytes_eq)

def GivesO (w : World) (x : List ByteArray) (e' : Ending) (w' : World) : Prop := ∃ p q b0 Z, e' = .returned (.slice p x.length q) ∧ x.length ≤ q ∧ w.heap.size ≤ b0 ∧ Own1 kN w' b0 Z (.slice p x.length q) x ∧ Below w.heap.size w w'
set_option maxHeartbeats 8000000 in
set_option maxRecDepth 100000 in
theorem onames_own (p : Pr) (a1 a2 : Option Addr) (c1 c2 : Nat) (hok : OkP p) (hsz : cB p.body ≤ 900000) (hpl : p.params.length ≤ 1000) (hps : ∀ j (h : j < p.params.length), p.params[j].name.size ≤ 281474976710656) (w : World) (hK : PrIn w p a1 a2) :
    Calls Tryz.prog 35 #[prV p a1 c1 a2 c2] w fun e' w' => GivesO w (names p) e' w' := by
  have hw := below_box w (prO p a1 c1 a2 c2)
  have hbx := Bx.new w #[.string p.name, .slice a1 p.params.length c1, .slice a2 p.body.length c2] 25
  have HWK := Lib.hid (fun (N : Nat) (hN : (w.alloc (prO p a1 c1 a2 c2)).heap.size ≤ N) (l : List ByteArray) (w' : World) (hJ : JM (w.alloc (prO p a1 c1 a2 c2)) N 0 (fun _ => False) l w') (hb : Below (w.alloc (prO p a1 c1 a2 c2)).heap.size (w.alloc (prO p a1 c1 a2 c2)) w') => owalkM_any (visM (w0 := w.alloc (prO p a1 c1 a2 c2)) hN) p a1 c1 a2 c2 hok.body hok.bodyLen (by omega) (hK.below hw).body l w' hJ hb)
  have HK := Lib.hid (hK.below hw).params
  have HW := Lib.hid hw
  have HBX := Lib.hid hbx
  have HNR := Lib.hid (names_run p)
  have HPS := Lib.hid hps
  have hJ0 : JL kN (w.alloc (prO p a1 c1 a2 c2)) (w.heap.size + 1) (fun _ => False) ([] : List ByteArray) ((w.alloc (prO p a1 c1 a2 c2)).alloc (.cells #[.slice none 0 0] 29)) := ⟨none, 0, cell1_at (by simp), fun h => h, Own1.nil⟩
  have HJ0 := Lib.hid hJ0
  have HZ1 : Hid ((w.alloc (prO p a1 c1 a2 c2)).heap.size = w.heap.size + 1) := by show _ = _; simp
  obtain ⟨m, hm⟩ : ∃ m, p.params.length = m := ⟨_, rfl⟩
  have HL := Lib.hid hm
  unfold prO at *
  unfold prV at *
  rw [hm] at HWK HK HW HBX HJ0 HZ1 hpl ⊢
  clear hw hbx hok hsz hps hK hJ0 hm
  go_enter Tryz.func35, Tryz.ntmps35
  go_wp2_with fail
  go_loopw [9] (fun s9 wr => ∃ (k : Nat) (l : List ByteArray), k ≤ m ∧ s9 = .int .i64 k ∧ Hid (l = (p.params.take k).map Pm.name) ∧ Hid (JL kN (w.alloc (.cells #[.string p.name, .slice a1 m c1, .slice a2 p.body.length c2] 25)) (w.heap.size + 1) (fun _ => False) l wr) ∧ Hid (Below (w.alloc (.cells #[.string p.name, .slice a1 m c1, .slice a2 p.body.length c2] 25)).heap.size (w.alloc (.cells #[.string p.name, .slice a1 m c1, .slice a2 p.body.length c2] 25)) wr)) (fun s9 _ => m - (intOf s9).toNat)
  case atStart => exact ⟨0, [], Nat.zero_le _, rfl, rfl, HJ0.out, below_box _ _⟩
  case round =>
    obtain ⟨k, l, hk, rfl, HX, HJ, HB⟩ := hrel
    have hllk : l.length ≤ k := by have := congrArg List.length HX.out; rw [List.length_map, List.length_take] at this; omega
    by_cases hlt : k < m
    · have hlx : k < p.params.length := by rw [HL.out]; exact hlt
      obtain ⟨b3, i3, rfl, hcc⟩ := (HK.out.below HB.out).open hlx
      obtain ⟨f0, f1⟩ := hcc k hlx
      have hqs := HPS.out k hlx
      have hxn := names_take hlx
      generalize p.params[k] = q at f0 f1 hqs hxn
      obtain ⟨pl, ql, hC, hNX, hO⟩ := HJ.out
      have hb7 := below_box wr (.cells #[.string q.name, .int .i64 q.ty] 49)
      have hC7 := hC.later hb7
      obtain ⟨n1, n2, n3⟩ := hC7
      have hz := HB.out.size
      have hz7 := hb7.size
      have HCl := Lib.hid (fun w => L.oclone_any q.name hqs w)
      have hO7 := hO.below hb7
      have hB7 : Below (w.alloc (.cells #[.string p.name, .slice (some ⟨b3, i3, none⟩) m c1, .slice a2 p.body.length c2] 25)).heap.size (w.alloc (.cells #[.string p.name, .slice (some ⟨b3, i3, none⟩) m c1, .slice a2 p.body.length c2] 25)) _ := HB.out.trans (hb7.mono hz)
      have HFin := Lib.hid (fun w3 w6 g' cap o (hb : Below (wr.alloc (.cells #[.string q.name, .int .i64 q.ty] 49)).heap.size (wr.alloc (.cells #[.string q.name, .int .i64 q.ty] 49)) w3) h1 h2 h3 => Own1.store (K := kN) (y := q.name) (g' := g') (cap := cap) (w6 := w6) (o := o) (fun _ h => h.elim) (by have := HZ1.out; omega) hNX (Nat.le_trans hz hz7) (hC.later hb7) hO7 hb trivial h1 h2 h3)
      have HO7 := Lib.hid hO7
      have HB7 := Lib.hid hB7
      have HXN : Hid (l ++ [q.name] = (p.params.take (k + 1)).map Pm.name) := by show _ = _; rw [hxn, HX.out]
      have g0 : (wr.alloc (.cells #[.string q.name, .int .i64 q.ty] 49)).cell? ⟨wr.heap.size, 0, none⟩ = some (.string q.name) := by go_simp
      clear hcc hC hNX hO hb7 hO7 hB7 hqs hxn
      go_wp2_with fail
      go_region_law
        (first
          | (refine kN.step rfl (.tmp 13) (.tmp 17) rfl _ (.slice pl l.length ql) l rfl HO3.out.row q.name _ rfl w3.heap.size rfl rfl (by omega) (by omega) ?_; intro g6 cap6 w6 hown6 hgrow6 hlie6; have HF6 := Lib.hid (HFin.out w3 w6 g6 cap6 _ HB3.out hown6 hgrow6 hlie6); obtain ⟨r1, r2, r3⟩ := HF6.out.1; clear hown6 hgrow6 hlie6)
          | (go_simp; go_at_call 57; refine (HCl.out _).mono ?_; rintro e' w3 ⟨rfl, hb3⟩; have HB3 := Lib.hid (below_2 (L.below_drew _) hb3); have HO3 := Lib.hid (HO7.out.below HB3.out); have hz3 := HB3.out.size; have t2 := (hb3.cell (by exact n1)).trans n2; have t3 := ((below_box w3 (.cells #[.string q.name] 9)).cell (block_lt_of_cell t2)).trans t2; clear hb3))
      all_goals
        have HL6 : Hid ((l ++ [q.name]).length = l.length + 1) := by show _ = _; simp
        go_wp2_with fail
        go_roundw
        case rel => exact ⟨k + 1, l ++ [q.name], by omega, by go_num, HXN.out, HF6.out.2.1, HB7.out.trans HF6.out.2.2.1⟩
        case measure => simp [intOf]; omega
    · have hX := HX.out
      rw [List.take_of_length_le (by rw [HL.out]; omega)] at hX
      have hbx3 := HBX.out.below HB.out
      have x0 := hbx3.cell 0
      have x1 := hbx3.cell 1
      have x2 := hbx3.cell 2
      simp at x0 x1 x2
      have hC := HWK.out (w.heap.size + 1) (by rw [HZ1.out]; omega) l wr ⟨by omega, HJ.out⟩ HB.out
      rw [hX, HNR.out] at hC
      have HC := Lib.hid hC
      have HBB := Lib.hid (below_2 HW.out HB.out)
      have hzw := HW.out.size
      have HZW := Lib.hid hzw
      clear hC hX hbx3 hzw
      go_wp2_with fail
      refine HC.out.mono ?_; rintro e' w5 ⟨rfl, ⟨n5, _, pl, ql, hC5, _, hO5⟩, hb5⟩
      have s1 := hC5.cell
      obtain ⟨_, _, hsh, hle⟩ := hO5.shape
      have hq : (names p).length ≤ ql := by injection hsh with h1 h2 h3; omega
      have HV : Hid (GivesO w (names p) (.returned (.slice pl (names p).length ql)) w5) := ⟨pl, ql, _, _, rfl, hq, by simp, hO5, HBB.out.trans (hb5.mono HZW.out)⟩
      clear hC5 hO5 hb5 hsh hle hq
      go_wp2_with fail
      go_ret
      exact HV.out
end Go.Proofs.YtnelpgeiioflmaaGreatDoor.A
namespace Go.Proofs.YtnelpgeiioflmaaGreatDoor.F
open Go.RowKit Go.WideMaps Go.Shelf
open Go.Sort (putRow mapBlock Holds holds_putRow size_putRow holds_ahead)
open L (Str isName prt size_len below_2 below_box ret_bool ret_int eql_eq bytes_eq)
open A (StrsAt kN Own1)

def cut (x : ByteArray) : ByteArray := if x.size ≤ maxLen then x else ⟨#[]⟩
theorem cut_ok (x : ByteArray) : (cut x).size ≤ maxLen := by
  unfold cut
  split
  · assumption
  · exact Nat.zero_le _
theorem cut_id {x : ByteArray} (h : x.size ≤ maxLen) : cut x = x := if_pos h
def encN (x : ByteArray) : Value := .string (cut x)
set_option maxHeartbeats 1000000 in
theorem onot_any (x : ByteArray) (hx : x.size ≤ maxLen) (B b N n : Nat) (g : ByteArray → Bool) (W : World) (hc : W.cell? ⟨B, 0, none⟩ = some (.map (some b))) (hM : MU W b N n g) :
    Calls Tryz.prog 36 #[.string x, .pointer (some ⟨B, 0, none⟩)] W fun e' w' => e' = .returned (.bool (g x)) ∧ ∃ q, w' = W.drewN q := by
  have hlook := hM.look hx
  clear hM
  generalize g x = r at hlook ⊢
  go_enter Tryz.func36, Tryz.ntmps36
  go_wp2_with fail
  go_ret
  exact ⟨rfl, 0, rfl⟩
theorem heap_putRow {α : Type} [Inhabited α] (enc : α → Value) (w : World) (blk off : Nat) (d : Array α) {j : Nat} (h : j ≠ blk) : (putRow enc w blk off d).heap[j]? = w.heap[j]? := by
  simp [putRow, mapBlock, Array.getElem?_modify, Ne.symm h]
theorem below_putRow {α : Type} [Inhabited α] (enc : α → Value) (w : World) (q blk off B : Nat) (d : Array α) (hB : B ≤ blk) : Below B w (putRow enc (Sort.ahead w q) blk off d) :=
  ⟨rfl, rfl, rfl, by simp [putRow, mapBlock, Sort.ahead], fun k hk => (heap_putRow enc _ blk off d (by omega)).trans rfl⟩
theorem frozen_row {w : World} {g : Nat} {cur : Array Value} {e : TypeId} (h : w.heap[g]? = some (.cells cur e (0, 0))) (i : Nat) : w.frozen? ⟨g, i, none⟩ = false := by
  simp [World.frozen?, h]
theorem filter_cut {g : ByteArray → Bool} {ns : List ByteArray} (h : ∀ x ∈ ns, x.size ≤ maxLen) : (ns.filter fun x => !g (cut x)) = ns.filter fun x => !g x :=
  List.filter_congr fun x hx => by rw [cut_id (h x hx)]
set_option maxHeartbeats 4000000 in
set_option maxRecDepth 100000 in
theorem odelete_any (ns : List ByteArray) (hns : ∀ x ∈ ns, x.size ≤ maxLen) (hl : ns.length ≤ 1000000000000000) (p : Option Addr) (cap : Nat) (b0 : Nat) (Z : Nat → Prop) (w : World) (hO : Own1 kN w b0 Z (.slice p ns.length cap) ns) (B b N n : Nat) (g : ByteArray → Bool)
    (hB : B < b0) (hb : b < b0) (hc : w.cell? ⟨B, 0, none⟩ = some (.map (some b))) (hM : MU w b N n g) :
    Calls Tryz.prog 34 #[.slice p ns.length cap, .func (Fn.func 36) #[] #[.pointer (some ⟨B, 0, none⟩)]] w
      fun e' w' => ∃ q, e' = .returned (.slice p (ns.filter fun x => !g x).length q) ∧ (ns.filter fun x => !g x).length ≤ q ∧ StrsAt w' p (ns.filter fun x => !g x) ∧ Below b0 w w' := by
  have hsh := hO.strs
  obtain ⟨-, hrow⟩ := hO.row
  by_cases h0 : ns = []
  · subst h0
    have HI := Lib.hid (AnyE.slices_IndexFunc_empty (P := Tryz.prog) (ρ := Tryz.laysDf_ren) { Tryz.laysDf with } p cap (.func (Fn.func 36) #[] #[.pointer (some ⟨B, 0, none⟩)]) w)
    have HI2 : Hid (Calls Tryz.prog 56 #[.slice p 0 cap, .func (Fn.func 36) #[] #[.pointer (some ⟨B, 0, none⟩)]] w fun e w' => e = .returned (.int .i64 (-1)) ∧ w' = w) := HI.out
    clear HI hsh hO hrow hM hns hl
    show Calls Tryz.prog 34 #[.slice p 0 cap, .func (Fn.func 36) #[] #[.pointer (some ⟨B, 0, none⟩)]] w
      fun e' w' => ∃ q, e' = .returned (.slice p 0 q) ∧ 0 ≤ q ∧ StrsAt w' p [] ∧ Below b0 w w'
    go_enter Tryz.func34, Tryz.ntmps34
    go_wp2_with fail
    refine HI2.out.mono ?_; rintro e' w2 ⟨rfl, rfl⟩
    go_wp2_with fail
    go_ret
    exact ⟨cap, rfl, Nat.zero_le _, Or.inl rfl, Below.refl _ _⟩
  · rcases hrow with ⟨hv, hl0⟩ | ⟨gg, cap', cur, hv, hbg, hheap, hcap, -, -, -⟩
    · exact absurd (List.length_eq_zero_iff.1 hl0) h0
    · injection hv with e1 e2 e3
      subst e1 e3
      have hgl : gg < w.heap.size := by
        have := hO.lt gg rfl
        exact this.2
      have hcells : ∀ j (h : j < ns.length), w.cell? ⟨gg, 0 + j, none⟩ = some (.string ns[j]) := fun j h => by
        rcases hsh with hsh | ⟨b3, i3, he, hc3⟩
        · exact absurd hsh h0
        · injection he with he
          injection he with he1 he2
          subst he1 he2
          exact hc3 j h
      have hH : Holds encN w gg 0 ns.toArray := fun j hj => by
        have hj' : j < ns.length := by simpa using hj
        refine ⟨?_, frozen_row hheap _⟩
        rw [hcells j hj', getElem!_pos ns.toArray j hj]
        show _ = some (Value.string (cut _))
        rw [List.getElem_toArray, cut_id (hns _ (List.getElem_mem hj'))]
      have eg : ∀ args w, (callFunc 36 args).run Tryz.prog w = .ok (.enter 36 args) w := enters_of Tryz.func36 (by kernel_rfl) rfl
      have hBw : B < w.heap.size := by omega
      have hbw : b < w.heap.size := by omega
      have hp : PredAt Tryz.prog 36 #[.pointer (some ⟨B, 0, none⟩)] encN (fun x => g (cut x)) w := fun W x hbl =>
        onot_any (cut x) (cut_ok x) B b N n g W ((hbl.cell (p := ⟨B, 0, none⟩) hBw).trans hc) (hM.below hbl)
      have hpo : PredOver Tryz.prog 36 #[.pointer (some ⟨B, 0, none⟩)] encN (fun x => g (cut x)) gg 0 ns.toArray.size w := fun k os dk x _ => by
        have hh : ∀ j, j < w.heap.size → j ≠ gg → (sortWorld encN w gg 0 k dk os).heap[j]? = w.heap[j]? := fun j hj hne => by
          unfold sortWorld
          rw [Sort.heap_grow_old _ _ (by show j < (putRow _ _ _ _ _).heap.size; rw [size_putRow]; exact hj)]
          exact heap_putRow _ _ _ _ _ hne
        exact onot_any (cut x) (cut_ok x) B b N n g _ ((World.cell?_of_block (w := w) (hh B hBw (by omega))).trans hc) (hM.moved (hh b hbw (by omega)))
      have hcon := AnyE.slices_DeleteFunc (P := Tryz.prog) (ρ := Tryz.laysDf_ren) Tryz.laysDf encN (fun _ => rfl) (fun x => g (cut x)) 36 #[.pointer (some ⟨B, 0, none⟩)] eg ⟨#[]⟩ Tryz.zeroValue9 gg 0 cap ns.toArray w hp hpo hH (by simp; omega) (by simpa using hcap)
      have hcon2 : Calls Tryz.prog 34 #[.slice (some ⟨gg, 0, none⟩) ns.length cap, .func (Fn.func 36) #[] #[.pointer (some ⟨B, 0, none⟩)]] w _ := hcon
      refine hcon2.mono ?_
      rintro e' w' ⟨rfl, q, rfl⟩
      rw [List.toList_toArray, filter_cut hns]
      have hfl := List.length_filter_le (fun x => !g x) ns
      have hfs : ∀ x ∈ ns.filter (fun x => !g x), x.size ≤ maxLen := fun x hx => hns x (List.mem_filter.1 hx).1
      generalize (ns.filter fun x => !g x) = r at hfl hfs ⊢
      have hH2 := holds_putRow encN (Sort.ahead w q) gg 0 ns.toArray (r ++ List.replicate (ns.toArray.size - r.length) (⟨#[]⟩ : ByteArray)).toArray (holds_ahead encN w q gg 0 ns.toArray hH) (by simp; omega)
      refine ⟨cap, rfl, by omega, Or.inr ⟨gg, 0, rfl, fun j hj => ?_⟩, below_putRow _ _ _ _ _ _ _ hbg⟩
      have h1 := (hH2 j (by simp; omega)).1
      rw [h1, getElem!_pos _ j (by simp; omega)]
      show some (Value.string (cut _)) = _
      rw [List.getElem_toArray, List.getElem_append_left hj, cut_id (hfs _ (List.getElem_mem hj))]
end Go.Proofs.YtnelpgeiioflmaaGreatDoor.F
namespace Go.Proofs.YtnelpgeiioflmaaGreatDoor.F
open Go.RowKit Go.WideMaps
open L (Str isName prt size_len below_2 below_box ret_bool ret_int eql_eq bytes_eq)
open A (Ex St Pm Pr exV exO Bx okB PrIn OkP prV prO names GivesN GivesO StrsAt cB)
open Y (chk Tb)

set_option maxHeartbeats 8000000 in
set_option maxRecDepth 100000 in
theorem oTainted_any (p : Pr) (a1 a2 : Option Addr) (c1 c2 : Nat) (hok : OkP p) (hsz : cB p.body ≤ 900000) (hpl : p.params.length ≤ 1000) (hps : ∀ j (h : j < p.params.length), p.params[j].name.size ≤ 281474976710656) (hc1 : p.params.length ≤ c1) (w : World) (ht : Tb w) (hK : PrIn w p a1 a2) :
    Calls Tryz.prog 12 #[prV p a1 c1 a2 c2] w (GivesN w (taint p)) := by
  have hb := below_box w (prO p a1 c1 a2 c2)
  have hbx := Bx.new w #[.string p.name, .slice a1 p.params.length c1, .slice a2 p.body.length c2] 25
  have HC := Lib.hid (oanalyze_any p a1 a2 c1 c2 hok hsz hpl hps hc1 _ (ht.below hb) (hK.below hb))
  have hb2 := hK.below hb
  have HNM := Lib.hid (fun w' hK => A.onames_own p a1 a2 c1 c2 hok hsz hpl hps w' hK)
  have HT0 : Hid ((chk p).2 ≠ 0 → taint p = []) := fun h => by unfold taint; rw [if_pos h]
  have HT1 : Hid ((chk p).2 = 0 → ∀ g, Fin p g → taint p = (names p).filter fun x => !g x) := fun h g f => f.taint h
  have HSZ : Hid ((chk p).2 = 0 → ∀ x ∈ names p, x.size ≤ maxLen) := fun h x hx => by
    have := (Y.val_body ((Y.chk_main p).2 h).val).2.2.2.2.2 x hx
    unfold maxLen; omega
  have hnl := A.names_len p hpl
  have HNL : Hid ((names p).length ≤ 1000000000000000) := by show _ ≤ _; omega
  have HB := Lib.hid hb
  have HX := Lib.hid hbx
  have HK := Lib.hid hb2
  unfold GivesU at HC
  generalize taint p = R at *
  generalize (chk p).2 = z at *
  generalize names p = ns at *
  obtain ⟨m, hm⟩ : ∃ m, p.params.length = m := ⟨_, rfl⟩
  unfold prO at *
  unfold prV at *
  rw [hm] at HC HNM HB HX HK ⊢
  clear hok hsz hpl hps hc1 hK hb hbx ht hm hb2 hnl
  have x0 := HX.out.cell 0
  have x1 := HX.out.cell 1
  have x2 := HX.out.cell 2
  simp only [List.getElem?_toArray, List.getElem?_cons_zero, List.getElem?_cons_succ] at x0 x1 x2
  go_enter Tryz.func12, Tryz.ntmps12
  go_wp2_with fail
  refine HC.out.mono ?_; rintro e' w2 (⟨hz, rfl, hb2⟩ | ⟨rfl, b, N, n, g, rfl, hM, hF, hbb, hb2⟩)
  · have HR : Hid (R = []) := HT0.out hz
    have HB2 := Lib.hid (below_2 HB.out (below_2 hb2 (below_box w2 (.cells #[.map none] 55))))
    clear hz hb2 x0 x1 x2
    go_wp2_with fail
    go_ret
    exact ⟨none, 0, by rw [HR.out]; rfl, by rw [HR.out]; exact Nat.le_refl _, Or.inl HR.out, HB2.out⟩
  · have hb3 := below_box w2 (.cells #[.map (some b)] 55)
    have HR : Hid (R = ns.filter fun x => !g x) := HT1.out (by trivial) g hF
    have hbl := hM.lt
    have HM := Lib.hid (hM.below hb3)
    have HBl : Hid (b < w2.heap.size) := hbl
    have HB2 := Lib.hid (below_2 hb2 hb3)
    have hx3 := HX.out.below (below_2 hb2 hb3)
    have HU := Lib.hid (Bx.new w2 #[.map (some b)] 55)
    have HN := Lib.hid (HNM.out _ (HK.out.below (below_2 hb2 hb3)))
    have HNS := Lib.hid (HSZ.out (by trivial))
    have y0 := hx3.cell 0
    have y1 := hx3.cell 1
    have y2 := hx3.cell 2
    simp only [List.getElem?_toArray, List.getElem?_cons_zero, List.getElem?_cons_succ] at y0 y1 y2
    clear hM hF hbb hb2 hb3 hx3 x0 x1 x2 hbl HT0 HT1 HSZ
    go_wp2_with fail
    refine HN.out.mono ?_; rintro e' w4 ⟨pn, qn, b0, Z, rfl, hqn, hb0, hown, hb4⟩
    have hu : w4.cell? ⟨w2.heap.size, 0, none⟩ = some (.map (some b)) := by
      have := (HU.out.below hb4).cell 0
      simpa only [List.getElem?_toArray, List.getElem?_cons_zero, List.getElem?_cons_succ] using this
    have hsz2 : (w2.alloc (.cells #[.map (some b)] 55)).heap.size = w2.heap.size + 1 := by simp
    have HD := Lib.hid (odelete_any ns HNS.out HNL.out pn qn b0 Z w4 hown w2.heap.size b N n g (by omega) (by have := HBl.out; omega) hu (HM.out.below hb4))
    have HB4 : Hid (Below w.heap.size w w4 ∧ w.heap.size ≤ b0) := ⟨below_2 HB.out (below_2 HB2.out hb4), by have := HB.out.size; have := HB2.out.size; omega⟩
    clear hqn hown hb4 hu hsz2 hb0 y0 y1 y2 HM HU HN HNS HNM
    go_wp2_with fail
    refine HD.out.mono ?_; rintro e' w5 ⟨q5, rfl, hq5, hs5, hb5⟩
    have HV : Hid (GivesN w R (.returned (.slice pn (ns.filter fun x => !g x).length q5)) w5) := by
      rw [HR.out]
      exact ⟨pn, q5, rfl, hq5, hs5, HB4.out.1.trans (hb5.mono HB4.out.2)⟩
    clear hq5 hs5 hb5
    go_wp2_with fail
    go_ret
    exact HV.out
set_option maxHeartbeats 8000000 in
set_option maxRecDepth 100000 in
theorem oKeys_any (p : Pr) (a1 a2 : Option Addr) (c1 c2 : Nat) (hok : OkP p) (hsz : cB p.body ≤ 900000) (hpl : p.params.length ≤ 1000) (hps : ∀ j (h : j < p.params.length), p.params[j].name.size ≤ 281474976710656) (hc1 : p.params.length ≤ c1) (w : World) (ht : Tb w) (hK : PrIn w p a1 a2) :
    Calls Tryz.prog 14 #[prV p a1 c1 a2 c2] w fun e' w' => e' = .returned (.bool (keysT p)) ∧ Below w.heap.size w w' := by
  have hb := below_box w (prO p a1 c1 a2 c2)
  have hbx := Bx.new w #[.string p.name, .slice a1 p.params.length c1, .slice a2 p.body.length c2] 25
  have HC := Lib.hid (oanalyze_any p a1 a2 c1 c2 hok hsz hpl hps hc1 _ (ht.below hb) (hK.below hb))
  have hb2 := hK.below hb
  have HT0 : Hid ((chk p).2 ≠ 0 → keysT p = false) := fun h => by unfold keysT; rw [if_pos h]
  have HQ : Hid ((chk p).2 = 0 → ∀ b N n g w', Fin p g → MU w' b N n g → Below (w.alloc (prO p a1 c1 a2 c2)).heap.size (w.alloc (prO p a1 c1 a2 c2)) w' → Calls Tryz.prog 39 #[.slice a2 p.body.length c2, .func (Fn.func 40) #[.map (some b)] #[]] w' fun e' w'' => e' = .returned (.bool (keysT p)) ∧ Below w'.heap.size w' w'') := fun h b N n g w' hF hM h2 => by
    rw [hF.keys h]
    exact oK_any p.body a2 c2 w' hok.body hok.bodyLen hM (hb2.body.below h2)
  have HB := Lib.hid hb
  have HX := Lib.hid hbx
  unfold GivesU at HC
  generalize keysT p = R at *
  generalize (chk p).2 = z at *
  obtain ⟨m, hm⟩ : ∃ m, p.params.length = m := ⟨_, rfl⟩
  unfold prO at *
  unfold prV at *
  rw [hm] at HC HQ HB HX ⊢
  clear hok hsz hpl hps hc1 hK hb hbx ht hm hb2
  have x0 := HX.out.cell 0
  have x1 := HX.out.cell 1
  have x2 := HX.out.cell 2
  simp only [List.getElem?_toArray, List.getElem?_cons_zero, List.getElem?_cons_succ] at x0 x1 x2
  go_enter Tryz.func14, Tryz.ntmps14
  go_wp2_with fail
  refine HC.out.mono ?_; rintro e' w2 (⟨hz, rfl, hb2⟩ | ⟨rfl, b, N, n, g, rfl, hM, hF, hbb, hb2⟩)
  · have HR : Hid (R = false) := HT0.out hz
    have HB2 := Lib.hid (below_2 HB.out hb2)
    clear hz hb2 x0 x1 x2
    go_wp2_with fail
    go_ret
    exact ⟨ret_bool HR.out.symm, HB2.out⟩
  · have HD := Lib.hid (HQ.out (by trivial) b N n g w2 hF hM hb2)
    have HB2 := Lib.hid (below_2 HB.out hb2)
    have hx3 := HX.out.below hb2
    have y2 := hx3.cell 2
    simp only [List.getElem?_toArray, List.getElem?_cons_zero, List.getElem?_cons_succ] at y2
    clear hM hF hbb hb2 hx3 x0 x1 x2 HT0 HQ
    go_wp2_with fail
    refine HD.out.mono ?_; rintro e' w5 ⟨rfl, hb5⟩
    have HB5 := Lib.hid (below_2 HB2.out hb5)
    clear hb5 y2
    go_wp2_with fail
    go_ret
    exact ⟨rfl, HB5.out⟩
set_option maxHeartbeats 8000000 in
set_option maxRecDepth 100000 in
theorem oCtrl_any (p : Pr) (a1 a2 : Option Addr) (c1 c2 : Nat) (hok : OkP p) (hsz : cB p.body ≤ 900000) (hpl : p.params.length ≤ 1000) (hps : ∀ j (h : j < p.params.length), p.params[j].name.size ≤ 281474976710656) (hc1 : p.params.length ≤ c1) (w : World) (ht : Tb w) (hK : PrIn w p a1 a2) :
    Calls Tryz.prog 16 #[prV p a1 c1 a2 c2] w fun e' w' => e' = .returned (.bool (ctrlT p)) ∧ Below w.heap.size w w' := by
  have hb := below_box w (prO p a1 c1 a2 c2)
  have hbx := Bx.new w #[.string p.name, .slice a1 p.params.length c1, .slice a2 p.body.length c2] 25
  have HC := Lib.hid (oanalyze_any p a1 a2 c1 c2 hok hsz hpl hps hc1 _ (ht.below hb) (hK.below hb))
  have hb2 := hK.below hb
  have HT0 : Hid ((chk p).2 ≠ 0 → ctrlT p = false) := fun h => by unfold ctrlT; rw [if_pos h]
  have HQ : Hid ((chk p).2 = 0 → ∀ b N n g w', Fin p g → MU w' b N n g → Below (w.alloc (prO p a1 c1 a2 c2)).heap.size (w.alloc (prO p a1 c1 a2 c2)) w' → Calls Tryz.prog 39 #[.slice a2 p.body.length c2, .func (Fn.func 42) #[.map (some b)] #[]] w' fun e' w'' => e' = .returned (.bool (ctrlT p)) ∧ Below w'.heap.size w' w'') := fun h b N n g w' hF hM h2 => by
    rw [hF.ctrl h]
    exact oB_any p.body a2 c2 w' hok.body hok.bodyLen hM (hb2.body.below h2)
  have HB := Lib.hid hb
  have HX := Lib.hid hbx
  unfold GivesU at HC
  generalize ctrlT p = R at *
  generalize (chk p).2 = z at *
  obtain ⟨m, hm⟩ : ∃ m, p.params.length = m := ⟨_, rfl⟩
  unfold prO at *
  unfold prV at *
  rw [hm] at HC HQ HB HX ⊢
  clear hok hsz hpl hps hc1 hK hb hbx ht hm hb2
  have x0 := HX.out.cell 0
  have x1 := HX.out.cell 1
  have x2 := HX.out.cell 2
  simp only [List.getElem?_toArray, List.getElem?_cons_zero, List.getElem?_cons_succ] at x0 x1 x2
  go_enter Tryz.func16, Tryz.ntmps16
  go_wp2_with fail
  refine HC.out.mono ?_; rintro e' w2 (⟨hz, rfl, hb2⟩ | ⟨rfl, b, N, n, g, rfl, hM, hF, hbb, hb2⟩)
  · have HR : Hid (R = false) := HT0.out hz
    have HB2 := Lib.hid (below_2 HB.out hb2)
    clear hz hb2 x0 x1 x2
    go_wp2_with fail
    go_ret
    exact ⟨ret_bool HR.out.symm, HB2.out⟩
  · have HD := Lib.hid (HQ.out (by trivial) b N n g w2 hF hM hb2)
    have HB2 := Lib.hid (below_2 HB.out hb2)
    have hx3 := HX.out.below hb2
    have y2 := hx3.cell 2
    simp only [List.getElem?_toArray, List.getElem?_cons_zero, List.getElem?_cons_succ] at y2
    clear hM hF hbb hb2 hx3 x0 x1 x2 HT0 HQ
    go_wp2_with fail
    refine HD.out.mono ?_; rintro e' w5 ⟨rfl, hb5⟩
    have HB5 := Lib.hid (below_2 HB2.out hb5)
    clear hb5 y2
    go_wp2_with fail
    go_ret
    exact ⟨rfl, HB5.out⟩
set_option maxHeartbeats 8000000 in
set_option maxRecDepth 100000 in
theorem oIndep_any (p : Pr) (a1 a2 : Option Addr) (c1 c2 : Nat) (hok : OkP p) (hsz : cB p.body ≤ 900000) (hpl : p.params.length ≤ 1000) (hps : ∀ j (h : j < p.params.length), p.params[j].name.size ≤ 281474976710656) (hc1 : p.params.length ≤ c1) (w : World) (ht : Tb w) (hK : PrIn w p a1 a2) :
    Calls Tryz.prog 18 #[prV p a1 c1 a2 c2] w fun e' w' => e' = .returned (.bool (indep p)) ∧ Below w.heap.size w w' := by
  have hb := below_box w (prO p a1 c1 a2 c2)
  have hbx := Bx.new w #[.string p.name, .slice a1 p.params.length c1, .slice a2 p.body.length c2] 25
  have HC := Lib.hid (Y.oCheck_any p a1 a2 c1 c2 hok hsz hpl hps hc1 _ (ht.below hb) (hK.below hb))
  have HQ : Hid (∀ w', Below (w.alloc (prO p a1 c1 a2 c2)).heap.size (w.alloc (prO p a1 c1 a2 c2)) w' → Calls Tryz.prog 14 #[prV p a1 c1 a2 c2] w' fun e' w'' => e' = .returned (.bool (keysT p)) ∧ Below w'.heap.size w' w'') := fun w' h2 =>
    oKeys_any p a1 a2 c1 c2 hok hsz hpl hps hc1 w' ((ht.below hb).below h2) ((hK.below hb).below h2)
  have HB := Lib.hid hb
  have HX := Lib.hid hbx
  unfold indep
  generalize keysT p = y at *
  generalize (chk p).2 = z at *
  obtain ⟨m, hm⟩ : ∃ m, p.params.length = m := ⟨_, rfl⟩
  unfold prO at *
  unfold prV at *
  rw [hm] at HC HQ HB HX ⊢
  clear hok hsz hpl hps hc1 hK hb hbx ht hm
  have x0 := HX.out.cell 0
  have x1 := HX.out.cell 1
  have x2 := HX.out.cell 2
  simp only [List.getElem?_toArray, List.getElem?_cons_zero, List.getElem?_cons_succ] at x0 x1 x2
  by_cases hz : z = 0
  · subst hz
    go_enter Tryz.func18, Tryz.ntmps18
    go_wp2_with fail
    refine HC.out.mono ?_; rintro e' w2 ⟨rfl, hb2⟩
    have HB2 := Lib.hid hb2
    have hx3 := HX.out.below hb2
    have y0 := hx3.cell 0
    have y1 := hx3.cell 1
    have y2 := hx3.cell 2
    simp only [List.getElem?_toArray, List.getElem?_cons_zero, List.getElem?_cons_succ] at y0 y1 y2
    clear hb2 hx3 x0 x1 x2
    go_wp2_with fail
    refine (HQ.out _ HB2.out).mono ?_; rintro e' w5 ⟨rfl, hb5⟩
    have HB5 := Lib.hid (below_2 HB.out (below_2 HB2.out hb5))
    clear hb5 y0 y1 y2
    go_wp2_with fail
    go_ret
    exact ⟨ret_bool (by simp), HB5.out⟩
  · have b1 : (z == 0) = false := beq_eq_false_iff_ne.2 hz
    have HV : Hid (false = (decide (z = 0) && !y)) := by show _ = _; rw [decide_eq_false hz]; rfl
    clear hz
    go_enter Tryz.func18, Tryz.ntmps18
    go_wp2_with fail
    refine HC.out.mono ?_; rintro e' w2 ⟨rfl, hb2⟩
    have HB2 := Lib.hid (below_2 HB.out hb2)
    clear hb2
    go_wp2_with fail
    go_ret
    exact ⟨ret_bool HV.out, HB2.out⟩
end Go.Proofs.YtnelpgeiioflmaaGreatDoor.F
namespace Go.Proofs.YtnelpgeiioflmaaGreatDoor.F
open Go.RowKit
open L (Str isName prt size_len below_2 below_box ret_bool ret_int eql_eq bytes_eq)
open A (Ex St Pm Pr Bx PrIn OkP prV prO exV okB StrsAt RowK Own1 kN cB cS)

theorem nmB_len : (∀ l : List St, (nmB l).length ≤ cB l) := by
  refine A.body_ind fun l ih => ?_
  induction l with
  | nil => rw [nmB]; exact Nat.zero_le _
  | cons s r ihr =>
    have h1 := ih 0 (by simp)
    have h2 := ihr fun j h => ih (j + 1) (by simpa using h)
    rw [nmB, cB, A.cS_parts]
    obtain ⟨o, nm, mx, a, b, bd, el⟩ := s
    rw [nmS, List.length_append, List.length_append, List.length_append]
    have h3 : (nmB bd).length ≤ cB bd := h1.1
    have h4 : (nmB el).length ≤ cB el := h1.2
    have h5 : (if nm.size ≠ 0 then [nm] else []).length ≤ 1 := by split <;> simp
    show _ ≤ 1 + nm.size / 64 + A.cE a + A.cE b + cB bd + cB el + cB r
    omega
def At (l : List St) (n : Int) (v : List ByteArray) : Prop := n = -1 ∨ ∃ v0, n = (v0.length : Int) ∧ Mid l v0 ∧ v = spB v0 false l
theorem At.done {l : List St} {n : Int} {v : List ByteArray} (h : At l n v) (hn : ¬ n < (v.length : Int)) : Least l v := by
  rcases h with rfl | ⟨v0, rfl, hm, rfl⟩
  · exact absurd (show (-1 : Int) < (v.length : Int) by omega) hn
  · obtain ⟨x, hx⟩ := spB_app l v0 false
    have e : (spB v0 false l).length = v0.length := by
      rw [hx, List.length_append] at hn ⊢
      omega
    have h0 : x = [] := by rw [hx, List.length_append] at e; exact List.length_eq_zero_iff.1 (by omega)
    rw [hx, h0, List.append_nil]
    exact hm.stop e
def GivesA (l : List St) (w : World) (e' : Ending) (w' : World) : Prop := ∃ v p q, e' = .returned (.slice p v.length q) ∧ Least l v ∧ v.length ≤ 80000 ∧ StrsAt w' p v ∧ Below w.heap.size w w'
set_option maxHeartbeats 8000000 in
set_option maxRecDepth 100000 in
theorem rall_any (p : Pr) (a1 a2 : Option Addr) (c1 c2 : Nat) (hok : okB p.body) (hl : p.body.length ≤ 1000000000000000) (hsz : cB p.body ≤ 10000) (w : World) (hK : A.Bodies w a2 p.body) :
    Calls Tryz.prog 37 #[prV p a1 c1 a2 c2] w (GivesA p.body w) := by
  have hb := below_box w (prO p a1 c1 a2 c2)
  have hbx := Bx.new w #[.string p.name, .slice a1 p.params.length c1, .slice a2 p.body.length c2] 25
  have HSP : Hid (∀ w' (v : List ByteArray) va vc, Below w.heap.size w w' → StrsAt w' va v → v.length ≤ 10000 → Calls Tryz.prog 60 #[.slice a2 p.body.length c2, .slice va v.length vc, .bool false] w' fun e' w'' => ∃ p' q, e' = .returned (.slice p' (spB v false p.body).length q) ∧ StrsAt w'' p' (spB v false p.body) ∧ Below w'.heap.size w' w'') := fun w' v va vc h1 h2 h3 =>
    spread_any p.body a2 c2 v va vc false w' hok hl h2 (hK.below h1) (by omega)
  have hnl : (nmB p.body).length ≤ 10000 := Nat.le_trans (nmB_len _) hsz
  have HNL := Lib.hid hnl
  have HB := Lib.hid hb
  have HX := Lib.hid hbx
  obtain ⟨N, hN⟩ : ∃ N, (nmB p.body).length = N := ⟨_, rfl⟩
  have HN := Lib.hid hN
  obtain ⟨m, hm⟩ : ∃ m, p.params.length = m := ⟨_, rfl⟩
  unfold prO at *
  unfold prV at *
  rw [hm] at HB HX ⊢
  clear hb hbx hok hl hK hnl hm hN
  obtain ⟨B, hB⟩ : ∃ B, p.body = B := ⟨_, rfl⟩
  rw [hB] at HSP HN HNL HB HX ⊢
  clear hB
  go_enter Tryz.func37, Tryz.ntmps37
  go_wp2_with fail
  go_loopw [3, 4] (fun s3 s4 wr => ∃ (n : Int) (v : List ByteArray) (va : Option Addr) (vc : Nat), s4 = .int .i64 n ∧ s3 = .slice va v.length vc ∧ -1 ≤ n ∧ Hid (Mid B v) ∧ Hid (At B n v) ∧ Hid (StrsAt wr va v) ∧ Hid (Below (w.alloc (.cells #[.string p.name, .slice a1 m c1, .slice a2 B.length c2] 25)).heap.size (w.alloc (.cells #[.string p.name, .slice a1 m c1, .slice a2 B.length c2] 25)) wr)) (fun _ s4 _ => ((N : Int) - intOf s4).toNat)
  case atStart => exact ⟨-1, [], none, 0, rfl, rfl, by omega, Mid.nil B, Or.inl rfl, Or.inl rfl, Below.refl _ _⟩
  case round =>
    obtain ⟨n, v, va, vc, rfl, rfl, hn1, HM, HA, HS, HBr⟩ := hrel
    have hx := HX.out.below HBr.out
    have x2 := hx.cell 2
    simp only [List.getElem?_toArray, List.getElem?_cons_zero, List.getElem?_cons_succ] at x2
    have hlen : v.length ≤ N := by rw [← HN.out]; exact HM.out.len
    have hN := HNL.out
    rw [HN.out] at hN
    have HBw := Lib.hid (below_2 HB.out HBr.out)
    clear hx
    by_cases hlt : n < (v.length : Int)
    · have bl : decide (n < (v.length : Int)) = true := decide_eq_true hlt
      have HC := Lib.hid (HSP.out wr v va vc HBw.out HS.out (by omega))
      have HM2 := Lib.hid HM.out.next
      have HA2 : Hid (At B (v.length : Int) (spB v false B)) := Or.inr ⟨v, rfl, HM.out, rfl⟩
      go_wp2_with fail
      refine HC.out.mono ?_; rintro e' w2 ⟨p2, q2, rfl, hs2, hb2⟩
      have HS2 := Lib.hid hs2
      have HB2 := Lib.hid (below_2 HBr.out hb2)
      clear hs2 hb2 x2
      go_wp2_with fail
      go_roundw
      case rel => exact ⟨(v.length : Int), spB v false B, p2, q2, by go_num, rfl, by omega, HM2.out, HA2.out, HS2.out, HB2.out⟩
      case measure => simp [intOf]; omega
    · have bl : decide (n < (v.length : Int)) = false := decide_eq_false hlt
      have HV : Hid (GivesA B w (.returned (.slice va v.length vc)) wr) := ⟨v, va, vc, rfl, HA.out.done hlt, by omega, HS.out, HBw.out⟩
      go_wp2_with fail
      go_ret
      exact HV.out
end Go.Proofs.YtnelpgeiioflmaaGreatDoor.F
namespace Go.Proofs.YtnelpgeiioflmaaGreatDoor.F
open Go.RowKit
open L (Str isName prt size_len below_2 below_box ret_bool ret_int eql_eq bytes_eq)
open A (Ex St Pm Pr Bx PrIn OkP prV prO exV okB StrsAt RowK Own1 kN cB cS names GivesN)
open Y (chk)

theorem filter_take {α : Type} {g : α → Bool} {l : List α} {k : Nat} (h : k < l.length) : (l.take (k + 1)).filter g = (l.take k).filter g ++ (if g l[k] = true then [l[k]] else []) := by
  rw [List.take_succ_eq_append_getElem h, List.filter_append]
  congr 1
  rw [List.filter_cons]
  cases g l[k] <;> simp
set_option maxHeartbeats 8000000 in
set_option maxRecDepth 100000 in
theorem rTaintedP_any (p : Pr) (a1 a2 : Option Addr) (c1 c2 : Nat) (hok : OkP p) (w : World) (hK : PrIn w p a1 a2)
    (hck : ∀ w', PrIn w' p a1 a2 → Calls Tryz.prog 20 #[prV p a1 c1 a2 c2] w' fun e' w'' => e' = .returned (.int .i64 (chk p).2) ∧ Below w'.heap.size w' w'')
    (hnm : (chk p).2 = 0 → ∀ w', PrIn w' p a1 a2 → Calls Tryz.prog 23 #[prV p a1 c1 a2 c2] w' (GivesN w' (names p)))
    (hsz : (chk p).2 = 0 → cB p.body ≤ 10000) (hnl : (chk p).2 = 0 → (names p).length ≤ 2000) :
    Calls Tryz.prog 13 #[prV p a1 c1 a2 c2] w (GivesN w (taint p)) := by
  have hb := below_box w (prO p a1 c1 a2 c2)
  have hbx := Bx.new w #[.string p.name, .slice a1 p.params.length c1, .slice a2 p.body.length c2] 25
  have HC := Lib.hid (hck _ (hK.below hb))
  have HAl : Hid ((chk p).2 = 0 → ∀ w', PrIn w' p a1 a2 → Calls Tryz.prog 37 #[prV p a1 c1 a2 c2] w' (GivesA p.body w')) := fun h0 w' k => rall_any p a1 a2 c1 c2 hok.body hok.bodyLen (hsz h0) w' k.body
  have HNm := Lib.hid hnm
  have HNl := Lib.hid hnl
  have HT0 : Hid ((chk p).2 ≠ 0 → taint p = []) := fun h => by unfold taint; rw [if_pos h]
  have HT1 : Hid ((chk p).2 = 0 → ∀ v, Least p.body v → taint p = (names p).filter (mem v)) := fun h v hv => taint_of h hv
  have HK := Lib.hid (hK.below hb)
  have HB := Lib.hid hb
  have HX := Lib.hid hbx
  generalize taint p = R at *
  generalize (chk p).2 = z at *
  generalize names p = ns at *
  unfold prO at *
  unfold prV at *
  obtain ⟨m, hm⟩ : ∃ m, p.params.length = m := ⟨_, rfl⟩
  rw [hm] at HC HAl HNm HB HX HK ⊢
  clear hb hbx hok hK hck hnm hsz hnl hm
  have x0 := HX.out.cell 0
  have x1 := HX.out.cell 1
  have x2 := HX.out.cell 2
  simp only [List.getElem?_toArray, List.getElem?_cons_zero, List.getElem?_cons_succ] at x0 x1 x2
  by_cases hz : z = 0
  case neg =>
    have b1 : (z != 0) = true := bne_iff_ne.2 hz
    have HR : Hid (R = []) := HT0.out hz
    clear hz
    go_enter Tryz.func13, Tryz.ntmps13
    go_wp2_with fail
    refine HC.out.mono ?_; rintro e' w2 ⟨rfl, hb2⟩
    have HB2 := Lib.hid (below_2 HB.out hb2)
    clear hb2
    go_wp2_with fail
    go_ret
    exact ⟨none, 0, by rw [HR.out]; rfl, by rw [HR.out]; exact Nat.le_refl _, Or.inl HR.out, HB2.out⟩
  subst hz
  go_enter Tryz.func13, Tryz.ntmps13
  go_wp2_with fail
  refine HC.out.mono ?_; rintro e' w2 ⟨rfl, hb2⟩
  have HB2 := Lib.hid hb2
  have HA2 := Lib.hid (HAl.out (by trivial) w2 (HK.out.below hb2))
  have hx2 := HX.out.below hb2
  have y0 := hx2.cell 0
  have y1 := hx2.cell 1
  have y2 := hx2.cell 2
  simp only [List.getElem?_toArray, List.getElem?_cons_zero, List.getElem?_cons_succ] at y0 y1 y2
  clear hb2 hx2 x0 x1 x2
  go_wp2_with fail
  refine HA2.out.mono ?_; rintro e' w3 ⟨v, pv, qv, rfl, hlv, hvl, hvs, hb3⟩
  have HB3 := Lib.hid (below_2 HB2.out hb3)
  have HR : Hid (R = ns.filter (mem v)) := HT1.out (by trivial) v hlv
  have HVL := Lib.hid hvl
  have HVs := Lib.hid hvs
  have HN3 := Lib.hid (HNm.out (by trivial) w3 (HK.out.below (below_2 HB2.out hb3)))
  have hx3 := HX.out.below (below_2 HB2.out hb3)
  have z0 := hx3.cell 0
  have z1 := hx3.cell 1
  have z2 := hx3.cell 2
  simp only [List.getElem?_toArray, List.getElem?_cons_zero, List.getElem?_cons_succ] at z0 z1 z2
  clear hlv hvl hvs hb3 hx3 y0 y1 y2
  go_wp2_with fail
  refine HN3.out.mono ?_; rintro e' w4 ⟨pn, qn, rfl, hqn, hns, hb4⟩
  have HB4 := Lib.hid (below_2 HB.out (below_2 HB3.out hb4))
  have HNs := Lib.hid hns
  have HV4 := Lib.hid (HVs.out.below hb4)
  have hmn : ns.length ≤ 2000 := HNl.out (by trivial)
  obtain ⟨g, hg⟩ : ∃ g, ns.length = g := ⟨_, rfl⟩
  have HG := Lib.hid hg
  rw [hg] at hmn ⊢
  clear hb4 hqn hns z0 z1 z2 hg
  go_wp2_with fail
  go_loopw [5, 6] (fun s5 s6 wr => ∃ (k : Nat) (out : List ByteArray) (pl : Option Addr) (ql : Nat), k ≤ g ∧ s6 = .int .i64 k ∧ s5 = .slice pl out.length ql ∧ Hid (out = (ns.take k).filter (mem v)) ∧ Hid (Own1 kN wr w4.heap.size (fun j => j < w4.heap.size) (.slice pl out.length ql) out) ∧ Hid (Below w4.heap.size w4 wr)) (fun _ i _ => g - (intOf i).toNat)
  case atStart => exact ⟨0, [], none, 0, Nat.zero_le _, rfl, rfl, by show _ = _; rw [List.take_zero]; rfl, Own1.nil, Below.refl _ _⟩
  case round =>
    obtain ⟨k, out, pl, ql, hk, rfl, rfl, HO, HR5, HBr⟩ := hrel
    have hlo : out.length ≤ k := by
      have h1 := congrArg List.length HO.out
      have h2 := List.length_filter_le (mem v) (ns.take k)
      rw [List.length_take] at h2
      omega
    have hzr := HBr.out.size
    by_cases hlt : k < g
    · have hlx : k < ns.length := by rw [HG.out]; exact hlt
      obtain ⟨bn, iN, rfl, hcn⟩ := (HNs.out.below HBr.out).open hlx
      have f0 := hcn k hlx
      have hft := filter_take (g := mem v) hlx
      have HH := Lib.hid (rhas_any v pv qv ns[k] (by have := HVL.out; omega) wr (HV4.out.below HBr.out))
      generalize ns[k] = x at f0 hft HH
      clear hcn
      have HH2 : Hid (Calls Tryz.prog 38 #[.slice pv v.length qv, .string x] wr fun e' w' => e' = .returned (.bool (mem v x)) ∧ w' = wr) := HH.out
      generalize mem v x = q at HH2 hft
      cases q with
      | true =>
        have HX3 : Hid (out ++ [x] = (ns.take (k + 1)).filter (mem v)) := by show _ = _; rw [hft, HO.out]; rfl
        have HL6 : Hid ((out ++ [x]).length = out.length + 1) := by show _ = _; simp
        clear hft
        go_wp2_with fail
        refine HH2.out.mono ?_; rintro e' w5 ⟨rfl, rfl⟩
        go_wp2_with (at_builtin; refine kN.wpList rfl (.tmp 26) (.tmp 31) rfl w4.heap.size (.slice pl out.length ql) out rfl HR5.out.row x _ rfl w5.heap.size rfl rfl (by omega) (by omega) ?_; intro g6 cap6 w6 hown6 hgrow6 hlie6)
        have HR6 := Lib.hid (HR5.out.push (y := x) trivial (fun j hj => by omega) hown6 hgrow6 hlie6)
        have HB6 := Lib.hid (HR5.out.frame HBr.out hzr hgrow6)
        clear hown6 hgrow6 hlie6
        go_wp2_with fail
        go_roundw
        case rel => exact ⟨k + 1, out ++ [x], some ⟨g6, 0, none⟩, cap6, by omega, by go_num, by rw [HL6.out], HX3.out, by show Own1 _ _ _ _ _ _; rw [HL6.out]; exact HR6.out, HB6.out⟩
        case measure => simp [intOf]; omega
      | false =>
        have HX3 : Hid (out = (ns.take (k + 1)).filter (mem v)) := by show _ = _; rw [hft, HO.out]; exact (List.append_nil _).symm
        clear hft
        go_wp2_with fail
        refine HH2.out.mono ?_; rintro e' w5 ⟨rfl, rfl⟩
        go_wp2_with fail
        go_roundw
        case rel => exact ⟨k + 1, out, pl, ql, by omega, by go_num, rfl, HX3.out, HR5.out, HBr.out⟩
        case measure => simp [intOf]; omega
    · have hO := HO.out
      rw [List.take_of_length_le (by rw [HG.out]; omega), ← HR.out] at hO
      obtain ⟨_, _, hsh, hle⟩ := HR5.out.shape
      have hq : out.length ≤ ql := by injection hsh with h1 h2 h3; omega
      have HV : Hid (GivesN w R (.returned (.slice pl out.length ql)) wr) := by
        rw [← hO]
        exact ⟨pl, ql, rfl, hq, HR5.out.strs, HB4.out.trans (HBr.out.mono HB4.out.size)⟩
      clear hO hsh hle hq
      go_wp2_with fail
      go_ret
      exact HV.out
end Go.Proofs.YtnelpgeiioflmaaGreatDoor.F
namespace Go.Proofs.YtnelpgeiioflmaaGreatDoor.F
open Go.RowKit
open L (Str isName prt size_len below_2 below_box ret_bool ret_int eql_eq bytes_eq)
open A (Ex St Pm Pr exV exO exV_mk Bx okE okEs okB StrsAt PrIn OkP prV prO exprs GivesXs)
open Y (isIn isIn_iff isIn_no)

set_option maxHeartbeats 4000000 in
set_option maxRecDepth 100000 in
theorem lhas_any (l : List ByteArray) (a : Option Addr) (c : Nat) (x : ByteArray) (hl : l.length ≤ 1000000000000000) (w : World) (hK : StrsAt w a l) :
    Calls Tryz.prog 27 #[.slice a l.length c, .string x] w fun e' w' => e' = .returned (.bool (isIn x l)) ∧ w' = w := by
  have HK := Lib.hid hK
  obtain ⟨R, hR⟩ : ∃ R, isIn x l = R := ⟨_, rfl⟩
  rw [hR]
  have HR : Hid (isIn x (l.drop 0) = R) := hR
  obtain ⟨m, hm⟩ : ∃ m, l.length = m := ⟨_, rfl⟩
  have HL := Lib.hid hm
  rw [hm] at hl ⊢
  clear hm hR hK
  go_enter Tryz.func27, Tryz.ntmps27
  go_wp2_with fail
  go_loopw [5] (fun s5 wr => ∃ k : Nat, k ≤ m ∧ s5 = .int .i64 k ∧ Hid (isIn x (l.drop k) = R) ∧ wr = w) (fun s5 _ => m - (intOf s5).toNat)
  case atStart => exact ⟨0, Nat.zero_le _, rfl, HR, rfl⟩
  case round =>
    obtain ⟨k, hk, rfl, HX, rfl⟩ := hrel
    by_cases hlt : k < m
    · have hlx : k < l.length := by rw [HL.out]; exact hlt
      obtain ⟨b3, i3, rfl, hcc⟩ := HK.out.open hlx
      have f0 := hcc k hlx
      have hx := HX.out
      rw [isIn_drop hlx] at hx
      generalize l[k] = q at f0 hx
      have hb := A.bytes_dec q x
      clear hcc
      by_cases hn : q = x
      · rw [decide_eq_true hn] at hb hx
        have HV : Hid (true = R) := hx
        clear hn hx
        go_wp2_with fail
        go_ret
        exact ⟨ret_bool HV.out, rfl⟩
      · rw [decide_eq_false hn] at hb hx
        have HX2 : Hid (isIn x (l.drop (k + 1)) = R) := hx
        clear hn hx
        go_wp2_with fail
        go_roundw
        case rel => exact ⟨k + 1, by omega, by go_num, HX2, trivial⟩
        case measure => simp [intOf]; omega
    · have hx := HX.out
      rw [List.drop_of_length_le (by have := HL.out; omega)] at hx
      have HV : Hid (false = R) := hx
      clear hx
      go_wp2_with fail
      go_ret
      exact ⟨ret_bool HV.out, rfl⟩
def QR (ns : List ByteArray) (e : Ex) : Prop := ∀ (a : Option Addr) (c : Nat) (la : Option Addr) (lc : Nat) (w : World), okE e → StrsAt w la ns → A.Kids w a e.args →
  Calls Tryz.prog 47 #[exV e a c, .slice la ns.length lc] w fun e' w' => e' = .returned (.bool (tE (mem ns) e)) ∧ Below w.heap.size w w'
set_option maxHeartbeats 8000000 in
set_option maxRecDepth 100000 in
theorem lreads_any {ns : List ByteArray} (hns : ns.length ≤ 1000000000000000) : ∀ e, QR ns e := by
  refine A.Ex.ind (P := QR ns) ?_
  intro o n s l ih a c la lc w hok hS hK
  have hK' : A.Kids w a l := hK
  have hb := below_box w (exO (.mk o n s l) a c)
  have hbx := Bx.new w #[.int .i64 o, .int .i64 n, .string s, .slice a l.length c] 42
  have HB := Lib.hid hb
  have HX := Lib.hid hbx
  have HK := Lib.hid (hK'.below hb)
  have HS := Lib.hid (hS.below hb)
  have HH : Hid (∀ w', StrsAt w' la ns → Calls Tryz.prog 27 #[.slice la ns.length lc, .string s] w' fun e' w'' => e' = .returned (.bool (mem ns s)) ∧ w'' = w') := fun w' h => lhas_any ns la lc s hns w' h
  have hokl : ∀ x ∈ l, okE x := by
    rw [okE] at hok
    exact fun x hx => by
      obtain ⟨j, hj, rfl⟩ := List.getElem_of_mem hx
      exact A.okEs.get hok.2.2.2.2 j hj
  have hll : l.length ≤ 1000000000000000 := by rw [okE] at hok; exact hok.2.2.2.1
  have HIH : Hid (∀ (k : Nat) (h : k < l.length) a2 c2 w', StrsAt w' la ns → A.Kids w' a2 l[k].args → Calls Tryz.prog 47 #[exV l[k] a2 c2, .slice la ns.length lc] w' fun e' w'' => e' = .returned (.bool (tE (mem ns) l[k])) ∧ Below w'.heap.size w' w'') :=
    fun k h a2 c2 w' h1 h2 => ih k h a2 c2 la lc w' (hokl _ (List.getElem_mem h)) h1 h2
  rw [tE]
  simp only [exV_mk]
  simp only [A.exO_mk] at HX HB HK HS
  obtain ⟨g, hg⟩ : ∃ g, l.length = g := ⟨_, rfl⟩
  have HL := Lib.hid hg
  obtain ⟨mm, hmm⟩ : ∃ g, ns.length = g := ⟨_, rfl⟩
  simp only [hmm] at HH HIH ⊢
  rw [hg] at hll HX HB HK HS ⊢
  have HG : Hid (tEs (mem ns) (l.drop 0) = tEs (mem ns) l) := rfl
  obtain ⟨R, hR⟩ : ∃ R, tEs (mem ns) l = R := ⟨_, rfl⟩
  rw [hR] at HG ⊢
  clear hg hmm hR ih hok hS hK hK' hb hbx hokl
  generalize mem ns s = q at HH ⊢
  have x0 := HX.out.cell 0
  have x2 := HX.out.cell 2
  simp only [List.getElem?_toArray, List.getElem?_cons_zero, List.getElem?_cons_succ] at x0 x2
  by_cases h22 : o = 22
  · subst h22
    go_enter Tryz.func47, Tryz.ntmps47
    go_wp2_with fail
    go_ret
    exact ⟨rfl, HB.out⟩
  by_cases h23 : o = 23
  · subst h23
    go_enter Tryz.func47, Tryz.ntmps47
    go_wp2_with fail
    go_ret
    exact ⟨rfl, HB.out⟩
  by_cases h24 : o = 24
  · subst h24
    go_enter Tryz.func47, Tryz.ntmps47
    go_wp2_with fail
    go_ret
    exact ⟨rfl, HB.out⟩
  have b22 : (o == 22) = false := beq_eq_false_iff_ne.2 h22
  have b23 : (o == 23) = false := beq_eq_false_iff_ne.2 h23
  have b24 : (o == 24) = false := beq_eq_false_iff_ne.2 h24
  have hac : acc o = false := by unfold acc; rw [decide_eq_false h22, decide_eq_false h23, decide_eq_false h24]; rfl
  rw [hac]
  clear h22 h23 h24 hac
  by_cases h3 : o = 3
  · subst h3
    go_enter Tryz.func47, Tryz.ntmps47
    go_wp2_with fail
    refine (HH.out _ HS.out).mono ?_; rintro e w2 ⟨rfl, rfl⟩
    cases q with
    | true =>
      go_wp2_with fail
      go_ret
      exact ⟨ret_bool (by simp), HB.out⟩
    | false =>
      go_wp2_with fail
      go_loopw [5] (fun s5 wr => ∃ k : Nat, k ≤ g ∧ s5 = .int .i64 k ∧ Hid (tEs (mem ns) (l.drop k) = R) ∧ Hid (Below (w.alloc (.cells #[.int .i64 3, .int .i64 n, .string s, .slice a g c] 42)).heap.size (w.alloc (.cells #[.int .i64 3, .int .i64 n, .string s, .slice a g c] 42)) wr)) (fun s5 _ => g - (intOf s5).toNat)
      case atStart => exact ⟨0, Nat.zero_le _, rfl, HG, Below.refl _ _⟩
      case round =>
        obtain ⟨k, hk, rfl, HG2, HBr⟩ := hrel
        have z0 := (HX.out.below HBr.out).cell 0
        have z1 := (HX.out.below HBr.out).cell 1
        have z2 := (HX.out.below HBr.out).cell 2
        have z3 := (HX.out.below HBr.out).cell 3
        have HBB := Lib.hid (below_2 HB.out HBr.out)
        by_cases hlt : k < g
        · have hlx : k < l.length := by rw [HL.out]; exact hlt
          obtain ⟨b2, i2, rfl, hat⟩ := (HK.out.below HBr.out).open hlx
          obtain ⟨d0, d1, d2, a2, cc, d3, hk2⟩ := hat.open
          have HCC := Lib.hid (HIH.out k hlx a2 cc _ (HS.out.below HBr.out) hk2)
          have hG := HG2.out
          rw [tEs_drop hlx] at hG
          clear hat hk2
          unfold exV at HCC
          generalize tE (mem ns) l[k] = y at HCC hG
          generalize l[k].args.length = m2 at d3 HCC
          generalize l[k].op = o2 at d0 HCC
          generalize l[k].n = n2 at d1 HCC
          generalize l[k].s = s2 at d2 HCC
          cases y with
          | true =>
            have HV : Hid (true = R) := hG
            clear hG
            go_wp2_with fail
            refine HCC.out.mono ?_; rintro e w2 ⟨rfl, hb2⟩
            have HB2 := Lib.hid (below_2 HBB.out hb2)
            clear hb2 z0 z1 z2 z3
            go_wp2_with fail
            go_ret
            exact ⟨ret_bool (by rw [← HV.out]; simp), HB2.out⟩
          | false =>
            have HG3 : Hid (tEs (mem ns) (l.drop (k + 1)) = R) := hG
            clear hG
            go_wp2_with fail
            refine HCC.out.mono ?_; rintro e w2 ⟨rfl, hb2⟩
            have HB2 := Lib.hid (below_2 HBr.out hb2)
            clear hb2 z0 z1 z2 z3
            go_wp2_with fail
            go_roundw
            case rel => exact ⟨k + 1, by omega, by go_num, HG3, HB2.out⟩
            case measure => simp [intOf]; omega
        · have hG := HG2.out
          rw [List.drop_of_length_le (by have := HL.out; omega), tEs] at hG
          have HV : Hid (false = R) := hG
          clear hG
          go_wp2_with fail
          go_ret
          exact ⟨ret_bool (by rw [← HV.out]; simp_all), HBB.out⟩
  · have b3 : (o == 3) = false := beq_eq_false_iff_ne.2 h3
    have b4 : decide (o = 3) = false := decide_eq_false h3
    rw [b4]
    clear h3 b4
    go_enter Tryz.func47, Tryz.ntmps47
    go_wp2_with fail
    go_loopw [5] (fun s5 wr => ∃ k : Nat, k ≤ g ∧ s5 = .int .i64 k ∧ Hid (tEs (mem ns) (l.drop k) = R) ∧ Hid (Below (w.alloc (.cells #[.int .i64 o, .int .i64 n, .string s, .slice a g c] 42)).heap.size (w.alloc (.cells #[.int .i64 o, .int .i64 n, .string s, .slice a g c] 42)) wr)) (fun s5 _ => g - (intOf s5).toNat)
    case atStart => exact ⟨0, Nat.zero_le _, rfl, HG, Below.refl _ _⟩
    case round =>
      obtain ⟨k, hk, rfl, HG2, HBr⟩ := hrel
      have z0 := (HX.out.below HBr.out).cell 0
      have z1 := (HX.out.below HBr.out).cell 1
      have z2 := (HX.out.below HBr.out).cell 2
      have z3 := (HX.out.below HBr.out).cell 3
      have HBB := Lib.hid (below_2 HB.out HBr.out)
      by_cases hlt : k < g
      · have hlx : k < l.length := by rw [HL.out]; exact hlt
        obtain ⟨b2, i2, rfl, hat⟩ := (HK.out.below HBr.out).open hlx
        obtain ⟨d0, d1, d2, a2, cc, d3, hk2⟩ := hat.open
        have HCC := Lib.hid (HIH.out k hlx a2 cc _ (HS.out.below HBr.out) hk2)
        have hG := HG2.out
        rw [tEs_drop hlx] at hG
        clear hat hk2
        unfold exV at HCC
        generalize tE (mem ns) l[k] = y at HCC hG
        generalize l[k].args.length = m2 at d3 HCC
        generalize l[k].op = o2 at d0 HCC
        generalize l[k].n = n2 at d1 HCC
        generalize l[k].s = s2 at d2 HCC
        cases y with
        | true =>
          have HV : Hid (true = R) := hG
          clear hG
          go_wp2_with fail
          refine HCC.out.mono ?_; rintro e w2 ⟨rfl, hb2⟩
          have HB2 := Lib.hid (below_2 HBB.out hb2)
          clear hb2 z0 z1 z2 z3
          go_wp2_with fail
          go_ret
          exact ⟨ret_bool (by rw [← HV.out]; simp), HB2.out⟩
        | false =>
          have HG3 : Hid (tEs (mem ns) (l.drop (k + 1)) = R) := hG
          clear hG
          go_wp2_with fail
          refine HCC.out.mono ?_; rintro e w2 ⟨rfl, hb2⟩
          have HB2 := Lib.hid (below_2 HBr.out hb2)
          clear hb2 z0 z1 z2 z3
          go_wp2_with fail
          go_roundw
          case rel => exact ⟨k + 1, by omega, by go_num, HG3, HB2.out⟩
          case measure => simp [intOf]; omega
      · have hG := HG2.out
        rw [List.drop_of_length_le (by have := HL.out; omega), tEs] at hG
        have HV : Hid (false = R) := hG
        clear hG
        go_wp2_with fail
        go_ret
        exact ⟨ret_bool (by rw [← HV.out]; simp_all), HBB.out⟩
set_option maxHeartbeats 4000000 in
set_option maxRecDepth 100000 in
theorem lwithin_any (l m : List ByteArray) (a b : Option Addr) (c d : Nat) (hl : l.length ≤ 1000000000000000) (hm : m.length ≤ 1000000000000000) (w : World) (hK : StrsAt w a l) (hM : StrsAt w b m) :
    Calls Tryz.prog 22 #[.slice a l.length c, .slice b m.length d] w fun e' w' => e' = .returned (.bool (l.all (mem m))) ∧ w' = w := by
  have HK := Lib.hid hK
  have HH : Hid (∀ x, Calls Tryz.prog 27 #[.slice b m.length d, .string x] w fun e' w' => e' = .returned (.bool (mem m x)) ∧ w' = w) := fun x => lhas_any m b d x hm w hM
  obtain ⟨R, hR⟩ : ∃ R, l.all (mem m) = R := ⟨_, rfl⟩
  rw [hR]
  have HR : Hid ((l.drop 0).all (mem m) = R) := hR
  obtain ⟨g, hg⟩ : ∃ m, l.length = m := ⟨_, rfl⟩
  have HL := Lib.hid hg
  rw [hg] at hl ⊢
  generalize m.length = n at HH ⊢
  clear hg hR hK hM hm
  go_enter Tryz.func22, Tryz.ntmps22
  go_wp2_with fail
  go_loopw [5] (fun s5 wr => ∃ k : Nat, k ≤ g ∧ s5 = .int .i64 k ∧ Hid ((l.drop k).all (mem m) = R) ∧ wr = w) (fun s5 _ => g - (intOf s5).toNat)
  case atStart => exact ⟨0, Nat.zero_le _, rfl, HR, rfl⟩
  case round =>
    obtain ⟨k, hk, rfl, HX, rfl⟩ := hrel
    by_cases hlt : k < g
    · have hlx : k < l.length := by rw [HL.out]; exact hlt
      obtain ⟨b3, i3, rfl, hcc⟩ := HK.out.open hlx
      have f0 := hcc k hlx
      have hx := HX.out
      rw [List.drop_eq_getElem_cons hlx, List.all_cons] at hx
      have HC := Lib.hid (HH.out l[k])
      generalize l[k] = q at f0 hx HC
      generalize mem m q = y at hx HC
      clear hcc
      cases y with
      | false =>
        have HV : Hid (false = R) := hx
        clear hx
        go_wp2_with fail
        refine HC.out.mono ?_; rintro e w2 ⟨rfl, rfl⟩
        go_wp2_with fail
        go_ret
        exact ⟨ret_bool HV.out, rfl⟩
      | true =>
        have HX2 : Hid ((l.drop (k + 1)).all (mem m) = R) := hx
        clear hx
        go_wp2_with fail
        refine HC.out.mono ?_; rintro e w2 ⟨rfl, rfl⟩
        go_wp2_with fail
        go_roundw
        case rel => exact ⟨k + 1, by omega, by go_num, HX2, trivial⟩
        case measure => simp [intOf]; omega
    · have hx := HX.out
      rw [List.drop_of_length_le (by have := HL.out; omega)] at hx
      have HV : Hid (true = R) := hx
      clear hx
      go_wp2_with fail
      go_ret
      exact ⟨ret_bool HV.out, rfl⟩
theorem eq_drop {l m : List ByteArray} {k : Nat} (h1 : k < l.length) (h2 : k < m.length) : decide (l.drop k = m.drop k) = (decide (l[k] = m[k]) && decide (l.drop (k + 1) = m.drop (k + 1))) := by
  rw [List.drop_eq_getElem_cons h1, List.drop_eq_getElem_cons h2, ← Bool.decide_and]
  exact decide_eq_decide.2 ⟨fun h => by injection h with a b; exact ⟨a, b⟩, fun h => by rw [h.1, h.2]⟩
set_option maxHeartbeats 4000000 in
set_option maxRecDepth 100000 in
theorem lstrings_any (l m : List ByteArray) (a b : Option Addr) (c d : Nat) (hm : m.length ≤ 1000000000000000) (w : World) (hK : StrsAt w a l) (hM : StrsAt w b m) :
    Calls Tryz.prog 11 #[.slice a l.length c, .slice b m.length d] w fun e' w' => e' = .returned (.bool (decide (l = m))) ∧ Below w.heap.size w w' := by
  have HK := Lib.hid hK
  have HM := Lib.hid hM
  obtain ⟨R, hR⟩ : ∃ R, decide (l = m) = R := ⟨_, rfl⟩
  rw [hR]
  have HR : Hid (decide (l.drop 0 = m.drop 0) = R) := hR
  obtain ⟨g, hg⟩ : ∃ m, l.length = m := ⟨_, rfl⟩
  have HL := Lib.hid hg
  rw [hg]
  by_cases hne : m.length = g
  case neg =>
    have hne2 : (g : Int) ≠ (m.length : Int) := by omega
    have hb : ((g : Int) != (m.length : Int)) = true := bne_iff_ne.2 hne2
    have HV : Hid (false = R) := by
      show _ = _
      rw [← hR, decide_eq_false]
      intro e
      rw [← e, hg] at hne
      exact hne rfl
    generalize m.length = n at *
    clear hR hne hne2 hK hM hg
    go_enter Tryz.func11, Tryz.ntmps11
    go_wp2_with fail
    go_ret
    exact ⟨ret_bool HV.out, Below.refl _ _⟩
  have HLm := Lib.hid hne
  rw [hne] at hm ⊢
  clear hg hR hK hM hne
  go_enter Tryz.func11, Tryz.ntmps11
  go_wp2_with fail
  go_loopw [5] (fun s5 wr => ∃ k : Nat, k ≤ g ∧ s5 = .int .i64 k ∧ Hid (decide (l.drop k = m.drop k) = R) ∧ Hid (Below w.heap.size w wr)) (fun s5 _ => g - (intOf s5).toNat)
  case atStart => exact ⟨0, Nat.zero_le _, rfl, HR, Below.refl _ _⟩
  case round =>
    obtain ⟨k, hk, rfl, HX, HB⟩ := hrel
    by_cases hlt : k < g
    · have hlx : k < l.length := by rw [HL.out]; exact hlt
      have hmx : k < m.length := by rw [HLm.out]; exact hlt
      obtain ⟨b3, i3, rfl, hcc⟩ := (HK.out.below HB.out).open hlx
      obtain ⟨b4, i4, rfl, hcd⟩ := (HM.out.below HB.out).open hmx
      have f0 := hcc k hlx
      have f1 := hcd k hmx
      have hx := HX.out
      rw [eq_drop hlx hmx] at hx
      generalize l[k] = q at f0 hx
      generalize m[k] = r at f1 hx
      have hb := A.bytes_dec q r
      have hBd := Lib.hid (below_2 HB.out (L.below_drew wr))
      clear hcc hcd
      by_cases hn : q = r
      · rw [decide_eq_true hn] at hb hx
        have HX2 : Hid (decide (l.drop (k + 1) = m.drop (k + 1)) = R) := hx
        clear hn hx
        go_wp2_with fail
        go_region
        go_wp2_with fail
        go_roundw
        case rel => exact ⟨k + 1, by omega, by go_num, HX2, hBd.out⟩
        case measure => simp [intOf]; omega
      · rw [decide_eq_false hn] at hb hx
        have HV : Hid (false = R) := hx
        clear hn hx
        go_wp2_with fail
        go_region
        go_wp2_with fail
        go_ret
        exact ⟨ret_bool HV.out, hBd.out⟩
    · have hx := HX.out
      rw [List.drop_of_length_le (by have := HL.out; omega), List.drop_of_length_le (by have := HLm.out; omega)] at hx
      have HV : Hid (true = R) := by show _ = _; rw [← hx]; rfl
      clear hx
      go_wp2_with fail
      go_ret
      exact ⟨ret_bool HV.out, HB.out⟩
theorem quiet_not (p : Pr) : quiet p = !((exprs p).any (tE no)) := by
  unfold quiet
  induction exprs p with
  | nil => rfl
  | cons e l ih => rw [List.all_cons, List.any_cons, ih, Bool.not_or]
end Go.Proofs.YtnelpgeiioflmaaGreatDoor.F
