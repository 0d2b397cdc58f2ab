/-
  What the program's function Names of layer 8 returns: its contract.
  What the program's functions of layer 8 return: paramsError and what it calls: contracts.
  What the program's functions of layer 8 return: fillsOthers, stmtError: contracts.
  What the program's function stmtError of layer 8 returns: its contract.
  The program's function walk of layer 8, for each function value that it is called with: what walk leaves is what the steps leave, node by node.
-/
import Derived.Test.YtkjefigebdbkaaaDoorM06
import Derived.Test.YtkjefigebdbkaaaDoorM07
import Derived.Deep.RegionLaw
import Derived.Test.YtkjefigebdbkaaaDoorM05
import Derived.Laws.OwnMore
import Derived.Deep.Cut
namespace Go.Proofs.YtkjefigebdbkaaaDoor.A
open Go.RowKit
open L (Str isName prt size_len below_2 below_box ret_bool ret_int eql_eq bytes_eq)

theorem info_n : (Tryd.prog.info? 9).map (fun i => (i.zero, i.size, i.bytes)) = some (some (.string ⟨#[]⟩), 1, 16) := by kernel_rfl
def kN : RowK ByteArray where
  f := fun x => [.string x]
  size := 1
  bytes := 16
  t := 77
  e := 9
  z := .string ⟨#[]⟩
  inn := fun _ _ _ => True
  und := Tryd.underlying77
  info := info_n
  len := fun _ => rfl
  one := fun x u hu => by simp at hu; rw [hu]; rfl
  pos := by decide
  zs := rfl
  small := by decide
  next := fun _ _ => trivial
/-- strings in memory -/
def StrsAt (w : World) (a : Option Addr) (l : List ByteArray) : Prop := l = [] ∨ ∃ b i, a = some ⟨b, i, none⟩ ∧ ∀ j (h : j < l.length), w.cell? ⟨b, i + j, none⟩ = some (.string l[j])
theorem StrsAt.below {w w' : World} {a : Option Addr} {l : List ByteArray} (h : StrsAt w a l) (hb : Below w.heap.size w w') : StrsAt w' a l := by
  rcases h with h | ⟨b, i, ha, h⟩
  · exact Or.inl h
  · exact Or.inr ⟨b, i, ha, fun j hj => (hb.cell (block_lt_of_cell (h j hj))).trans (h j hj)⟩
theorem StrsAt.open {w : World} {a : Option Addr} {l : List ByteArray} (h : StrsAt w a l) {k : Nat} (hk : k < l.length) : ∃ b i, a = some ⟨b, i, none⟩ ∧ ∀ j (h : j < l.length), w.cell? ⟨b, i + j, none⟩ = some (.string l[j]) :=
  h.resolve_left (fun e => by rw [e] at hk; exact absurd hk (Nat.not_lt_zero _))
theorem Own1.strs {w : World} {b0 : Nat} {Z : Nat → Prop} {p : Option Addr} {q : Nat} {l : List ByteArray} (h : Own1 kN w b0 Z (.slice p l.length q) l) : StrsAt w p l := by
  by_cases h0 : l = []
  · exact Or.inl h0
  · obtain ⟨g, rfl, _, _⟩ := h.cell (List.length_pos_iff.2 h0)
    refine Or.inr ⟨g, 0, rfl, fun j hj => ?_⟩
    obtain ⟨g2, hg, _, hc⟩ := h.cell hj
    cases hg
    have := hc 0 (by decide)
    rw [Nat.zero_add]
    rw [show j * kN.size + 0 = j from Nat.mul_one j] at this
    exact this

/-! ### a list in a captured variable -/

def ZL (w0 : World) (X : Nat → Prop) (N : Nat) (k : Nat) : Prop := k < w0.heap.size ∨ X k ∨ k = N
def JL {α : Type} (K : RowK α) (w0 : World) (N : Nat) (X : Nat → Prop) (l : List α) (w : World) : Prop := ∃ p q, Cell1 N (.slice p l.length q) w ∧ ¬ X N ∧ Own1 K w w0.heap.size (ZL w0 X N) (.slice p l.length q) l
namespace JL
variable {α : Type} {K : RowK α} {w0 w w' : World} {N : Nat} {X : Nat → Prop} {l : List α}
theorem keep (h : JL K w0 N X l w) (_ : w.heap.size ≤ w'.heap.size) (hk : ∀ k, k < w.heap.size → ¬ X k → w'.heap[k]? = w.heap[k]?) : JL K w0 N X l w' := by
  obtain ⟨p, q, hc, hx, ho⟩ := h
  exact ⟨p, q, hc.moved (hk N hc.lt hx), hx, ho.next ⟨fun k hk1 hz => hk k hk1 (fun h2 => hz (Or.inr (Or.inl h2))), fun k hk => Or.inl hk⟩⟩
theorem wide (h : JL K w0 N (fun _ => False) l w) (hx : ∀ k, X k → w.heap.size ≤ k) : JL K w0 N X l w := by
  obtain ⟨p, q, hc, _, ho⟩ := h
  refine ⟨p, q, hc, fun h2 => by have := hx N h2; have := hc.lt; omega, ho.next ⟨fun _ _ _ => rfl, fun k hk => ?_⟩⟩
  rcases hk with hk | hk | hk
  · exact Or.inl (Or.inl hk)
  · exact Or.inr (hx k hk)
  · exact Or.inl (Or.inr (Or.inr hk))
theorem narrow (h : JL K w0 N X l w) : JL K w0 N (fun _ => False) l w := by
  obtain ⟨p, q, hc, _, ho⟩ := h
  refine ⟨p, q, hc, fun h2 => h2, ho.next ⟨fun _ _ _ => rfl, fun k hk => ?_⟩⟩
  rcases hk with hk | hk | hk
  · exact Or.inl (Or.inl hk)
  · exact hk.elim
  · exact Or.inl (Or.inr (Or.inr hk))
end JL
theorem Own1.store {α : Type} {K : RowK α} {w0 w w3 w6 : World} {N : Nat} {X : Nat → Prop} {p : Option Addr} {q : Nat} {l : List α} {y : α} {g' cap : Nat} {o : Obj} (hX : ∀ k, X k → w0.heap.size ≤ k ∧ k < w.heap.size) (hN0 : w0.heap.size ≤ N) (hNX : ¬ X N) (hz : w0.heap.size ≤ w.heap.size)
    (hC : Cell1 N (.slice p l.length q) w) (hO : Own1 K w w0.heap.size (ZL w0 X N) (.slice p l.length q) l) (hb : Below w.heap.size w w3) (hy : K.inn (fun k => ZL w0 X N k ∨ (Value.slice p l.length q).ownBlock = some k) w3 y)
    (h1 : w6.ownsRow w0.heap.size K.e K.size (.slice (some ⟨g', 0, none⟩) (l.length + 1) cap) (l ++ [y]).length (K.cs (l ++ [y]))) (h2 : (w3.alloc o).grownBy w6 (Value.slice p l.length q).ownBlock) (h3 : (Value.slice p l.length q).ownBlock = some g' ∨ g' = w3.heap.size + 1) :
    Cell1 N (.slice p l.length q) w6 ∧ JL K w0 N X (l ++ [y]) (w6.setCell ⟨N, 0, none⟩ (.slice (some ⟨g', 0, none⟩) (l.length + 1) cap)) ∧ Below w0.heap.size w (w6.setCell ⟨N, 0, none⟩ (.slice (some ⟨g', 0, none⟩) (l.length + 1) cap)) ∧ ∀ k, X k → (w6.setCell ⟨N, 0, none⟩ (.slice (some ⟨g', 0, none⟩) (l.length + 1) cap)).heap[k]? = w.heap[k]? := by
  have hO3 := hO.below hb
  have hC3 := hC.later hb
  have hzz : ∀ k, ZL w0 X N k → k < w3.heap.size := fun k hk => by
    have := hb.size
    rcases hk with hk | hk | hk
    · omega
    · have := (hX k hk).2; omega
    · have := hC.lt; omega
  have hO6 := hO3.push hy hzz h1 h2 h3
  have hblk : ∀ k, ZL w0 X N k → w6.heap[k]? = w3.heap[k]? := fun k hk =>
    (h2.block k (by have := hzz k hk; simp; omega) (fun e => hO3.off k e.symm hk)).trans (Below.heap_alloc w3 o k (hzz k hk))
  have hC6 := hC3.moved (hblk N (Or.inr (Or.inr rfl)))
  have hF := hO3.frame (hb.mono hz) (Nat.le_trans hz hb.size) h2
  have hl : (l ++ [y]).length = l.length + 1 := by simp
  refine ⟨hC6, ⟨some ⟨g', 0, none⟩, cap, ?_, hNX, ?_⟩, hF.setCell hN0 _, fun k hk => ?_⟩
  · rw [hl]; exact hC6.set
  · rw [hl]
    exact hO6.next ⟨fun k _ hk2 => Below.heap_setCell _ _ _ _ (fun e => hk2 (Or.inr (Or.inr e))), fun k hk => Or.inl hk⟩
  · have hne : k ≠ N := fun e => hNX (e ▸ hk)
    exact (Below.heap_setCell _ _ _ _ hne).trans ((hblk k (Or.inr (Or.inl hk))).trans (hb.block k (hX k hk).2))
def JM (w0 : World) (N n : Nat) (X : Nat → Prop) (l : List ByteArray) (w : World) : Prop := l.length ≤ n + 1000 ∧ JL kN w0 N X l w
set_option maxHeartbeats 4000000 in
set_option maxRecDepth 100000 in
theorem visM {w0 : World} {N : Nat} (hN : w0.heap.size ≤ N) : VisM ⟨N, 0, none⟩ gM w0 (JM w0 N) := by
  refine ⟨fun n X l u ps pe w hn hX hJ hb0 hat hok => ?_, fun n X s w w' h h1 h2 => ⟨h.1, h.2.keep h1 h2⟩, fun n X s w h h1 => ⟨h.1, h.2.wide h1⟩, fun n X s w h => ⟨h.1, h.2.narrow⟩⟩
  obtain ⟨hll, p, q, hC, hNX, hO⟩ := hJ
  have hw := below_box w (.cells #[.pointer ps, .pointer pe, .int .i64 (u.d : Int)] 111)
  have hC1 := hC.later hw
  obtain ⟨n1, n2, n3⟩ := hC1
  have hSame : Hid (gM l u = (l, true) → (JM w0 N (n + 1) X l (w.alloc (.cells #[.pointer ps, .pointer pe, .int .i64 (u.d : Int)] 111)) ∧ Below w0.heap.size w (w.alloc (.cells #[.pointer ps, .pointer pe, .int .i64 (u.d : Int)] 111)) ∧ ∀ k, X k → (w.alloc (.cells #[.pointer ps, .pointer pe, .int .i64 (u.d : Int)] 111)).heap[k]? = w.heap[k]?)) :=
    fun _ => ⟨⟨by omega, JL.keep ⟨p, q, hC, hNX, hO⟩ hw.size (fun k hk _ => hw.block k hk)⟩, hw.mono hb0.size, fun k hk => hw.block k (hX k hk).2⟩
  cases u with
  | ex e d =>
    obtain ⟨b, i, rfl, rfl, _⟩ := hat
    have HG : Hid (gM l (.ex e d) = (l, true)) := by show (l ++ [], true) = _; rw [List.append_nil]
    have HP := Lib.hid (hSame.out HG.out)
    rw [HG.out]
    unfold nodeV
    simp only [U.d] at *
    clear hw hC hO hb0 hX hok hSame HG
    go_enter Tryd.func73, Tryd.ntmps73
    go_wp2_with fail
    go_ret
    exact ⟨rfl, HP.out⟩
  | st s d =>
    obtain ⟨b, i, rfl, rfl, hat⟩ := hat
    simp only [U.d] at *
    obtain ⟨a1, c1, a2, c2, a3, c3, a4, c4, hcc, _⟩ := (hat.below hb0).open
    have hcc1 := hcc.below hw
    have k0 := hcc1.k0
    have k1 := hcc1.k1
    have hsz := hok.2
    have hsp := cS_parts s
    have hnm : s.name.size ≤ 281474976710656 := by omega
    by_cases ho : s.op = 1 ∨ s.op = 6
    · have HG : Hid (gM l (.st s d) = (l ++ [s.name], true)) := by show (l ++ (if s.op = 1 ∨ s.op = 6 then [s.name] else []), true) = _; rw [if_pos ho]
      rw [HG.out]
      have HCl := Lib.hid (fun w => L.oclone_any s.name hnm w)
      have HFin : Hid (∀ w3 w6 g' cap o, Below w.heap.size w w3 → w6.ownsRow w0.heap.size kN.e kN.size (.slice (some ⟨g', 0, none⟩) (l.length + 1) cap) (l ++ [s.name]).length (kN.cs (l ++ [s.name])) → (w3.alloc o).grownBy w6 (Value.slice p l.length q).ownBlock → ((Value.slice p l.length q).ownBlock = some g' ∨ g' = w3.heap.size + 1) → _) :=
        fun w3 w6 g' cap o hb h1 h2 h3 => Own1.store hX hN hNX hb0.size hC hO hb trivial h1 h2 h3
      have HO := Lib.hid hO
      have HW := Lib.hid hw
      have hzw := hb0.size
      unfold nodeV
      clear hw hC hb0 hX hok hSame HG hcc hcc1 hat hsz hsp hO
      rcases ho with ho | ho
      all_goals
        rw [ho] at k0
        clear ho
        go_enter Tryd.func73, Tryd.ntmps73
        go_wp2_with fail
        go_region_law
          (first
            | (refine kN.step rfl (.tmp 23) (.tmp 30) rfl w0.heap.size (.slice p l.length q) l rfl HO3.out.row s.name _ rfl w3.heap.size rfl rfl (by omega) (by omega) ?_; intro g6 cap6 w6 hown6 hgrow6 hlie6; have HF6 := Lib.hid (HFin.out w3 w6 g6 cap6 _ HB3.out hown6 hgrow6 hlie6); obtain ⟨r1, r2, r3⟩ := HF6.out.1; clear hown6 hgrow6 hlie6)
            | (go_simp; go_at_call 42; refine (HCl.out _).mono ?_; rintro e' w3 ⟨rfl, hb3⟩; have HB3 := Lib.hid (below_2 HW.out (below_2 (L.below_drew _) hb3)); have HO3 := Lib.hid (HO.out.below HB3.out); have hz3 := HB3.out.size; have t2 := (hb3.cell (by exact n1)).trans n2; have t3 := ((below_box w3 (.cells #[.string s.name] 9)).cell (block_lt_of_cell t2)).trans t2; clear hb3))
        all_goals
          go_wp2_with fail
          go_ret
          exact ⟨rfl, ⟨by rw [List.length_append, List.length_singleton]; omega, HF6.out.2.1⟩, HF6.out.2.2⟩
    · have HG : Hid (gM l (.st s d) = (l, true)) := by show (l ++ (if s.op = 1 ∨ s.op = 6 then [s.name] else []), true) = _; rw [if_neg ho, List.append_nil]
      have HP := Lib.hid (hSame.out HG.out)
      rw [HG.out]
      have o1 : (s.op == 1) = false := beq_eq_false_iff_ne.2 (by omega)
      have o6 : (s.op == 6) = false := beq_eq_false_iff_ne.2 (by omega)
      unfold nodeV
      clear hw hC hO hb0 hX hok hSame HG hcc hcc1 hat hsz hsp ho
      go_enter Tryd.func73, Tryd.ntmps73
      go_wp2_with fail
      go_ret
      exact ⟨rfl, HP.out⟩
theorem names_take {l : List Pm} {k : Nat} (h : k < l.length) : (l.take (k + 1)).map Pm.name = (l.take k).map Pm.name ++ [l[k].name] := by
  rw [List.take_succ_eq_append_getElem h, List.map_append]; rfl
/-- strings that a call made -/
def GivesN (w : World) (x : List ByteArray) (e' : Ending) (w' : World) : Prop := ∃ p q, e' = .returned (.slice p x.length q) ∧ x.length ≤ q ∧ StrsAt w' p x ∧ Below w.heap.size w w'
set_option maxHeartbeats 8000000 in
set_option maxRecDepth 100000 in
theorem onames_any (p : Pr) (a1 a2 : Option Addr) (c1 c2 : Nat) (hok : OkP p) (hsz : cB p.body ≤ 900000) (hpl : p.params.length ≤ 1000) (hps : ∀ j (h : j < p.params.length), p.params[j].name.size ≤ 281474976710656) (w : World) (hK : PrIn w p a1 a2) :
    Calls Tryd.prog 39 #[prV p a1 c1 a2 c2] w fun e' w' => GivesN w (names p) e' w' := by
  have hw := below_box w (prO p a1 c1 a2 c2)
  have hbx := Bx.new w #[.string p.name, .slice a1 p.params.length c1, .slice a2 p.body.length c2] 25
  have HWK := Lib.hid (fun (N : Nat) (hN : (w.alloc (prO p a1 c1 a2 c2)).heap.size ≤ N) (l : List ByteArray) (w' : World) (hJ : JM (w.alloc (prO p a1 c1 a2 c2)) N 0 (fun _ => False) l w') (hb : Below (w.alloc (prO p a1 c1 a2 c2)).heap.size (w.alloc (prO p a1 c1 a2 c2)) w') => owalkM_any (visM (w0 := w.alloc (prO p a1 c1 a2 c2)) hN) p a1 c1 a2 c2 hok.body hok.bodyLen (by omega) (hK.below hw).body l w' hJ hb)
  have HK := Lib.hid (hK.below hw).params
  have HW := Lib.hid hw
  have HBX := Lib.hid hbx
  have HNR := Lib.hid (names_run p)
  have HPS := Lib.hid hps
  have hJ0 : JL kN (w.alloc (prO p a1 c1 a2 c2)) (w.heap.size + 1) (fun _ => False) ([] : List ByteArray) ((w.alloc (prO p a1 c1 a2 c2)).alloc (.cells #[.slice none 0 0] 77)) := ⟨none, 0, cell1_at (by simp), fun h => h, Own1.nil⟩
  have HJ0 := Lib.hid hJ0
  have HZ1 : Hid ((w.alloc (prO p a1 c1 a2 c2)).heap.size = w.heap.size + 1) := by show _ = _; simp
  obtain ⟨m, hm⟩ : ∃ m, p.params.length = m := ⟨_, rfl⟩
  have HL := Lib.hid hm
  unfold prO at *
  unfold prV at *
  rw [hm] at HWK HK HW HBX HJ0 HZ1 hpl ⊢
  clear hw hbx hok hsz hps hK hJ0 hm
  go_enter Tryd.func39, Tryd.ntmps39
  go_wp2_with fail
  go_loopw [9] (fun s9 wr => ∃ (k : Nat) (l : List ByteArray), k ≤ m ∧ s9 = .int .i64 k ∧ Hid (l = (p.params.take k).map Pm.name) ∧ Hid (JL kN (w.alloc (.cells #[.string p.name, .slice a1 m c1, .slice a2 p.body.length c2] 25)) (w.heap.size + 1) (fun _ => False) l wr) ∧ Hid (Below (w.alloc (.cells #[.string p.name, .slice a1 m c1, .slice a2 p.body.length c2] 25)).heap.size (w.alloc (.cells #[.string p.name, .slice a1 m c1, .slice a2 p.body.length c2] 25)) wr)) (fun s9 _ => m - (intOf s9).toNat)
  case atStart => exact ⟨0, [], Nat.zero_le _, rfl, rfl, HJ0.out, below_box _ _⟩
  case round =>
    obtain ⟨k, l, hk, rfl, HX, HJ, HB⟩ := hrel
    have hllk : l.length ≤ k := by have := congrArg List.length HX.out; rw [List.length_map, List.length_take] at this; omega
    by_cases hlt : k < m
    · have hlx : k < p.params.length := by rw [HL.out]; exact hlt
      obtain ⟨b3, i3, rfl, hcc⟩ := (HK.out.below HB.out).open hlx
      obtain ⟨f0, f1⟩ := hcc k hlx
      have hqs := HPS.out k hlx
      have hxn := names_take hlx
      generalize p.params[k] = q at f0 f1 hqs hxn
      obtain ⟨pl, ql, hC, hNX, hO⟩ := HJ.out
      have hb7 := below_box wr (.cells #[.string q.name, .int .i64 q.ty] 51)
      have hC7 := hC.later hb7
      obtain ⟨n1, n2, n3⟩ := hC7
      have hz := HB.out.size
      have hz7 := hb7.size
      have HCl := Lib.hid (fun w => L.oclone_any q.name hqs w)
      have hO7 := hO.below hb7
      have hB7 : Below (w.alloc (.cells #[.string p.name, .slice (some ⟨b3, i3, none⟩) m c1, .slice a2 p.body.length c2] 25)).heap.size (w.alloc (.cells #[.string p.name, .slice (some ⟨b3, i3, none⟩) m c1, .slice a2 p.body.length c2] 25)) _ := HB.out.trans (hb7.mono hz)
      have HFin := Lib.hid (fun w3 w6 g' cap o (hb : Below (wr.alloc (.cells #[.string q.name, .int .i64 q.ty] 51)).heap.size (wr.alloc (.cells #[.string q.name, .int .i64 q.ty] 51)) w3) h1 h2 h3 => Own1.store (K := kN) (y := q.name) (g' := g') (cap := cap) (w6 := w6) (o := o) (fun _ h => h.elim) (by have := HZ1.out; omega) hNX (Nat.le_trans hz hz7) (hC.later hb7) hO7 hb trivial h1 h2 h3)
      have HO7 := Lib.hid hO7
      have HB7 := Lib.hid hB7
      have HXN : Hid (l ++ [q.name] = (p.params.take (k + 1)).map Pm.name) := by show _ = _; rw [hxn, HX.out]
      have g0 : (wr.alloc (.cells #[.string q.name, .int .i64 q.ty] 51)).cell? ⟨wr.heap.size, 0, none⟩ = some (.string q.name) := by go_simp
      clear hcc hC hNX hO hb7 hO7 hB7 hqs hxn
      go_wp2_with fail
      go_region_law
        (first
          | (refine kN.step rfl (.tmp 13) (.tmp 17) rfl _ (.slice pl l.length ql) l rfl HO3.out.row q.name _ rfl w3.heap.size rfl rfl (by omega) (by omega) ?_; intro g6 cap6 w6 hown6 hgrow6 hlie6; have HF6 := Lib.hid (HFin.out w3 w6 g6 cap6 _ HB3.out hown6 hgrow6 hlie6); obtain ⟨r1, r2, r3⟩ := HF6.out.1; clear hown6 hgrow6 hlie6)
          | (go_simp; go_at_call 42; refine (HCl.out _).mono ?_; rintro e' w3 ⟨rfl, hb3⟩; have HB3 := Lib.hid (below_2 (L.below_drew _) hb3); have HO3 := Lib.hid (HO7.out.below HB3.out); have hz3 := HB3.out.size; have t2 := (hb3.cell (by exact n1)).trans n2; have t3 := ((below_box w3 (.cells #[.string q.name] 9)).cell (block_lt_of_cell t2)).trans t2; clear hb3))
      all_goals
        have HL6 : Hid ((l ++ [q.name]).length = l.length + 1) := by show _ = _; simp
        go_wp2_with fail
        go_roundw
        case rel => exact ⟨k + 1, l ++ [q.name], by omega, by go_num, HXN.out, HF6.out.2.1, HB7.out.trans HF6.out.2.2.1⟩
        case measure => simp [intOf]; omega
    · have hX := HX.out
      rw [List.take_of_length_le (by rw [HL.out]; omega)] at hX
      have hbx3 := HBX.out.below HB.out
      have x0 := hbx3.cell 0
      have x1 := hbx3.cell 1
      have x2 := hbx3.cell 2
      simp at x0 x1 x2
      have hC := HWK.out (w.heap.size + 1) (by rw [HZ1.out]; omega) l wr ⟨by omega, HJ.out⟩ HB.out
      rw [hX, HNR.out] at hC
      have HC := Lib.hid hC
      have HBB := Lib.hid (below_2 HW.out HB.out)
      have hzw := HW.out.size
      have HZW := Lib.hid hzw
      clear hC hX hbx3 hzw
      go_wp2_with fail
      refine HC.out.mono ?_; rintro e' w5 ⟨rfl, ⟨n5, _, pl, ql, hC5, _, hO5⟩, hb5⟩
      have s1 := hC5.cell
      obtain ⟨_, _, hsh, hle⟩ := hO5.shape
      have hq : (names p).length ≤ ql := by injection hsh with h1 h2 h3; omega
      have HV : Hid (GivesN w (names p) (.returned (.slice pl (names p).length ql)) w5) := ⟨pl, ql, rfl, hq, hO5.strs, HBB.out.trans (hb5.mono HZW.out)⟩
      clear hC5 hO5 hb5 hsh hle hq
      go_wp2_with fail
      go_ret
      exact HV.out
end Go.Proofs.YtkjefigebdbkaaaDoor.A
namespace Go.Proofs.YtkjefigebdbkaaaDoor.A
open Go.RowKit
open L (Str isName prt size_len below_2 below_box ret_bool ret_int eql_eq bytes_eq)

def pmV (q : Pm) : Value := .agg #[.string q.name, .int .i64 q.ty]
set_option maxHeartbeats 2000000 in
set_option maxRecDepth 100000 in
theorem osameName_any (q : Pm) (N : Nat) (x : ByteArray) (w : World) (h : w.cell? ⟨N, 0, none⟩ = some (.string x)) :
    Calls Tryd.prog 102 #[pmV q, .pointer (some ⟨N, 0, none⟩)] w fun e' w' => e' = .returned (.bool (decide (q.name = x))) ∧ Below w.heap.size w w' := by
  have hw := below_box w (.cells #[.string q.name, .int .i64 q.ty] 51)
  have h2 := (hw.cell (block_lt_of_cell h)).trans h
  have HW := Lib.hid hw
  have hb := bytes_dec q.name x
  obtain ⟨v, hv⟩ : ∃ v, decide (q.name = x) = v := ⟨_, rfl⟩
  rw [hv] at hb ⊢
  unfold pmV
  clear hw hv
  go_enter Tryd.func102, Tryd.ntmps102
  go_wp2_with fail
  go_ret
  exact ⟨rfl, HW.out⟩
/-- the first parameter with this name -/
def idxP (x : ByteArray) : List Pm → Nat → Int
  | [], _ => -1
  | q :: r, k => if decide (q.name = x) = true then (k : Int) else idxP x r (k + 1)
theorem idxP_any (x : ByteArray) : ∀ (l : List Pm) (k : Nat), decide (0 ≤ idxP x l k) = l.any (fun q => decide (q.name = x))
  | [], k => rfl
  | q :: r, k => by
    rw [idxP, List.any_cons]
    cases h : decide (q.name = x)
    · rw [if_neg (by decide), Bool.false_or]; exact idxP_any x r (k + 1)
    · rw [if_pos rfl, Bool.true_or]; exact decide_eq_true (by omega)
set_option maxHeartbeats 4000000 in
set_option maxRecDepth 100000 in
theorem oindexFunc_any (l : List Pm) (a : Option Addr) (c N : Nat) (x : ByteArray) (hl : l.length ≤ 1000000000000000) (w : World) (hK : PmsAt w a l) (h : w.cell? ⟨N, 0, none⟩ = some (.string x)) :
    Calls Tryd.prog 85 #[.slice a l.length c, .func (Fn.func 102) #[] #[.pointer (some ⟨N, 0, none⟩)]] w fun e' w' => e' = .returned (.int .i64 (idxP x l 0)) ∧ Below w.heap.size w w' := by
  have HK := Lib.hid hK
  have HX := Lib.hid h
  have hlt0 := block_lt_of_cell h
  obtain ⟨R, hR⟩ : ∃ R, idxP x l 0 = R := ⟨_, rfl⟩
  rw [hR]
  have HR : Hid (idxP x (l.drop 0) 0 = R) := hR
  obtain ⟨m, hm⟩ : ∃ m, l.length = m := ⟨_, rfl⟩
  have HL := Lib.hid hm
  rw [hm] at hl ⊢
  clear hm hR hK h
  go_enter Tryd.func85, Tryd.ntmps85
  go_wp2_with fail
  go_loopw [8] (fun s8 wr => ∃ k : Nat, k ≤ m ∧ s8 = .int .i64 k ∧ Hid (idxP x (l.drop k) k = R) ∧ Hid (Below w.heap.size w wr)) (fun s8 _ => m - (intOf s8).toNat)
  case atStart => exact ⟨0, Nat.zero_le _, rfl, HR, Below.refl _ _⟩
  case round =>
    obtain ⟨k, hk, rfl, HX2, HB⟩ := hrel
    by_cases hlt : k < m
    · have hlx : k < l.length := by rw [HL.out]; exact hlt
      have hx := HX2.out
      rw [List.drop_eq_getElem_cons hlx, idxP] at hx
      obtain ⟨b3, i3, rfl, hc⟩ := (HK.out.below HB.out).open hlx
      obtain ⟨f0, f1⟩ := hc k hlx
      have HC := Lib.hid (osameName_any l[k] N x wr ((HB.out.cell hlt0).trans HX.out))
      generalize l[k] = q at f0 f1 HC hx
      generalize decide (q.name = x) = y at HC hx
      unfold pmV at HC
      clear hc
      cases y
      · rw [if_neg (by decide)] at hx
        have HN := Lib.hid hx
        clear hx
        go_wp2_with fail
        refine HC.out.mono ?_; rintro e w2 ⟨rfl, hb2⟩
        have HB2 := Lib.hid (below_2 HB.out hb2)
        clear hb2
        go_wp2_with fail
        go_roundw
        case rel => exact ⟨k + 1, by omega, by go_num, HN, HB2⟩
        case measure => simp [intOf]; omega
      · rw [if_pos rfl] at hx
        have HV := Lib.hid hx
        clear hx
        go_wp2_with fail
        refine HC.out.mono ?_; rintro e w2 ⟨rfl, hb2⟩
        have HB2 := Lib.hid (below_2 HB.out hb2)
        clear hb2
        go_wp2_with fail
        go_ret
        exact ⟨ret_int HV.out, HB2.out⟩
    · have HV : Hid (-1 = R) := by
        show _ = _
        rw [← HX2.out, List.drop_of_length_le (by rw [HL.out]; omega), idxP]
      go_wp2_with fail
      go_ret
      exact ⟨ret_int HV.out, HB.out⟩
set_option maxHeartbeats 2000000 in
set_option maxRecDepth 100000 in
theorem ocontainsFunc_any (l : List Pm) (a : Option Addr) (c N : Nat) (x : ByteArray) (hl : l.length ≤ 1000000000000000) (w : World) (hK : PmsAt w a l) (h : w.cell? ⟨N, 0, none⟩ = some (.string x)) :
    Calls Tryd.prog 50 #[.slice a l.length c, .func (Fn.func 102) #[] #[.pointer (some ⟨N, 0, none⟩)]] w fun e' w' => e' = .returned (.bool (l.any (fun q => decide (q.name = x)))) ∧ Below w.heap.size w w' := by
  have HC := Lib.hid (oindexFunc_any l a c N x hl w hK h)
  have hv := idxP_any x l 0
  generalize idxP x l 0 = r at HC hv
  generalize l.any (fun q => decide (q.name = x)) = y at hv ⊢
  generalize l.length = m at HC ⊢
  clear hl hK h
  go_enter Tryd.func50, Tryd.ntmps50
  go_wp2_with fail
  refine HC.out.mono ?_; rintro e w2 ⟨rfl, hb2⟩
  have HB2 := Lib.hid hb2
  clear hb2
  go_wp2_with fail
  go_ret
  exact ⟨rfl, HB2.out⟩
theorem parF_drop {l : List Pm} {k : Nat} (h : k < l.length) : parF ((l.take k).map Pm.name) (l.drop k) = if nam l[k].name = false then 7 else if l[k].ty < 1 ∨ 3 < l[k].ty then 10 else if (l.take k).any (fun q => decide (q.name = l[k].name)) = true then 8 else parF ((l.take (k + 1)).map Pm.name) (l.drop (k + 1)) := by
  rw [List.drop_eq_getElem_cons h, parF, List.any_map, List.take_succ_eq_append_getElem h, List.map_append]
  rfl
theorem PmsAt.take {w : World} {a : Option Addr} {l : List Pm} (h : PmsAt w a l) (k : Nat) : PmsAt w a (l.take k) := by
  rcases h with h | ⟨b, i, ha, h⟩
  · left; rw [h]; simp
  · right
    refine ⟨b, i, ha, fun j hj => ?_⟩
    have hj2 : j < l.length := by rw [List.length_take] at hj; omega
    rw [List.getElem_take]
    exact h j hj2
set_option maxHeartbeats 8000000 in
set_option maxRecDepth 100000 in
theorem oparamsError_any (l : List Pm) (a : Option Addr) (c : Nat) (hl : l.length ≤ 1000000000000000) (w : World) (hc : l.length ≤ c) (hK : PmsAt w a l) :
    Calls Tryd.prog 64 #[.slice a l.length c] w fun e' w' => e' = .returned (.int .i64 (parE l)) ∧ Below w.heap.size w w' := by
  have HK := Lib.hid hK
  have hpe : parE l = if 6 < l.length then 2 else parF [] l := rfl
  obtain ⟨R, hR⟩ : ∃ R, parE l = R := ⟨_, rfl⟩
  rw [hR] at hpe ⊢
  have HP : Hid (l.length ≤ 6 → parF ((l.take 0).map Pm.name) (l.drop 0) = R) := fun h => by rw [hpe, if_neg (by omega)]; rfl
  have HP2 : Hid (6 < l.length → R = 2) := fun h => by rw [hpe, if_pos h]
  obtain ⟨m, hm⟩ : ∃ m, l.length = m := ⟨_, rfl⟩
  have HL := Lib.hid hm
  rw [hm] at hl hc HP HP2 ⊢
  clear hm hR hK hpe
  by_cases h6 : 6 < m
  · have HV : Hid (R = 2) := HP2.out h6
    have b6 : decide (6 < (m : Int)) = true := decide_eq_true (by omega)
    clear h6
    go_enter Tryd.func64, Tryd.ntmps64
    go_wp2_with fail
    go_ret
    exact ⟨ret_int HV.out.symm, Below.refl _ _⟩
  · have HR := Lib.hid (HP.out (by omega))
    have b6 : decide (6 < (m : Int)) = false := decide_eq_false (by omega)
    clear HP HP2
    go_enter Tryd.func64, Tryd.ntmps64
    go_wp2_with fail
    go_loopw [11] (fun s11 wr => ∃ k : Nat, k ≤ m ∧ s11 = .int .i64 k ∧ Hid (parF ((l.take k).map Pm.name) (l.drop k) = R) ∧ Hid (Below w.heap.size w wr)) (fun s11 _ => m - (intOf s11).toNat)
    case atStart => exact ⟨0, Nat.zero_le _, rfl, HR, Below.refl _ _⟩
    case round =>
      obtain ⟨k, hk, rfl, HX, HB⟩ := hrel
      by_cases hlt : k < m
      · have hlx : k < l.length := by rw [HL.out]; exact hlt
        have hx := HX.out
        rw [parF_drop hlx] at hx
        obtain ⟨b3, i3, rfl, hcc⟩ := (HK.out.below HB.out).open hlx
        obtain ⟨f0, f1⟩ := hcc k hlx
        have hbx := below_box wr (.cells #[.string l[k].name, .int .i64 l[k].ty] 51)
        have HI : Hid (∀ w, Calls Tryd.prog 37 #[.string l[k].name] w fun e' w' => e' = .returned (.bool (nam l[k].name)) ∧ Below w.heap.size w w') := fun w => L.oname_any l[k].name w
        have g0 : (wr.alloc (.cells #[.string l[k].name, .int .i64 l[k].ty] 51)).cell? ⟨wr.heap.size, 0, none⟩ = some (.string l[k].name) := by go_simp
        have g1 : (wr.alloc (.cells #[.string l[k].name, .int .i64 l[k].ty] 51)).cell? ⟨wr.heap.size, 1, none⟩ = some (.int .i64 l[k].ty) := by go_simp
        have hlen : (l.take k).length = k := by rw [List.length_take]; omega
        have HCF := Lib.hid (fun w' (hb : Below w.heap.size w w') (hx : w'.cell? ⟨wr.heap.size, 0, none⟩ = some (.string l[k].name)) => ocontainsFunc_any (l.take k) (some ⟨b3, i3, none⟩) c wr.heap.size l[k].name (by omega) w' ((HK.out.below hb).take k) hx)
        rw [hlen] at HCF
        have HG0 := Lib.hid g0
        have HG1 := Lib.hid g1
        have HBX := Lib.hid (below_2 HB.out hbx)
        generalize (l.take k).any (fun q => decide (q.name = l[k].name)) = y at HCF hx
        generalize l[k] = q at *
        clear hcc hlen hbx
        obtain ⟨nm, hnm⟩ : ∃ v, nam q.name = v := ⟨_, rfl⟩
        rw [hnm] at HI hx
        clear hnm
        cases nm
        · have HV : Hid (R = 7) := by show _ = _; rw [← hx, if_pos rfl]
          clear hx g0 g1
          go_wp2_with fail
          refine (HI.out _).mono ?_; rintro e w2 ⟨rfl, hb2⟩
          have HB2 := Lib.hid (below_2 HBX.out hb2)
          clear hb2
          go_wp2_with fail
          go_ret
          exact ⟨ret_int HV.out.symm, HB2.out⟩
        · rw [if_neg (by decide)] at hx
          clear g0 g1
          go_wp2_with fail
          refine (HI.out _).mono ?_; rintro e w2 ⟨rfl, hb2⟩
          have HB2 := Lib.hid (below_2 HBX.out hb2)
          have g0 := (hb2.cell (block_lt_of_cell HG0.out)).trans HG0.out
          have g1 := (hb2.cell (block_lt_of_cell HG1.out)).trans HG1.out
          clear hb2
          by_cases hty : q.ty < 1 ∨ 3 < q.ty
          · have t1 : (q.ty != 1) = true := bne_iff_ne.2 (by omega)
            have t2 : (q.ty != 2) = true := bne_iff_ne.2 (by omega)
            have t3 : (q.ty != 3) = true := bne_iff_ne.2 (by omega)
            have HV : Hid (R = 10) := by show _ = _; rw [← hx, if_pos hty]
            clear hx hty
            go_wp2_with fail
            go_ret
            exact ⟨ret_int HV.out.symm, HB2.out⟩
          · rw [if_neg hty] at hx
            have hC := HCF.out w2 HB2.out g0
            have HC := Lib.hid hC
            clear hC
            have ht : q.ty = 1 ∨ q.ty = 2 ∨ q.ty = 3 := by omega
            clear hty
            cases y
            · rw [if_neg (by decide)] at hx
              have HN := Lib.hid hx
              clear hx
              rcases ht with ht | ht | ht
              all_goals
                rw [ht] at g1
                clear ht
                go_wp2_with fail
                refine HC.out.mono ?_; rintro e w3 ⟨rfl, hb3⟩
                have HB3 := Lib.hid (below_2 HB2.out hb3)
                clear hb3
                go_wp2_with fail
                go_roundw
                case rel => exact ⟨k + 1, by omega, by go_num, HN, HB3⟩
                case measure => simp [intOf]; omega
            · have HV : Hid (R = 8) := by show _ = _; rw [← hx, if_pos rfl]
              clear hx
              rcases ht with ht | ht | ht
              all_goals
                rw [ht] at g1
                clear ht
                go_wp2_with fail
                refine HC.out.mono ?_; rintro e w3 ⟨rfl, hb3⟩
                have HB3 := Lib.hid (below_2 HB2.out hb3)
                clear hb3
                go_wp2_with fail
                go_ret
                exact ⟨ret_int HV.out.symm, HB3.out⟩
      · have HV : Hid (R = 0) := by
          show _ = _
          rw [← HX.out, List.drop_of_length_le (by rw [HL.out]; omega), parF]
        go_wp2_with fail
        go_ret
        exact ⟨ret_int HV.out.symm, HB.out⟩
end Go.Proofs.YtkjefigebdbkaaaDoor.A
namespace Go.Proofs.YtkjefigebdbkaaaDoor.A
open Go.RowKit
open L (Str isName prt size_len below_2 below_box ret_bool ret_int eql_eq bytes_eq)

/-- the operations that follow a cut -/
def Rest (l : List Oper) (_ _ : Unit) : List Oper := l
/-- a list of operations cut in two: what is known between -/
theorem wpList_cut {P : Program} {ops : Array Oper} {Q : Exit → Act → World → Prop} {a : Act} {w : World} (n : Nat) {l : List Oper} (mid : Act → World → Prop)
    (h1 : ∀ B, Hid (∀ a w, mid a w → wpList P ops Q (Rest B () ()) a w) → wpList P ops Q (l.take n ++ Rest B () ()) a w) (h2 : ∀ a w, mid a w → wpList P ops Q (l.drop n) a w) : wpList P ops Q l a w := by
  rw [← List.take_append_drop n l]
  exact h1 _ h2
theorem used_bits (o : Int) : hasB (usedI o) 1 = uN o ∧ hasB (usedI o) 4 = uA o ∧ hasB (usedI o) 8 = uB o ∧ hasB (usedI o) 16 = uD o ∧ hasB (usedI o) 32 = uE o ∧ (1 ≤ o → o ≤ 8 → hasB (usedI o) 2 = uM o) ∧ ((usedI o == 0) = (decide (o < 1) || decide (8 < o))) := by
  by_cases h : 1 ≤ o ∧ o ≤ 8
  · obtain ⟨h1, h2⟩ := h
    have : o = 1 ∨ o = 2 ∨ o = 3 ∨ o = 4 ∨ o = 5 ∨ o = 6 ∨ o = 7 ∨ o = 8 := by omega
    rcases this with rfl | rfl | rfl | rfl | rfl | rfl | rfl | rfl <;> decide
  · have h1 : ¬ o = 1 := by omega
    have h2 : ¬ o = 2 := by omega
    have h3 : ¬ o = 3 := by omega
    have h4 : ¬ o = 4 := by omega
    have h5 : ¬ o = 5 := by omega
    have h6 : ¬ o = 6 := by omega
    have h7 : ¬ o = 7 := by omega
    have h8 : ¬ o = 8 := by omega
    have hu : usedI o = 0 := by unfold usedI; simp [h1, h2, h3, h4, h5, h6, h7, h8]
    rw [hu]
    refine ⟨?_, ?_, ?_, ?_, ?_, fun a b => absurd ⟨a, b⟩ h, ?_⟩
    · unfold uN; rw [decide_eq_false (by omega)]; decide
    · unfold uA; rw [decide_eq_false (by omega)]; decide
    · unfold uB; rw [decide_eq_false (by omega)]; decide
    · unfold uD; rw [decide_eq_false (by omega)]; decide
    · unfold uE; rw [decide_eq_false (by omega)]; decide
    · rw [← Bool.decide_or, decide_eq_true (by omega)]; rfl
/-- a field that is not used is filled -/
def fillB (s : St) : Bool := (!decide (s.name.size = 0) && !hasB (usedI s.op) 1) || ((s.mx != 0) && !hasB (usedI s.op) 2) || (!absent s.a && !hasB (usedI s.op) 4) || (!absent s.b && !hasB (usedI s.op) 8) || (decide (0 < (s.body.length : Int)) && !hasB (usedI s.op) 16) || (decide (0 < (s.els.length : Int)) && !hasB (usedI s.op) 32)
theorem fill_def (s : St) : fillB s = ((!decide (s.name.size = 0) && !hasB (usedI s.op) 1) || ((s.mx != 0) && !hasB (usedI s.op) 2) || (!absent s.a && !hasB (usedI s.op) 4) || (!absent s.b && !hasB (usedI s.op) 8) || (decide (0 < (s.body.length : Int)) && !hasB (usedI s.op) 16) || (decide (0 < (s.els.length : Int)) && !hasB (usedI s.op) 32)) := rfl
theorem empty_len {α : Type} (l : List α) : (!l.isEmpty) = decide (0 < (l.length : Int)) := by
  cases l with
  | nil => rfl
  | cons x l => rw [decide_eq_true (by simp)]; rfl
theorem fill_bad (s : St) : ((usedI s.op == 0) || fillB s) = badS s := by
  obtain ⟨h1, h4, h8, h16, h32, h2, h0⟩ := used_bits s.op
  unfold fillB badS
  rw [h1, h4, h8, h16, h32, h0, ← empty_len, ← empty_len]
  by_cases h : 1 ≤ s.op ∧ s.op ≤ 8
  · rw [h2 h.1 h.2, decide_eq_false (show ¬ s.op < 1 by omega), decide_eq_false (show ¬ 8 < s.op by omega)]
    rw [show (s.mx != 0) = !decide (s.mx = 0) by simp [bne, Bool.beq_eq_decide_eq]]
    simp only [Bool.false_or]
    simp only [Bool.and_comm]
  · rw [← Bool.decide_or, decide_eq_true (by omega)]
    simp
set_option maxHeartbeats 8000000 in
set_option maxRecDepth 100000 in
theorem ofills_any (s : St) (b i : Nat) (a1 : Option Addr) (c1 : Nat) (a2 : Option Addr) (c2 : Nat) (a3 : Option Addr) (c3 : Nat) (a4 : Option Addr) (c4 : Nat) (hl1 : s.body.length ≤ 1000000000000000) (hl2 : s.els.length ≤ 1000000000000000) (w : World) (h : StCells w s b i a1 c1 a2 c2 a3 c3 a4 c4) :
    Calls Tryd.prog 106 #[.pointer (some ⟨b, i, none⟩), .int .i64 (usedI s.op)] w fun e' w' => e' = .returned (.bool (fillB s)) ∧ w' = w := by
  have HA := Lib.hid (oabsent_any s.a b (i + 3) a1 c1 w h.fourA)
  have HB := Lib.hid (oabsent_any s.b b (i + 7) a2 c2 w h.fourB)
  have HH1 := Lib.hid (ohas_any s.op 1 (by omega) w)
  have HH2 := Lib.hid (ohas_any s.op 2 (by omega) w)
  have HH4 := Lib.hid (ohas_any s.op 4 (by omega) w)
  have HH8 := Lib.hid (ohas_any s.op 8 (by omega) w)
  have HH16 := Lib.hid (ohas_any s.op 16 (by omega) w)
  have HH32 := Lib.hid (ohas_any s.op 32 (by omega) w)
  have k1 := h.k1
  have k2 := h.k2
  have k11 := h.k11
  have k12 := h.k12
  have hV := fill_def s
  have he2 := nil_of (s := s.name)
  have he3 := empty_of (s := s.name)
  obtain ⟨v1, h1⟩ : ∃ v, decide (s.name.size = 0) = v := ⟨_, rfl⟩
  obtain ⟨v2, h2⟩ : ∃ v, (s.mx != 0) = v := ⟨_, rfl⟩
  obtain ⟨v3, h3⟩ : ∃ v, absent s.a = v := ⟨_, rfl⟩
  obtain ⟨v4, h4⟩ : ∃ v, absent s.b = v := ⟨_, rfl⟩
  obtain ⟨v5, h5⟩ : ∃ v, decide (0 < (s.body.length : Int)) = v := ⟨_, rfl⟩
  obtain ⟨v6, h6⟩ : ∃ v, decide (0 < (s.els.length : Int)) = v := ⟨_, rfl⟩
  obtain ⟨u1, g1⟩ : ∃ v, hasB (usedI s.op) 1 = v := ⟨_, rfl⟩
  obtain ⟨u2, g2⟩ : ∃ v, hasB (usedI s.op) 2 = v := ⟨_, rfl⟩
  obtain ⟨u3, g3⟩ : ∃ v, hasB (usedI s.op) 4 = v := ⟨_, rfl⟩
  obtain ⟨u4, g4⟩ : ∃ v, hasB (usedI s.op) 8 = v := ⟨_, rfl⟩
  obtain ⟨u5, g5⟩ : ∃ v, hasB (usedI s.op) 16 = v := ⟨_, rfl⟩
  obtain ⟨u6, g6⟩ : ∃ v, hasB (usedI s.op) 32 = v := ⟨_, rfl⟩
  rw [h1] at he2 he3
  rw [h3] at HA
  rw [h4] at HB
  rw [g1] at HH1
  rw [g2] at HH2
  rw [g3] at HH4
  rw [g4] at HH8
  rw [g5] at HH16
  rw [g6] at HH32
  rw [h1, h2, h3, h4, h5, h6, g1, g2, g3, g4, g5, g6] at hV
  have HV := Lib.hid hV
  generalize usedI s.op = o at HH1 HH2 HH4 HH8 HH16 HH32 ⊢
  clear hV h h1 h3 h4 g1 g2 g3 g4 g5 g6
  have h5' : decide (0 < s.body.length) = v5 := by rw [← h5]; exact decide_eq_decide.2 (by omega)
  have h6' : decide (0 < s.els.length) = v6 := by rw [← h6]; exact decide_eq_decide.2 (by omega)
  obtain ⟨p1, hp1⟩ : ∃ p, (!v1 && !u1) = p := ⟨_, rfl⟩
  obtain ⟨p2, hp2⟩ : ∃ p, (p1 || (v2 && !u2)) = p := ⟨_, rfl⟩
  obtain ⟨p3, hp3⟩ : ∃ p, (p2 || (!v3 && !u3)) = p := ⟨_, rfl⟩
  obtain ⟨p4, hp4⟩ : ∃ p, (p3 || (!v4 && !u4)) = p := ⟨_, rfl⟩
  obtain ⟨p5, hp5⟩ : ∃ p, (p4 || (v5 && !u5)) = p := ⟨_, rfl⟩
  obtain ⟨p6, hp6⟩ : ∃ p, (p5 || (v6 && !u6)) = p := ⟨_, rfl⟩
  rw [hp1, hp2, hp3, hp4, hp5, hp6] at HV
  have HP1 := Lib.hid hp1
  have HP2 := Lib.hid hp2
  have HP3 := Lib.hid hp3
  have HP4 := Lib.hid hp4
  have HP5 := Lib.hid hp5
  have HP6 := Lib.hid hp6
  clear hp1 hp2 hp3 hp4 hp5 hp6
  rw [HV.out]
  clear HV
  go_enter Tryd.func106, Tryd.ntmps106
  go_upto_region 1 with fail
  refine wp_region_lit ?_
  simp only [List.append_eq, List.cons_append, List.nil_append]
  refine wpList_cut 11 (fun a' w' => ∃ u5 u6 u7 u8 u9 u10 u11 u12 u13 u14 : Value, a' = ⟨#[.pointer (some ⟨b, i, none⟩), .int .i64 o, undef, undef, .bool false, u5, u6, u7, u8, u9, u10, u11, u12, u13, u14, .bool p1, undef, undef, undef, undef, undef, undef, undef, undef, undef, undef, undef, undef, undef, undef, undef, undef, undef, undef, undef, undef, undef, undef, undef, undef, undef, undef, undef, undef, undef, undef, undef, undef, undef, undef, undef, undef, undef, undef, undef, undef, undef, undef, undef, undef, undef, undef, undef, undef, undef, undef, undef, undef, undef, undef, undef, undef, undef, undef, undef, undef, undef], []⟩ ∧ w = w') ?_ ?_
  · intro B hB
    simp only [List.take_succ_cons, List.take_zero, List.cons_append, List.nil_append]
    cases v1 <;> cases u1
    all_goals
      have hp := HP1.out
      subst hp
      go_wp2_with fail
      repeat ((first | (with_reducible refine HA.out.mono ?_; rintro e' w2 ⟨rfl, rfl⟩) | (with_reducible refine HB.out.mono ?_; rintro e' w2 ⟨rfl, rfl⟩) | (with_reducible refine HH1.out.mono ?_; rintro e' w2 ⟨rfl, rfl⟩) | (with_reducible refine HH2.out.mono ?_; rintro e' w2 ⟨rfl, rfl⟩) | (with_reducible refine HH4.out.mono ?_; rintro e' w2 ⟨rfl, rfl⟩) | (with_reducible refine HH8.out.mono ?_; rintro e' w2 ⟨rfl, rfl⟩) | (with_reducible refine HH16.out.mono ?_; rintro e' w2 ⟨rfl, rfl⟩) | (with_reducible refine HH32.out.mono ?_; rintro e' w2 ⟨rfl, rfl⟩)); go_wp2_with fail)
      refine hB.out _ _ ?_
      repeat' apply Exists.intro
      exact ⟨rfl, rfl⟩
  rintro a' w' ⟨u5, u6, u7, u8, u9, u10, u11, u12, u13, u14, rfl, rfl⟩
  simp only [List.drop_succ_cons, List.drop_zero]
  clear HP1
  refine wpList_cut 12 (fun a' w' => ∃ u5 u6 u7 u8 u9 u10 u11 u12 u13 u14 u15 u16 u17 u18 u19 u20 u21 u22 u23 u24 u25 u26 : Value, a' = ⟨#[.pointer (some ⟨b, i, none⟩), .int .i64 o, undef, undef, .bool false, u5, u6, u7, u8, u9, u10, u11, u12, u13, u14, u15, u16, u17, u18, u19, u20, u21, u22, u23, u24, u25, u26, .bool p2, undef, undef, undef, undef, undef, undef, undef, undef, undef, undef, undef, undef, undef, undef, undef, undef, undef, undef, undef, undef, undef, undef, undef, undef, undef, undef, undef, undef, undef, undef, undef, undef, undef, undef, undef, undef, undef, undef, undef, undef, undef, undef, undef, undef, undef, undef, undef, undef, undef], []⟩ ∧ w = w') ?_ ?_
  · intro B hB
    simp only [List.take_succ_cons, List.take_zero, List.cons_append, List.nil_append]
    cases p1 <;> cases v2 <;> cases u2
    all_goals
      have hp := HP2.out
      subst hp
      go_wp2_with fail
      repeat ((first | (with_reducible refine HA.out.mono ?_; rintro e' w2 ⟨rfl, rfl⟩) | (with_reducible refine HB.out.mono ?_; rintro e' w2 ⟨rfl, rfl⟩) | (with_reducible refine HH1.out.mono ?_; rintro e' w2 ⟨rfl, rfl⟩) | (with_reducible refine HH2.out.mono ?_; rintro e' w2 ⟨rfl, rfl⟩) | (with_reducible refine HH4.out.mono ?_; rintro e' w2 ⟨rfl, rfl⟩) | (with_reducible refine HH8.out.mono ?_; rintro e' w2 ⟨rfl, rfl⟩) | (with_reducible refine HH16.out.mono ?_; rintro e' w2 ⟨rfl, rfl⟩) | (with_reducible refine HH32.out.mono ?_; rintro e' w2 ⟨rfl, rfl⟩)); go_wp2_with fail)
      refine hB.out _ _ ?_
      repeat' apply Exists.intro
      exact ⟨rfl, rfl⟩
  rintro a' w' ⟨u5, u6, u7, u8, u9, u10, u11, u12, u13, u14, u15, u16, u17, u18, u19, u20, u21, u22, u23, u24, u25, u26, rfl, rfl⟩
  simp only [List.drop_succ_cons, List.drop_zero]
  clear HP2
  refine wpList_cut 12 (fun a' w' => ∃ u5 u6 u7 u8 u9 u10 u11 u12 u13 u14 u15 u16 u17 u18 u19 u20 u21 u22 u23 u24 u25 u26 u27 u28 u29 u30 u31 u32 u33 u34 u35 u36 u37 u38 : Value, a' = ⟨#[.pointer (some ⟨b, i, none⟩), .int .i64 o, undef, undef, .bool false, u5, u6, u7, u8, u9, u10, u11, u12, u13, u14, u15, u16, u17, u18, u19, u20, u21, u22, u23, u24, u25, u26, u27, u28, u29, u30, u31, u32, u33, u34, u35, u36, u37, u38, .bool p3, undef, undef, undef, undef, undef, undef, undef, undef, undef, undef, undef, undef, undef, undef, undef, undef, undef, undef, undef, undef, undef, undef, undef, undef, undef, undef, undef, undef, undef, undef, undef, undef, undef, undef, undef, undef, undef], []⟩ ∧ w = w') ?_ ?_
  · intro B hB
    simp only [List.take_succ_cons, List.take_zero, List.cons_append, List.nil_append]
    cases p2 <;> cases v3 <;> cases u3
    all_goals
      have hp := HP3.out
      subst hp
      go_wp2_with fail
      repeat ((first | (with_reducible refine HA.out.mono ?_; rintro e' w2 ⟨rfl, rfl⟩) | (with_reducible refine HB.out.mono ?_; rintro e' w2 ⟨rfl, rfl⟩) | (with_reducible refine HH1.out.mono ?_; rintro e' w2 ⟨rfl, rfl⟩) | (with_reducible refine HH2.out.mono ?_; rintro e' w2 ⟨rfl, rfl⟩) | (with_reducible refine HH4.out.mono ?_; rintro e' w2 ⟨rfl, rfl⟩) | (with_reducible refine HH8.out.mono ?_; rintro e' w2 ⟨rfl, rfl⟩) | (with_reducible refine HH16.out.mono ?_; rintro e' w2 ⟨rfl, rfl⟩) | (with_reducible refine HH32.out.mono ?_; rintro e' w2 ⟨rfl, rfl⟩)); go_wp2_with fail)
      refine hB.out _ _ ?_
      repeat' apply Exists.intro
      exact ⟨rfl, rfl⟩
  rintro a' w' ⟨u5, u6, u7, u8, u9, u10, u11, u12, u13, u14, u15, u16, u17, u18, u19, u20, u21, u22, u23, u24, u25, u26, u27, u28, u29, u30, u31, u32, u33, u34, u35, u36, u37, u38, rfl, rfl⟩
  simp only [List.drop_succ_cons, List.drop_zero]
  clear HP3
  refine wpList_cut 12 (fun a' w' => ∃ u5 u6 u7 u8 u9 u10 u11 u12 u13 u14 u15 u16 u17 u18 u19 u20 u21 u22 u23 u24 u25 u26 u27 u28 u29 u30 u31 u32 u33 u34 u35 u36 u37 u38 u39 u40 u41 u42 u43 u44 u45 u46 u47 u48 u49 u50 : Value, a' = ⟨#[.pointer (some ⟨b, i, none⟩), .int .i64 o, undef, undef, .bool false, u5, u6, u7, u8, u9, u10, u11, u12, u13, u14, u15, u16, u17, u18, u19, u20, u21, u22, u23, u24, u25, u26, u27, u28, u29, u30, u31, u32, u33, u34, u35, u36, u37, u38, u39, u40, u41, u42, u43, u44, u45, u46, u47, u48, u49, u50, .bool p4, undef, undef, undef, undef, undef, undef, undef, undef, undef, undef, undef, undef, undef, undef, undef, undef, undef, undef, undef, undef, undef, undef, undef, undef, undef], []⟩ ∧ w = w') ?_ ?_
  · intro B hB
    simp only [List.take_succ_cons, List.take_zero, List.cons_append, List.nil_append]
    cases p3 <;> cases v4 <;> cases u4
    all_goals
      have hp := HP4.out
      subst hp
      go_wp2_with fail
      repeat ((first | (with_reducible refine HA.out.mono ?_; rintro e' w2 ⟨rfl, rfl⟩) | (with_reducible refine HB.out.mono ?_; rintro e' w2 ⟨rfl, rfl⟩) | (with_reducible refine HH1.out.mono ?_; rintro e' w2 ⟨rfl, rfl⟩) | (with_reducible refine HH2.out.mono ?_; rintro e' w2 ⟨rfl, rfl⟩) | (with_reducible refine HH4.out.mono ?_; rintro e' w2 ⟨rfl, rfl⟩) | (with_reducible refine HH8.out.mono ?_; rintro e' w2 ⟨rfl, rfl⟩) | (with_reducible refine HH16.out.mono ?_; rintro e' w2 ⟨rfl, rfl⟩) | (with_reducible refine HH32.out.mono ?_; rintro e' w2 ⟨rfl, rfl⟩)); go_wp2_with fail)
      refine hB.out _ _ ?_
      repeat' apply Exists.intro
      exact ⟨rfl, rfl⟩
  rintro a' w' ⟨u5, u6, u7, u8, u9, u10, u11, u12, u13, u14, u15, u16, u17, u18, u19, u20, u21, u22, u23, u24, u25, u26, u27, u28, u29, u30, u31, u32, u33, u34, u35, u36, u37, u38, u39, u40, u41, u42, u43, u44, u45, u46, u47, u48, u49, u50, rfl, rfl⟩
  simp only [List.drop_succ_cons, List.drop_zero]
  clear HP4
  refine wpList_cut 13 (fun a' w' => ∃ u5 u6 u7 u8 u9 u10 u11 u12 u13 u14 u15 u16 u17 u18 u19 u20 u21 u22 u23 u24 u25 u26 u27 u28 u29 u30 u31 u32 u33 u34 u35 u36 u37 u38 u39 u40 u41 u42 u43 u44 u45 u46 u47 u48 u49 u50 u51 u52 u53 u54 u55 u56 u57 u58 u59 u60 u61 u62 u63 : Value, a' = ⟨#[.pointer (some ⟨b, i, none⟩), .int .i64 o, undef, undef, .bool false, u5, u6, u7, u8, u9, u10, u11, u12, u13, u14, u15, u16, u17, u18, u19, u20, u21, u22, u23, u24, u25, u26, u27, u28, u29, u30, u31, u32, u33, u34, u35, u36, u37, u38, u39, u40, u41, u42, u43, u44, u45, u46, u47, u48, u49, u50, u51, u52, u53, u54, u55, u56, u57, u58, u59, u60, u61, u62, u63, .bool p5, undef, undef, undef, undef, undef, undef, undef, undef, undef, undef, undef, undef], []⟩ ∧ w = w') ?_ ?_
  · intro B hB
    simp only [List.take_succ_cons, List.take_zero, List.cons_append, List.nil_append]
    cases p4 <;> cases v5 <;> cases u5
    all_goals
      have hp := HP5.out
      subst hp
      go_wp2_with fail
      repeat ((first | (with_reducible refine HA.out.mono ?_; rintro e' w2 ⟨rfl, rfl⟩) | (with_reducible refine HB.out.mono ?_; rintro e' w2 ⟨rfl, rfl⟩) | (with_reducible refine HH1.out.mono ?_; rintro e' w2 ⟨rfl, rfl⟩) | (with_reducible refine HH2.out.mono ?_; rintro e' w2 ⟨rfl, rfl⟩) | (with_reducible refine HH4.out.mono ?_; rintro e' w2 ⟨rfl, rfl⟩) | (with_reducible refine HH8.out.mono ?_; rintro e' w2 ⟨rfl, rfl⟩) | (with_reducible refine HH16.out.mono ?_; rintro e' w2 ⟨rfl, rfl⟩) | (with_reducible refine HH32.out.mono ?_; rintro e' w2 ⟨rfl, rfl⟩)); go_wp2_with fail)
      refine hB.out _ _ ?_
      repeat' apply Exists.intro
      exact ⟨rfl, rfl⟩
  rintro a' w' ⟨u5, u6, u7, u8, u9, u10, u11, u12, u13, u14, u15, u16, u17, u18, u19, u20, u21, u22, u23, u24, u25, u26, u27, u28, u29, u30, u31, u32, u33, u34, u35, u36, u37, u38, u39, u40, u41, u42, u43, u44, u45, u46, u47, u48, u49, u50, u51, u52, u53, u54, u55, u56, u57, u58, u59, u60, u61, u62, u63, rfl, rfl⟩
  simp only [List.drop_succ_cons, List.drop_zero]
  clear HP5
  cases p5 <;> cases v6 <;> cases u6
  all_goals
    have hp := HP6.out
    subst hp
    go_wp2_with fail
    repeat ((first | (with_reducible refine HA.out.mono ?_; rintro e' w2 ⟨rfl, rfl⟩) | (with_reducible refine HB.out.mono ?_; rintro e' w2 ⟨rfl, rfl⟩) | (with_reducible refine HH1.out.mono ?_; rintro e' w2 ⟨rfl, rfl⟩) | (with_reducible refine HH2.out.mono ?_; rintro e' w2 ⟨rfl, rfl⟩) | (with_reducible refine HH4.out.mono ?_; rintro e' w2 ⟨rfl, rfl⟩) | (with_reducible refine HH8.out.mono ?_; rintro e' w2 ⟨rfl, rfl⟩) | (with_reducible refine HH16.out.mono ?_; rintro e' w2 ⟨rfl, rfl⟩) | (with_reducible refine HH32.out.mono ?_; rintro e' w2 ⟨rfl, rfl⟩)); go_wp2_with fail)
    go_ret
    exact ⟨rfl, rfl⟩
end Go.Proofs.YtkjefigebdbkaaaDoor.A
namespace Go.Proofs.YtkjefigebdbkaaaDoor.A
open Go.RowKit
open L (Str isName prt size_len below_2 below_box ret_bool ret_int eql_eq bytes_eq)

set_option maxHeartbeats 2000000 in
set_option maxRecDepth 100000 in
theorem ovalidExpr_wide (e : Ex) (a : Option Addr) (c : Nat) (hok : okE e) (hsz : 1 + cE e ≤ 1000000) (w : World) (hK : Kids w a e.args) :
    Calls Tryd.prog 46 #[exV e a c] w fun e' w' => e' = .returned (.int .i64 (vE e 1)) ∧ Below w.heap.size w w' := by
  have hw := below_box w (exO e a c)
  have hat := exAt_box (c := c) hK
  have HA := Lib.hid hat
  have HW := Lib.hid hw
  have hz : (w.alloc (exO e a c)).heap.size = w.heap.size + 1 := by simp
  have HR := Lib.hid (run_E e 1 0)
  have hst : StepA ⟨w.heap.size + 1, 0, none⟩ gE (w.alloc (exO e a c)) (fun z w' => Cell1 (w.heap.size + 1) (.int .i64 z) w') := stepE (by omega)
  have HC := Lib.hid (fun w2 h1 h2 => owalkExprA_any hst e 1 w.heap.size 0 0 w2 hok (by omega) hat h1 h2)
  rw [HR.out] at HC
  generalize vE e 1 = x at HC ⊢
  unfold exV
  unfold exO at *
  simp only [show ((1 : Nat) : Int) = 1 from rfl] at HC
  have HZ := Lib.hid hz
  clear hw hat hst hz
  go_enter Tryd.func46, Tryd.ntmps46
  go_wp2_with fail
  refine (HC.out _ (cell1_at HZ.out) (below_box _ _)).mono ?_; rintro e' w2 ⟨rfl, hI2, hb2⟩
  obtain ⟨j1, j2, j3⟩ := hI2
  have HB := Lib.hid (below_b HW.out (below_box _ _) hb2)
  clear hb2
  go_wp2_with fail
  go_ret
  exact ⟨rfl, HB.out⟩
theorem st_bad {s : St} {d : Nat} (h : badS s = true ∨ badM s = true) : stE s d = 1 := by
  unfold stE
  rcases h with h | h
  · rw [if_pos h]
  · rw [h]; split <;> rfl
theorem st_name {s : St} {d : Nat} (h1 : badS s = false) (h2 : badM s = false) (h : uN s.op = true) (h3 : nam s.name = false) : stE s d = 7 := by
  unfold stE
  rw [h1, h2, h, h3]; rfl
/-- what is left behind the name -/
def restE (s : St) (d : Nat) : Int := if (uA s.op && !decide (vE s.a 1 = 0)) = true then vE s.a 1 else if (uB s.op && !decide (vE s.b 1 = 0)) = true then vE s.b 1 else if 12 < d then 2 else 0
theorem st_rest {s : St} {d : Nat} (h1 : badS s = false) (h2 : badM s = false) (h : uN s.op = false ∨ nam s.name = true) : stE s d = restE s d := by
  unfold stE restE
  rw [h1, h2]
  rcases h with h | h
  · rw [h]; rfl
  · rw [h]; simp
set_option maxHeartbeats 8000000 in
set_option maxRecDepth 100000 in
theorem ostmtError_any (s : St) (b i d : Nat) (hd : d ≤ 1000000) (hok : okS s) (hsz : cS s ≤ 1000000) (w : World) (h : StAt w s b i) :
    Calls Tryd.prog 67 #[.pointer (some ⟨b, i, none⟩), .int .i64 (d : Int)] w fun e' w' => e' = .returned (.int .i64 (stE s d)) ∧ Below w.heap.size w w' := by
  have ho := okS_open hok
  have hsp := cS_parts s
  obtain ⟨a1, c1, a2, c2, a3, c3, a4, c4, hcs, hks⟩ := h.open
  have HU := Lib.hid (fun w => oused_any s.op w)
  have HF := Lib.hid (ofills_any s b i a1 c1 a2 c2 a3 c3 a4 c4 ho.bodyLen ho.elsLen w hcs)
  have HM := Lib.hid (omax_any s b i w hcs.k0 hcs.k2)
  have HH1 := Lib.hid (fun w => ohas_any s.op 1 (by omega) w)
  have HH4 := Lib.hid (fun w => ohas_any s.op 4 (by omega) w)
  have HH8 := Lib.hid (fun w => ohas_any s.op 8 (by omega) w)
  have HI : Hid (∀ w, Calls Tryd.prog 37 #[.string s.name] w fun e' w' => e' = .returned (.bool (nam s.name)) ∧ Below w.heap.size w w') := fun w => L.oname_any s.name w
  have HVA := Lib.hid (fun w h => ovalidExpr_wide s.a a1 c1 ho.a (by omega) w h)
  have HVB := Lib.hid (fun w h => ovalidExpr_wide s.b a2 c2 ho.b (by omega) w h)
  have HC := Lib.hid hcs
  have HK := Lib.hid hks
  have hfb := fill_bad s
  obtain ⟨hu1, hu4, hu8, _, _, _, _⟩ := used_bits s.op
  rw [hu1] at HH1
  rw [hu4] at HH4
  rw [hu8] at HH8
  have X1 := Lib.hid (@st_bad s d)
  have X2 := Lib.hid (@st_name s d)
  have X3 := Lib.hid (@st_rest s d)
  have hR : restE s d = _ := rfl
  unfold restE at hR
  rw [show restE s d = (if (uA s.op && !decide (vE s.a 1 = 0)) = true then vE s.a 1 else if (uB s.op && !decide (vE s.b 1 = 0)) = true then vE s.b 1 else if 12 < d then 2 else 0) from rfl] at X3
  clear hR
  have k0 := hcs.k0
  have k1 := hcs.k1
  generalize badS s = BS at X1 X2 X3 hfb
  generalize badM s = BM at X1 X2 X3 HM
  generalize fillB s = FB at HF hfb
  generalize uN s.op = UN at X2 X3 HH1
  generalize uA s.op = UA at X3 HH4
  generalize uB s.op = UB at X3 HH8
  generalize nam s.name = NM at X2 X3 HI
  generalize vE s.a 1 = va at X3 HVA
  generalize vE s.b 1 = vb at X3 HVB
  obtain ⟨z0, hz0⟩ : ∃ z, (usedI s.op == 0) = z := ⟨_, rfl⟩
  rw [hz0] at hfb
  have HFB := Lib.hid hfb
  have HBc := Lib.hid (Below.refl w.heap.size w)
  generalize stE s d = R at X1 X2 X3 ⊢
  generalize usedI s.op = uu at HU HF HH1 HH4 HH8 hz0
  clear ho hsp hok hsz h hcs hks hfb hu1 hu4 hu8
  unfold exV at HVA HVB
  go_enter Tryd.func67, Tryd.ntmps67
  go_wp2_with fail
  refine (HU.out _).mono ?_; rintro e' w1 ⟨rfl, rfl⟩
  cases z0
  case true =>
    have HV : Hid (R = 1) := X1.out (Or.inl (by rw [← HFB.out]; rfl))
    go_wp2_with fail
    go_ret
    exact ⟨ret_int HV.out.symm, HBc.out⟩
  go_wp2_with fail
  refine HF.out.mono ?_; rintro e' w2 ⟨rfl, rfl⟩
  cases FB
  case true =>
    have HV : Hid (R = 1) := X1.out (Or.inl (by rw [← HFB.out]; rfl))
    go_wp2_with fail
    go_ret
    exact ⟨ret_int HV.out.symm, HBc.out⟩
  obtain rfl : BS = false := by rw [← HFB.out]; rfl
  go_wp2_with fail
  refine HM.out.mono ?_; rintro e' w3 ⟨rfl, rfl⟩
  cases BM
  case true =>
    have HV : Hid (R = 1) := X1.out (by simp)
    go_wp2_with fail
    go_ret
    exact ⟨ret_int HV.out.symm, HBc.out⟩
  go_wp2_with fail
  refine (HH1.out _).mono ?_; rintro e' w4 ⟨rfl, rfl⟩
  cases UN
  · have HRA := Lib.hid (X3.out (by trivial) (by trivial) (by simp))
    go_wp2_with fail
    refine (HH4.out _).mono ?_; rintro e' w5 ⟨rfl, rfl⟩
    cases UA
    · have HRB : Hid (R = if (UB && !decide (vb = 0)) = true then vb else if 12 < d then 2 else 0) := by show _ = _; rw [HRA.out]; rfl
      go_wp2_with fail
      refine (HH8.out _).mono ?_; rintro e' w5 ⟨rfl, rfl⟩
      cases UB
      · have HR : Hid (R = if 12 < d then 2 else 0) := by show _ = _; rw [HRB.out]; rfl
        by_cases hd12 : 12 < d
        · have bd : decide (12 < (d : Int)) = true := decide_eq_true (by omega)
          have HV : Hid (R = 2) := by show _ = _; rw [HR.out, if_pos hd12]
          clear hd12
          go_wp2_with fail
          go_ret
          exact ⟨ret_int HV.out.symm, HBc.out⟩
        · have bd : decide (12 < (d : Int)) = false := decide_eq_false (by omega)
          have HV : Hid (R = 0) := by show _ = _; rw [HR.out, if_neg hd12]
          clear hd12
          go_wp2_with fail
          go_ret
          exact ⟨ret_int HV.out.symm, HBc.out⟩
      · obtain ⟨_, _, _, _, _, _, _, m7, m8, m9, m10, _, _⟩ := HC.out.below HBc.out
        go_wp2_with fail
        refine (HVB.out _ (HK.out.below HBc.out).b).mono ?_; rintro e' w6 ⟨rfl, hb⟩
        have HBc := Lib.hid (below_2 HBc.out hb)
        clear hb m7 m8 m9 m10
        by_cases hvb : vb = 0
        · have bb : (vb != 0) = false := by rw [bne_eq_false_iff_eq]; exact hvb
          have HR : Hid (R = if 12 < d then 2 else 0) := by show _ = _; rw [HRB.out, hvb]; rfl
          clear hvb
          by_cases hd12 : 12 < d
          · have bd : decide (12 < (d : Int)) = true := decide_eq_true (by omega)
            have HV : Hid (R = 2) := by show _ = _; rw [HR.out, if_pos hd12]
            clear hd12
            go_wp2_with fail
            go_ret
            exact ⟨ret_int HV.out.symm, HBc.out⟩
          · have bd : decide (12 < (d : Int)) = false := decide_eq_false (by omega)
            have HV : Hid (R = 0) := by show _ = _; rw [HR.out, if_neg hd12]
            clear hd12
            go_wp2_with fail
            go_ret
            exact ⟨ret_int HV.out.symm, HBc.out⟩
        · have bb : (vb != 0) = true := bne_iff_ne.2 hvb
          have HV : Hid (R = vb) := by show _ = _; rw [HRB.out, decide_eq_false hvb]; rfl
          clear hvb
          go_wp2_with fail
          go_ret
          exact ⟨ret_int HV.out.symm, HBc.out⟩
    · obtain ⟨_, _, _, m3, m4, m5, m6, _, _, _, _, _, _⟩ := HC.out.below HBc.out
      go_wp2_with fail
      refine (HVA.out _ (HK.out.below HBc.out).a).mono ?_; rintro e' w6 ⟨rfl, hb⟩
      have HBc := Lib.hid (below_2 HBc.out hb)
      clear hb m3 m4 m5 m6
      by_cases hva : va = 0
      · have ba : (va != 0) = false := by rw [bne_eq_false_iff_eq]; exact hva
        have HRB : Hid (R = if (UB && !decide (vb = 0)) = true then vb else if 12 < d then 2 else 0) := by show _ = _; rw [HRA.out, hva]; rfl
        clear hva
        go_wp2_with fail
        refine (HH8.out _).mono ?_; rintro e' w5 ⟨rfl, rfl⟩
        cases UB
        · have HR : Hid (R = if 12 < d then 2 else 0) := by show _ = _; rw [HRB.out]; rfl
          by_cases hd12 : 12 < d
          · have bd : decide (12 < (d : Int)) = true := decide_eq_true (by omega)
            have HV : Hid (R = 2) := by show _ = _; rw [HR.out, if_pos hd12]
            clear hd12
            go_wp2_with fail
            go_ret
            exact ⟨ret_int HV.out.symm, HBc.out⟩
          · have bd : decide (12 < (d : Int)) = false := decide_eq_false (by omega)
            have HV : Hid (R = 0) := by show _ = _; rw [HR.out, if_neg hd12]
            clear hd12
            go_wp2_with fail
            go_ret
            exact ⟨ret_int HV.out.symm, HBc.out⟩
        · obtain ⟨_, _, _, _, _, _, _, m7, m8, m9, m10, _, _⟩ := HC.out.below HBc.out
          go_wp2_with fail
          refine (HVB.out _ (HK.out.below HBc.out).b).mono ?_; rintro e' w6 ⟨rfl, hb⟩
          have HBc := Lib.hid (below_2 HBc.out hb)
          clear hb m7 m8 m9 m10
          by_cases hvb : vb = 0
          · have bb : (vb != 0) = false := by rw [bne_eq_false_iff_eq]; exact hvb
            have HR : Hid (R = if 12 < d then 2 else 0) := by show _ = _; rw [HRB.out, hvb]; rfl
            clear hvb
            by_cases hd12 : 12 < d
            · have bd : decide (12 < (d : Int)) = true := decide_eq_true (by omega)
              have HV : Hid (R = 2) := by show _ = _; rw [HR.out, if_pos hd12]
              clear hd12
              go_wp2_with fail
              go_ret
              exact ⟨ret_int HV.out.symm, HBc.out⟩
            · have bd : decide (12 < (d : Int)) = false := decide_eq_false (by omega)
              have HV : Hid (R = 0) := by show _ = _; rw [HR.out, if_neg hd12]
              clear hd12
              go_wp2_with fail
              go_ret
              exact ⟨ret_int HV.out.symm, HBc.out⟩
          · have bb : (vb != 0) = true := bne_iff_ne.2 hvb
            have HV : Hid (R = vb) := by show _ = _; rw [HRB.out, decide_eq_false hvb]; rfl
            clear hvb
            go_wp2_with fail
            go_ret
            exact ⟨ret_int HV.out.symm, HBc.out⟩
      · have ba : (va != 0) = true := bne_iff_ne.2 hva
        have HV : Hid (R = va) := by show _ = _; rw [HRA.out, decide_eq_false hva]; rfl
        clear hva
        go_wp2_with fail
        go_ret
        exact ⟨ret_int HV.out.symm, HBc.out⟩
  · go_wp2_with fail
    refine (HI.out _).mono ?_; rintro e' w5 ⟨rfl, hb⟩
    have HBc := Lib.hid (below_2 HBc.out hb)
    clear hb k0 k1
    cases NM
    · have HV : Hid (R = 7) := X2.out (by trivial) (by trivial) (by trivial) (by trivial)
      go_wp2_with fail
      go_ret
      exact ⟨ret_int HV.out.symm, HBc.out⟩
    · have HRA := Lib.hid (X3.out (by trivial) (by trivial) (by simp))
      go_wp2_with fail
      refine (HH4.out _).mono ?_; rintro e' w5 ⟨rfl, rfl⟩
      cases UA
      · have HRB : Hid (R = if (UB && !decide (vb = 0)) = true then vb else if 12 < d then 2 else 0) := by show _ = _; rw [HRA.out]; rfl
        go_wp2_with fail
        refine (HH8.out _).mono ?_; rintro e' w5 ⟨rfl, rfl⟩
        cases UB
        · have HR : Hid (R = if 12 < d then 2 else 0) := by show _ = _; rw [HRB.out]; rfl
          by_cases hd12 : 12 < d
          · have bd : decide (12 < (d : Int)) = true := decide_eq_true (by omega)
            have HV : Hid (R = 2) := by show _ = _; rw [HR.out, if_pos hd12]
            clear hd12
            go_wp2_with fail
            go_ret
            exact ⟨ret_int HV.out.symm, HBc.out⟩
          · have bd : decide (12 < (d : Int)) = false := decide_eq_false (by omega)
            have HV : Hid (R = 0) := by show _ = _; rw [HR.out, if_neg hd12]
            clear hd12
            go_wp2_with fail
            go_ret
            exact ⟨ret_int HV.out.symm, HBc.out⟩
        · obtain ⟨_, _, _, _, _, _, _, m7, m8, m9, m10, _, _⟩ := HC.out.below HBc.out
          go_wp2_with fail
          refine (HVB.out _ (HK.out.below HBc.out).b).mono ?_; rintro e' w6 ⟨rfl, hb⟩
          have HBc := Lib.hid (below_2 HBc.out hb)
          clear hb m7 m8 m9 m10
          by_cases hvb : vb = 0
          · have bb : (vb != 0) = false := by rw [bne_eq_false_iff_eq]; exact hvb
            have HR : Hid (R = if 12 < d then 2 else 0) := by show _ = _; rw [HRB.out, hvb]; rfl
            clear hvb
            by_cases hd12 : 12 < d
            · have bd : decide (12 < (d : Int)) = true := decide_eq_true (by omega)
              have HV : Hid (R = 2) := by show _ = _; rw [HR.out, if_pos hd12]
              clear hd12
              go_wp2_with fail
              go_ret
              exact ⟨ret_int HV.out.symm, HBc.out⟩
            · have bd : decide (12 < (d : Int)) = false := decide_eq_false (by omega)
              have HV : Hid (R = 0) := by show _ = _; rw [HR.out, if_neg hd12]
              clear hd12
              go_wp2_with fail
              go_ret
              exact ⟨ret_int HV.out.symm, HBc.out⟩
          · have bb : (vb != 0) = true := bne_iff_ne.2 hvb
            have HV : Hid (R = vb) := by show _ = _; rw [HRB.out, decide_eq_false hvb]; rfl
            clear hvb
            go_wp2_with fail
            go_ret
            exact ⟨ret_int HV.out.symm, HBc.out⟩
      · obtain ⟨_, _, _, m3, m4, m5, m6, _, _, _, _, _, _⟩ := HC.out.below HBc.out
        go_wp2_with fail
        refine (HVA.out _ (HK.out.below HBc.out).a).mono ?_; rintro e' w6 ⟨rfl, hb⟩
        have HBc := Lib.hid (below_2 HBc.out hb)
        clear hb m3 m4 m5 m6
        by_cases hva : va = 0
        · have ba : (va != 0) = false := by rw [bne_eq_false_iff_eq]; exact hva
          have HRB : Hid (R = if (UB && !decide (vb = 0)) = true then vb else if 12 < d then 2 else 0) := by show _ = _; rw [HRA.out, hva]; rfl
          clear hva
          go_wp2_with fail
          refine (HH8.out _).mono ?_; rintro e' w5 ⟨rfl, rfl⟩
          cases UB
          · have HR : Hid (R = if 12 < d then 2 else 0) := by show _ = _; rw [HRB.out]; rfl
            by_cases hd12 : 12 < d
            · have bd : decide (12 < (d : Int)) = true := decide_eq_true (by omega)
              have HV : Hid (R = 2) := by show _ = _; rw [HR.out, if_pos hd12]
              clear hd12
              go_wp2_with fail
              go_ret
              exact ⟨ret_int HV.out.symm, HBc.out⟩
            · have bd : decide (12 < (d : Int)) = false := decide_eq_false (by omega)
              have HV : Hid (R = 0) := by show _ = _; rw [HR.out, if_neg hd12]
              clear hd12
              go_wp2_with fail
              go_ret
              exact ⟨ret_int HV.out.symm, HBc.out⟩
          · obtain ⟨_, _, _, _, _, _, _, m7, m8, m9, m10, _, _⟩ := HC.out.below HBc.out
            go_wp2_with fail
            refine (HVB.out _ (HK.out.below HBc.out).b).mono ?_; rintro e' w6 ⟨rfl, hb⟩
            have HBc := Lib.hid (below_2 HBc.out hb)
            clear hb m7 m8 m9 m10
            by_cases hvb : vb = 0
            · have bb : (vb != 0) = false := by rw [bne_eq_false_iff_eq]; exact hvb
              have HR : Hid (R = if 12 < d then 2 else 0) := by show _ = _; rw [HRB.out, hvb]; rfl
              clear hvb
              by_cases hd12 : 12 < d
              · have bd : decide (12 < (d : Int)) = true := decide_eq_true (by omega)
                have HV : Hid (R = 2) := by show _ = _; rw [HR.out, if_pos hd12]
                clear hd12
                go_wp2_with fail
                go_ret
                exact ⟨ret_int HV.out.symm, HBc.out⟩
              · have bd : decide (12 < (d : Int)) = false := decide_eq_false (by omega)
                have HV : Hid (R = 0) := by show _ = _; rw [HR.out, if_neg hd12]
                clear hd12
                go_wp2_with fail
                go_ret
                exact ⟨ret_int HV.out.symm, HBc.out⟩
            · have bb : (vb != 0) = true := bne_iff_ne.2 hvb
              have HV : Hid (R = vb) := by show _ = _; rw [HRB.out, decide_eq_false hvb]; rfl
              clear hvb
              go_wp2_with fail
              go_ret
              exact ⟨ret_int HV.out.symm, HBc.out⟩
        · have ba : (va != 0) = true := bne_iff_ne.2 hva
          have HV : Hid (R = va) := by show _ = _; rw [HRA.out, decide_eq_false hva]; rfl
          clear hva
          go_wp2_with fail
          go_ret
          exact ⟨ret_int HV.out.symm, HBc.out⟩
end Go.Proofs.YtkjefigebdbkaaaDoor.A
namespace Go.Proofs.YtkjefigebdbkaaaDoor.A
open Go.RowKit
open L (Str isName prt size_len below_2 below_box ret_bool ret_int eql_eq bytes_eq)

/-- a step of walk, and what it keeps -/
structure VisV {σ : Type} (q1 : Addr) (g : σ → U → σ × Bool) (w0 : World) (J : Nat → (Nat → Prop) → σ → World → Prop) : Prop where
  call : ∀ (n : Nat) (X : Nat → Prop) (s : σ) (u : U) (ps pe : Option Addr) (w : World), n ≤ 400 → (∀ k, X k → w0.heap.size ≤ k ∧ k < w.heap.size) → J n X s w → Below w0.heap.size w0 w → UAt w0 u ps pe → UOk u →
    Calls Tryd.prog 66 #[nodeV ps pe u.d, .pointer (some q1)] w fun e w' => e = .returned (.bool (g s u).2) ∧ J (n + 1) X (g s u).1 w' ∧ Below w0.heap.size w w' ∧ (∀ k, X k → w'.heap[k]? = w.heap[k]?)
  keep : ∀ (n : Nat) (X : Nat → Prop) (s : σ) (w w' : World), J n X s w → w.heap.size ≤ w'.heap.size → (∀ k, k < w.heap.size → ¬ X k → w'.heap[k]? = w.heap[k]?) → J n X s w'
  wide : ∀ (n : Nat) (X : Nat → Prop) (s : σ) (w : World), J n (fun _ => False) s w → (∀ k, X k → w.heap.size ≤ k) → J n X s w
  narrow : ∀ (n : Nat) (X : Nat → Prop) (s : σ) (w : World), J n X s w → J n (fun _ => False) s w
set_option maxHeartbeats 2000000 in
set_option maxRecDepth 100000 in
theorem stepV {σ : Type} {q1 : Addr} {g : σ → U → σ × Bool} {w0 : World} {J : Nat → (Nat → Prop) → σ → World → Prop} (H : VisV q1 g w0 J) {N M : Nat} (hN : w0.heap.size ≤ N) (hM : w0.heap.size ≤ M) (hne : N ≠ M) :
    StepW ⟨N, 0, none⟩ ⟨M, 0, none⟩ (cnt g) w0 (fun b x w => Cell1 N (.int .i64 x.1) w ∧ Cell1 M (.func (Fn.func 66) #[] #[.pointer (some q1)]) w ∧ ∃ n : Nat, x.1 = (n : Int) ∧ (b = true → n ≤ 400) ∧ J n (fun k => k = N ∨ k = M) x.2 w) := by
  refine ⟨fun x u ps pe w hI hb0 hat hok => ?_⟩
  obtain ⟨z, s⟩ := x
  obtain ⟨hN1, hM1, n, hzn, hn, hJ⟩ := hI
  simp only at hN1 hM1 hJ hzn
  have hn4 := hn rfl
  obtain ⟨z2, hz⟩ : ∃ z2, IntKind.i64.wrap (z + 1) = z2 := ⟨_, rfl⟩
  have hz2 : z2 = ((n + 1 : Nat) : Int) := by rw [← hz, hzn, wrap_small (by omega) (by omega)]; rfl
  have hw := below_box w (.cells #[.pointer ps, .pointer pe, .int .i64 (u.d : Int)] 111)
  have hs : ((w.alloc (.cells #[.pointer ps, .pointer pe, .int .i64 (u.d : Int)] 111)).setCell ⟨N, 0, none⟩ (.int .i64 z2)).heap.size = (w.alloc (.cells #[.pointer ps, .pointer pe, .int .i64 (u.d : Int)] 111)).heap.size := by simp
  have hN2 := (hN1.later hw).set (u := .int .i64 z2)
  have hM2 : Cell1 M (.func (Fn.func 66) #[] #[.pointer (some q1)]) ((w.alloc (.cells #[.pointer ps, .pointer pe, .int .i64 (u.d : Int)] 111)).setCell ⟨N, 0, none⟩ (.int .i64 z2)) := by
    have h := hM1.later hw
    have hk : ((w.alloc (.cells #[.pointer ps, .pointer pe, .int .i64 (u.d : Int)] 111)).setCell ⟨N, 0, none⟩ (.int .i64 z2)).heap[M]? = (w.alloc (.cells #[.pointer ps, .pointer pe, .int .i64 (u.d : Int)] 111)).heap[M]? := Below.heap_setCell _ _ _ _ (by exact hne.symm)
    exact h.moved hk
  have hB2 := hb0.trans (((hw.mono hb0.size).setCell (p := ⟨N, 0, none⟩) hN (.int .i64 z2)))
  have hJ2 := H.keep n _ s w ((w.alloc (.cells #[.pointer ps, .pointer pe, .int .i64 (u.d : Int)] 111)).setCell ⟨N, 0, none⟩ (.int .i64 z2)) hJ (by rw [hs]; exact hw.size) (fun k hk hx => (Below.heap_setCell _ _ _ _ (fun e => hx (Or.inl e))).trans (hw.block k hk))
  have hC := H.call n _ s u ps pe _ hn4 (fun k hk => by
    rcases hk with rfl | rfl
    · exact ⟨hN, by rw [hs]; exact (hN1.later hw).lt⟩
    · exact ⟨hM, by rw [hs]; exact (hM1.later hw).lt⟩) hJ2 hB2 hat hok
  have HB : Hid (Below w0.heap.size w ((w.alloc (.cells #[.pointer ps, .pointer pe, .int .i64 (u.d : Int)] 111)).setCell ⟨N, 0, none⟩ (.int .i64 z2))) := (hw.mono hb0.size).setCell (p := ⟨N, 0, none⟩) hN (.int .i64 z2)
  have HV : Hid (cnt g (z, s) u = ((z2, (g s u).1), (g s u).2 && decide (z2 ≤ 400))) := by show _ = _; unfold cnt; simp only [hz]
  rw [HV.out]
  have HN2 := Lib.hid hN2
  have HM2 := Lib.hid hM2
  have HC := Lib.hid hC
  have hNw := hN1.later hw
  obtain ⟨n1, n2, n3⟩ := hNw
  have m2 := hM2.cell
  have n0 := hN1.cell
  have hnw : w.heap.size ≠ N := fun h => Nat.lt_irrefl _ (h ▸ hN1.lt)
  have hblk : ((w.alloc (.cells #[.pointer ps, .pointer pe, .int .i64 (u.d : Int)] 111)).setCell ⟨N, 0, none⟩ (.int .i64 z2)).heap[w.heap.size]? = (w.alloc (.cells #[.pointer ps, .pointer pe, .int .i64 (u.d : Int)] 111)).heap[w.heap.size]? := Below.heap_setCell _ _ _ _ (by exact hnw)
  have d0 := (World.cell?_of_block (a := ⟨w.heap.size, 0, none⟩) hblk).trans (show _ = some (.pointer ps) by go_simp)
  have d1 := (World.cell?_of_block (a := ⟨w.heap.size, 1, none⟩) hblk).trans (show _ = some (.pointer pe) by go_simp)
  have d2 := (World.cell?_of_block (a := ⟨w.heap.size, 2, none⟩) hblk).trans (show _ = some (.int .i64 (u.d : Int)) by go_simp)
  unfold nodeV at *
  generalize g s u = r at HC ⊢
  obtain ⟨s2, y⟩ := r
  simp only at HC ⊢
  have HZ2 := Lib.hid hz2
  clear hw hs hN2 hM2 hB2 hJ2 hC hN1 hM1 hJ hz2 hzn hn HV hat hok hb0 hblk hnw
  cases y
  · go_enter Tryd.func104, Tryd.ntmps104
    go_wp2_with fail
    refine HC.out.mono ?_; rintro e' w2 ⟨rfl, hJ2, hb2, hx⟩
    have HI : Hid (Cell1 N (.int .i64 z2) w2 ∧ Cell1 M (.func (Fn.func 66) #[] #[.pointer (some q1)]) w2 ∧ ∃ n' : Nat, z2 = (n' : Int) ∧ (false = true → n' ≤ 400) ∧ J n' (fun k => k = N ∨ k = M) s2 w2) := ⟨HN2.out.moved2 (hx N (Or.inl rfl)), HM2.out.moved2 (hx M (Or.inr rfl)), n + 1, HZ2.out, (fun hb => by cases hb), hJ2⟩
    have HB2 := Lib.hid (HB.out.trans hb2)
    clear hJ2 hb2 hx
    go_wp2_with fail
    go_ret
    exact ⟨rfl, HI.out, HB2.out⟩
  · obtain ⟨t, ht⟩ : ∃ t, decide (z2 ≤ 400) = t := ⟨_, rfl⟩
    rw [ht]
    have HT := Lib.hid ht
    go_enter Tryd.func104, Tryd.ntmps104
    go_wp2_with fail
    refine HC.out.mono ?_; rintro e' w2 ⟨rfl, hJ2, hb2, hx⟩
    have HI : Hid (Cell1 N (.int .i64 z2) w2 ∧ Cell1 M (.func (Fn.func 66) #[] #[.pointer (some q1)]) w2 ∧ ∃ n' : Nat, z2 = (n' : Int) ∧ ((true && t) = true → n' ≤ 400) ∧ J n' (fun k => k = N ∨ k = M) s2 w2) := ⟨HN2.out.moved2 (hx N (Or.inl rfl)), HM2.out.moved2 (hx M (Or.inr rfl)), n + 1, HZ2.out, (fun hb => by have := HT.out; rw [Bool.true_and] at hb; rw [hb] at this; have h4 := of_decide_eq_true this; have h5 := HZ2.out; omega), hJ2⟩
    have HB2 := Lib.hid (HB.out.trans hb2)
    have n4 := HI.out.1.cell
    clear hJ2 hb2 hx
    go_wp2_with fail
    go_ret
    exact ⟨rfl, HI.out, HB2.out⟩
set_option maxHeartbeats 2000000 in
set_option maxRecDepth 100000 in
theorem owalkV_any {σ : Type} {q1 : Addr} {g : σ → U → σ × Bool} {w0 : World} {J : Nat → (Nat → Prop) → σ → World → Prop} (H : VisV q1 g w0 J) (p : Pr) (a1 : Option Addr) (c1 : Nat) (a2 : Option Addr) (c2 : Nat) (hok : okB p.body) (hl : p.body.length ≤ 1000000000000000) (hsz : 1 + cB p.body ≤ 1000000) (hK : Bodies w0 a2 p.body)
    (s : σ) (w : World) (hJ : J 0 (fun _ => False) s w) (hb0 : Below w0.heap.size w0 w) :
    Calls Tryd.prog 65 #[prV p a1 c1 a2 c2, .func (Fn.func 66) #[] #[.pointer (some q1)]] w fun e' w' => e' = .returned (.tuple #[]) ∧ (∃ n', J n' (fun _ => False) (run g s (walkU p)).1 w') ∧ Below w0.heap.size w w' := by
  have hz := hb0.size
  have hw := below_2 (below_2 (below_box w (prO p a1 c1 a2 c2)) (below_box _ (.cells #[.func (Fn.func 66) #[] #[.pointer (some q1)]] 113))) (below_box _ (.cells #[.int .i64 0] 3))
  have hst := stepV H (N := w.heap.size + 2) (M := w.heap.size + 1) (by omega) (by omega) (by omega)
  have hJ2 := H.keep 0 _ s w (((w.alloc (prO p a1 c1 a2 c2)).alloc (.cells #[.func (Fn.func 66) #[] #[.pointer (some q1)]] 113)).alloc (.cells #[.int .i64 0] 3)) (H.wide 0 (fun k => k = w.heap.size + 2 ∨ k = w.heap.size + 1) s w hJ (fun k hk => by omega)) hw.size (fun k hk _ => hw.block k hk)
  have hN : Cell1 (w.heap.size + 2) (.int .i64 0) (((w.alloc (prO p a1 c1 a2 c2)).alloc (.cells #[.func (Fn.func 66) #[] #[.pointer (some q1)]] 113)).alloc (.cells #[.int .i64 0] 3)) := cell1_at (by simp)
  have hM : Cell1 (w.heap.size + 1) (.func (Fn.func 66) #[] #[.pointer (some q1)]) (((w.alloc (prO p a1 c1 a2 c2)).alloc (.cells #[.func (Fn.func 66) #[] #[.pointer (some q1)]] 113)).alloc (.cells #[.int .i64 0] 3)) := (cell1_at (by simp)).later (below_box _ _)
  have hB : Below w0.heap.size w _ := hw.mono hz
  have hC := owalkStmts_any hst p.body a2 c2 1 (0, s) _ hok hl hsz hK ⟨hN, hM, 0, rfl, fun _ => by omega, hJ2⟩ (hb0.trans hB)
  have HRW := Lib.hid (run_walk g s p)
  rw [← HRW.out]
  generalize run (cnt g) (0, s) (nB p.body 1) = r at hC ⊢
  have HC := Lib.hid hC
  have HB := Lib.hid hB
  have HNW : Hid (∀ n w2, J n (fun k => k = w.heap.size + 2 ∨ k = w.heap.size + 1) r.1.2 w2 → J n (fun _ => False) r.1.2 w2) := fun n w2 h => H.narrow _ _ _ _ h
  simp only [show ((1 : Nat) : Int) = 1 from rfl] at HC
  unfold prO at HC HB
  unfold prV
  clear hz hw hst hJ2 hN hM hB hC HRW hok hl hsz hK hJ hb0 H
  go_enter Tryd.func65, Tryd.ntmps65
  go_wp2_with fail
  refine HC.out.mono ?_; rintro e' w2 ⟨rfl, ⟨_, _, n3, _, _, hJ3⟩, hb2⟩
  have HJ3 := Lib.hid (HNW.out n3 w2 hJ3)
  have HB2 := Lib.hid (HB.out.trans hb2)
  clear hJ3 hb2
  go_wp2_with fail
  go_end0
  exact ⟨rfl, ⟨n3, HJ3.out⟩, HB2.out⟩
/-- a step of walk, and what it keeps -/
structure VisN {σ : Type} (q1 : Addr) (g : σ → U → σ × Bool) (w0 : World) (J : Nat → (Nat → Prop) → σ → World → Prop) : Prop where
  call : ∀ (n : Nat) (X : Nat → Prop) (s : σ) (u : U) (ps pe : Option Addr) (w : World), n ≤ 400 → (∀ k, X k → w0.heap.size ≤ k ∧ k < w.heap.size) → J n X s w → Below w0.heap.size w0 w → UAt w0 u ps pe → UOk u →
    Calls Tryd.prog 109 #[nodeV ps pe u.d, .pointer (some q1)] w fun e w' => e = .returned (.bool (g s u).2) ∧ J (n + 1) X (g s u).1 w' ∧ Below w0.heap.size w w' ∧ (∀ k, X k → w'.heap[k]? = w.heap[k]?)
  keep : ∀ (n : Nat) (X : Nat → Prop) (s : σ) (w w' : World), J n X s w → w.heap.size ≤ w'.heap.size → (∀ k, k < w.heap.size → ¬ X k → w'.heap[k]? = w.heap[k]?) → J n X s w'
  wide : ∀ (n : Nat) (X : Nat → Prop) (s : σ) (w : World), J n (fun _ => False) s w → (∀ k, X k → w.heap.size ≤ k) → J n X s w
  narrow : ∀ (n : Nat) (X : Nat → Prop) (s : σ) (w : World), J n X s w → J n (fun _ => False) s w
set_option maxHeartbeats 2000000 in
set_option maxRecDepth 100000 in
theorem stepN {σ : Type} {q1 : Addr} {g : σ → U → σ × Bool} {w0 : World} {J : Nat → (Nat → Prop) → σ → World → Prop} (H : VisN q1 g w0 J) {N M : Nat} (hN : w0.heap.size ≤ N) (hM : w0.heap.size ≤ M) (hne : N ≠ M) :
    StepW ⟨N, 0, none⟩ ⟨M, 0, none⟩ (cnt g) w0 (fun b x w => Cell1 N (.int .i64 x.1) w ∧ Cell1 M (.func (Fn.func 109) #[] #[.pointer (some q1)]) w ∧ ∃ n : Nat, x.1 = (n : Int) ∧ (b = true → n ≤ 400) ∧ J n (fun k => k = N ∨ k = M) x.2 w) := by
  refine ⟨fun x u ps pe w hI hb0 hat hok => ?_⟩
  obtain ⟨z, s⟩ := x
  obtain ⟨hN1, hM1, n, hzn, hn, hJ⟩ := hI
  simp only at hN1 hM1 hJ hzn
  have hn4 := hn rfl
  obtain ⟨z2, hz⟩ : ∃ z2, IntKind.i64.wrap (z + 1) = z2 := ⟨_, rfl⟩
  have hz2 : z2 = ((n + 1 : Nat) : Int) := by rw [← hz, hzn, wrap_small (by omega) (by omega)]; rfl
  have hw := below_box w (.cells #[.pointer ps, .pointer pe, .int .i64 (u.d : Int)] 111)
  have hs : ((w.alloc (.cells #[.pointer ps, .pointer pe, .int .i64 (u.d : Int)] 111)).setCell ⟨N, 0, none⟩ (.int .i64 z2)).heap.size = (w.alloc (.cells #[.pointer ps, .pointer pe, .int .i64 (u.d : Int)] 111)).heap.size := by simp
  have hN2 := (hN1.later hw).set (u := .int .i64 z2)
  have hM2 : Cell1 M (.func (Fn.func 109) #[] #[.pointer (some q1)]) ((w.alloc (.cells #[.pointer ps, .pointer pe, .int .i64 (u.d : Int)] 111)).setCell ⟨N, 0, none⟩ (.int .i64 z2)) := by
    have h := hM1.later hw
    have hk : ((w.alloc (.cells #[.pointer ps, .pointer pe, .int .i64 (u.d : Int)] 111)).setCell ⟨N, 0, none⟩ (.int .i64 z2)).heap[M]? = (w.alloc (.cells #[.pointer ps, .pointer pe, .int .i64 (u.d : Int)] 111)).heap[M]? := Below.heap_setCell _ _ _ _ (by exact hne.symm)
    exact h.moved hk
  have hB2 := hb0.trans (((hw.mono hb0.size).setCell (p := ⟨N, 0, none⟩) hN (.int .i64 z2)))
  have hJ2 := H.keep n _ s w ((w.alloc (.cells #[.pointer ps, .pointer pe, .int .i64 (u.d : Int)] 111)).setCell ⟨N, 0, none⟩ (.int .i64 z2)) hJ (by rw [hs]; exact hw.size) (fun k hk hx => (Below.heap_setCell _ _ _ _ (fun e => hx (Or.inl e))).trans (hw.block k hk))
  have hC := H.call n _ s u ps pe _ hn4 (fun k hk => by
    rcases hk with rfl | rfl
    · exact ⟨hN, by rw [hs]; exact (hN1.later hw).lt⟩
    · exact ⟨hM, by rw [hs]; exact (hM1.later hw).lt⟩) hJ2 hB2 hat hok
  have HB : Hid (Below w0.heap.size w ((w.alloc (.cells #[.pointer ps, .pointer pe, .int .i64 (u.d : Int)] 111)).setCell ⟨N, 0, none⟩ (.int .i64 z2))) := (hw.mono hb0.size).setCell (p := ⟨N, 0, none⟩) hN (.int .i64 z2)
  have HV : Hid (cnt g (z, s) u = ((z2, (g s u).1), (g s u).2 && decide (z2 ≤ 400))) := by show _ = _; unfold cnt; simp only [hz]
  rw [HV.out]
  have HN2 := Lib.hid hN2
  have HM2 := Lib.hid hM2
  have HC := Lib.hid hC
  have hNw := hN1.later hw
  obtain ⟨n1, n2, n3⟩ := hNw
  have m2 := hM2.cell
  have n0 := hN1.cell
  have hnw : w.heap.size ≠ N := fun h => Nat.lt_irrefl _ (h ▸ hN1.lt)
  have hblk : ((w.alloc (.cells #[.pointer ps, .pointer pe, .int .i64 (u.d : Int)] 111)).setCell ⟨N, 0, none⟩ (.int .i64 z2)).heap[w.heap.size]? = (w.alloc (.cells #[.pointer ps, .pointer pe, .int .i64 (u.d : Int)] 111)).heap[w.heap.size]? := Below.heap_setCell _ _ _ _ (by exact hnw)
  have d0 := (World.cell?_of_block (a := ⟨w.heap.size, 0, none⟩) hblk).trans (show _ = some (.pointer ps) by go_simp)
  have d1 := (World.cell?_of_block (a := ⟨w.heap.size, 1, none⟩) hblk).trans (show _ = some (.pointer pe) by go_simp)
  have d2 := (World.cell?_of_block (a := ⟨w.heap.size, 2, none⟩) hblk).trans (show _ = some (.int .i64 (u.d : Int)) by go_simp)
  unfold nodeV at *
  generalize g s u = r at HC ⊢
  obtain ⟨s2, y⟩ := r
  simp only at HC ⊢
  have HZ2 := Lib.hid hz2
  clear hw hs hN2 hM2 hB2 hJ2 hC hN1 hM1 hJ hz2 hzn hn HV hat hok hb0 hblk hnw
  cases y
  · go_enter Tryd.func104, Tryd.ntmps104
    go_wp2_with fail
    refine HC.out.mono ?_; rintro e' w2 ⟨rfl, hJ2, hb2, hx⟩
    have HI : Hid (Cell1 N (.int .i64 z2) w2 ∧ Cell1 M (.func (Fn.func 109) #[] #[.pointer (some q1)]) w2 ∧ ∃ n' : Nat, z2 = (n' : Int) ∧ (false = true → n' ≤ 400) ∧ J n' (fun k => k = N ∨ k = M) s2 w2) := ⟨HN2.out.moved2 (hx N (Or.inl rfl)), HM2.out.moved2 (hx M (Or.inr rfl)), n + 1, HZ2.out, (fun hb => by cases hb), hJ2⟩
    have HB2 := Lib.hid (HB.out.trans hb2)
    clear hJ2 hb2 hx
    go_wp2_with fail
    go_ret
    exact ⟨rfl, HI.out, HB2.out⟩
  · obtain ⟨t, ht⟩ : ∃ t, decide (z2 ≤ 400) = t := ⟨_, rfl⟩
    rw [ht]
    have HT := Lib.hid ht
    go_enter Tryd.func104, Tryd.ntmps104
    go_wp2_with fail
    refine HC.out.mono ?_; rintro e' w2 ⟨rfl, hJ2, hb2, hx⟩
    have HI : Hid (Cell1 N (.int .i64 z2) w2 ∧ Cell1 M (.func (Fn.func 109) #[] #[.pointer (some q1)]) w2 ∧ ∃ n' : Nat, z2 = (n' : Int) ∧ ((true && t) = true → n' ≤ 400) ∧ J n' (fun k => k = N ∨ k = M) s2 w2) := ⟨HN2.out.moved2 (hx N (Or.inl rfl)), HM2.out.moved2 (hx M (Or.inr rfl)), n + 1, HZ2.out, (fun hb => by have := HT.out; rw [Bool.true_and] at hb; rw [hb] at this; have h4 := of_decide_eq_true this; have h5 := HZ2.out; omega), hJ2⟩
    have HB2 := Lib.hid (HB.out.trans hb2)
    have n4 := HI.out.1.cell
    clear hJ2 hb2 hx
    go_wp2_with fail
    go_ret
    exact ⟨rfl, HI.out, HB2.out⟩
set_option maxHeartbeats 2000000 in
set_option maxRecDepth 100000 in
theorem owalkN_any {σ : Type} {q1 : Addr} {g : σ → U → σ × Bool} {w0 : World} {J : Nat → (Nat → Prop) → σ → World → Prop} (H : VisN q1 g w0 J) (p : Pr) (a1 : Option Addr) (c1 : Nat) (a2 : Option Addr) (c2 : Nat) (hok : okB p.body) (hl : p.body.length ≤ 1000000000000000) (hsz : 1 + cB p.body ≤ 1000000) (hK : Bodies w0 a2 p.body)
    (s : σ) (w : World) (hJ : J 0 (fun _ => False) s w) (hb0 : Below w0.heap.size w0 w) :
    Calls Tryd.prog 65 #[prV p a1 c1 a2 c2, .func (Fn.func 109) #[] #[.pointer (some q1)]] w fun e' w' => e' = .returned (.tuple #[]) ∧ (∃ n', J n' (fun _ => False) (run g s (walkU p)).1 w') ∧ Below w0.heap.size w w' := by
  have hz := hb0.size
  have hw := below_2 (below_2 (below_box w (prO p a1 c1 a2 c2)) (below_box _ (.cells #[.func (Fn.func 109) #[] #[.pointer (some q1)]] 113))) (below_box _ (.cells #[.int .i64 0] 3))
  have hst := stepN H (N := w.heap.size + 2) (M := w.heap.size + 1) (by omega) (by omega) (by omega)
  have hJ2 := H.keep 0 _ s w (((w.alloc (prO p a1 c1 a2 c2)).alloc (.cells #[.func (Fn.func 109) #[] #[.pointer (some q1)]] 113)).alloc (.cells #[.int .i64 0] 3)) (H.wide 0 (fun k => k = w.heap.size + 2 ∨ k = w.heap.size + 1) s w hJ (fun k hk => by omega)) hw.size (fun k hk _ => hw.block k hk)
  have hN : Cell1 (w.heap.size + 2) (.int .i64 0) (((w.alloc (prO p a1 c1 a2 c2)).alloc (.cells #[.func (Fn.func 109) #[] #[.pointer (some q1)]] 113)).alloc (.cells #[.int .i64 0] 3)) := cell1_at (by simp)
  have hM : Cell1 (w.heap.size + 1) (.func (Fn.func 109) #[] #[.pointer (some q1)]) (((w.alloc (prO p a1 c1 a2 c2)).alloc (.cells #[.func (Fn.func 109) #[] #[.pointer (some q1)]] 113)).alloc (.cells #[.int .i64 0] 3)) := (cell1_at (by simp)).later (below_box _ _)
  have hB : Below w0.heap.size w _ := hw.mono hz
  have hC := owalkStmts_any hst p.body a2 c2 1 (0, s) _ hok hl hsz hK ⟨hN, hM, 0, rfl, fun _ => by omega, hJ2⟩ (hb0.trans hB)
  have HRW := Lib.hid (run_walk g s p)
  rw [← HRW.out]
  generalize run (cnt g) (0, s) (nB p.body 1) = r at hC ⊢
  have HC := Lib.hid hC
  have HB := Lib.hid hB
  have HNW : Hid (∀ n w2, J n (fun k => k = w.heap.size + 2 ∨ k = w.heap.size + 1) r.1.2 w2 → J n (fun _ => False) r.1.2 w2) := fun n w2 h => H.narrow _ _ _ _ h
  simp only [show ((1 : Nat) : Int) = 1 from rfl] at HC
  unfold prO at HC HB
  unfold prV
  clear hz hw hst hJ2 hN hM hB hC HRW hok hl hsz hK hJ hb0 H
  go_enter Tryd.func65, Tryd.ntmps65
  go_wp2_with fail
  refine HC.out.mono ?_; rintro e' w2 ⟨rfl, ⟨_, _, n3, _, _, hJ3⟩, hb2⟩
  have HJ3 := Lib.hid (HNW.out n3 w2 hJ3)
  have HB2 := Lib.hid (HB.out.trans hb2)
  clear hJ3 hb2
  go_wp2_with fail
  go_end0
  exact ⟨rfl, ⟨n3, HJ3.out⟩, HB2.out⟩
/-- a step of walk, and what it keeps -/
structure VisO {σ : Type} (q1 q2 : Addr) (g : σ → U → σ × Bool) (w0 : World) (J : Nat → (Nat → Prop) → σ → World → Prop) : Prop where
  call : ∀ (n : Nat) (X : Nat → Prop) (s : σ) (u : U) (ps pe : Option Addr) (w : World), n ≤ 400 → (∀ k, X k → w0.heap.size ≤ k ∧ k < w.heap.size) → J n X s w → Below w0.heap.size w0 w → UAt w0 u ps pe → UOk u →
    Calls Tryd.prog 74 #[nodeV ps pe u.d, .pointer (some q1), .pointer (some q2)] w fun e w' => e = .returned (.bool (g s u).2) ∧ J (n + 1) X (g s u).1 w' ∧ Below w0.heap.size w w' ∧ (∀ k, X k → w'.heap[k]? = w.heap[k]?)
  keep : ∀ (n : Nat) (X : Nat → Prop) (s : σ) (w w' : World), J n X s w → w.heap.size ≤ w'.heap.size → (∀ k, k < w.heap.size → ¬ X k → w'.heap[k]? = w.heap[k]?) → J n X s w'
  wide : ∀ (n : Nat) (X : Nat → Prop) (s : σ) (w : World), J n (fun _ => False) s w → (∀ k, X k → w.heap.size ≤ k) → J n X s w
  narrow : ∀ (n : Nat) (X : Nat → Prop) (s : σ) (w : World), J n X s w → J n (fun _ => False) s w
set_option maxHeartbeats 2000000 in
set_option maxRecDepth 100000 in
theorem stepO {σ : Type} {q1 q2 : Addr} {g : σ → U → σ × Bool} {w0 : World} {J : Nat → (Nat → Prop) → σ → World → Prop} (H : VisO q1 q2 g w0 J) {N M : Nat} (hN : w0.heap.size ≤ N) (hM : w0.heap.size ≤ M) (hne : N ≠ M) :
    StepW ⟨N, 0, none⟩ ⟨M, 0, none⟩ (cnt g) w0 (fun b x w => Cell1 N (.int .i64 x.1) w ∧ Cell1 M (.func (Fn.func 74) #[] #[.pointer (some q1), .pointer (some q2)]) w ∧ ∃ n : Nat, x.1 = (n : Int) ∧ (b = true → n ≤ 400) ∧ J n (fun k => k = N ∨ k = M) x.2 w) := by
  refine ⟨fun x u ps pe w hI hb0 hat hok => ?_⟩
  obtain ⟨z, s⟩ := x
  obtain ⟨hN1, hM1, n, hzn, hn, hJ⟩ := hI
  simp only at hN1 hM1 hJ hzn
  have hn4 := hn rfl
  obtain ⟨z2, hz⟩ : ∃ z2, IntKind.i64.wrap (z + 1) = z2 := ⟨_, rfl⟩
  have hz2 : z2 = ((n + 1 : Nat) : Int) := by rw [← hz, hzn, wrap_small (by omega) (by omega)]; rfl
  have hw := below_box w (.cells #[.pointer ps, .pointer pe, .int .i64 (u.d : Int)] 111)
  have hs : ((w.alloc (.cells #[.pointer ps, .pointer pe, .int .i64 (u.d : Int)] 111)).setCell ⟨N, 0, none⟩ (.int .i64 z2)).heap.size = (w.alloc (.cells #[.pointer ps, .pointer pe, .int .i64 (u.d : Int)] 111)).heap.size := by simp
  have hN2 := (hN1.later hw).set (u := .int .i64 z2)
  have hM2 : Cell1 M (.func (Fn.func 74) #[] #[.pointer (some q1), .pointer (some q2)]) ((w.alloc (.cells #[.pointer ps, .pointer pe, .int .i64 (u.d : Int)] 111)).setCell ⟨N, 0, none⟩ (.int .i64 z2)) := by
    have h := hM1.later hw
    have hk : ((w.alloc (.cells #[.pointer ps, .pointer pe, .int .i64 (u.d : Int)] 111)).setCell ⟨N, 0, none⟩ (.int .i64 z2)).heap[M]? = (w.alloc (.cells #[.pointer ps, .pointer pe, .int .i64 (u.d : Int)] 111)).heap[M]? := Below.heap_setCell _ _ _ _ (by exact hne.symm)
    exact h.moved hk
  have hB2 := hb0.trans (((hw.mono hb0.size).setCell (p := ⟨N, 0, none⟩) hN (.int .i64 z2)))
  have hJ2 := H.keep n _ s w ((w.alloc (.cells #[.pointer ps, .pointer pe, .int .i64 (u.d : Int)] 111)).setCell ⟨N, 0, none⟩ (.int .i64 z2)) hJ (by rw [hs]; exact hw.size) (fun k hk hx => (Below.heap_setCell _ _ _ _ (fun e => hx (Or.inl e))).trans (hw.block k hk))
  have hC := H.call n _ s u ps pe _ hn4 (fun k hk => by
    rcases hk with rfl | rfl
    · exact ⟨hN, by rw [hs]; exact (hN1.later hw).lt⟩
    · exact ⟨hM, by rw [hs]; exact (hM1.later hw).lt⟩) hJ2 hB2 hat hok
  have HB : Hid (Below w0.heap.size w ((w.alloc (.cells #[.pointer ps, .pointer pe, .int .i64 (u.d : Int)] 111)).setCell ⟨N, 0, none⟩ (.int .i64 z2))) := (hw.mono hb0.size).setCell (p := ⟨N, 0, none⟩) hN (.int .i64 z2)
  have HV : Hid (cnt g (z, s) u = ((z2, (g s u).1), (g s u).2 && decide (z2 ≤ 400))) := by show _ = _; unfold cnt; simp only [hz]
  rw [HV.out]
  have HN2 := Lib.hid hN2
  have HM2 := Lib.hid hM2
  have HC := Lib.hid hC
  have hNw := hN1.later hw
  obtain ⟨n1, n2, n3⟩ := hNw
  have m2 := hM2.cell
  have n0 := hN1.cell
  have hnw : w.heap.size ≠ N := fun h => Nat.lt_irrefl _ (h ▸ hN1.lt)
  have hblk : ((w.alloc (.cells #[.pointer ps, .pointer pe, .int .i64 (u.d : Int)] 111)).setCell ⟨N, 0, none⟩ (.int .i64 z2)).heap[w.heap.size]? = (w.alloc (.cells #[.pointer ps, .pointer pe, .int .i64 (u.d : Int)] 111)).heap[w.heap.size]? := Below.heap_setCell _ _ _ _ (by exact hnw)
  have d0 := (World.cell?_of_block (a := ⟨w.heap.size, 0, none⟩) hblk).trans (show _ = some (.pointer ps) by go_simp)
  have d1 := (World.cell?_of_block (a := ⟨w.heap.size, 1, none⟩) hblk).trans (show _ = some (.pointer pe) by go_simp)
  have d2 := (World.cell?_of_block (a := ⟨w.heap.size, 2, none⟩) hblk).trans (show _ = some (.int .i64 (u.d : Int)) by go_simp)
  unfold nodeV at *
  generalize g s u = r at HC ⊢
  obtain ⟨s2, y⟩ := r
  simp only at HC ⊢
  have HZ2 := Lib.hid hz2
  clear hw hs hN2 hM2 hB2 hJ2 hC hN1 hM1 hJ hz2 hzn hn HV hat hok hb0 hblk hnw
  cases y
  · go_enter Tryd.func104, Tryd.ntmps104
    go_wp2_with fail
    refine HC.out.mono ?_; rintro e' w2 ⟨rfl, hJ2, hb2, hx⟩
    have HI : Hid (Cell1 N (.int .i64 z2) w2 ∧ Cell1 M (.func (Fn.func 74) #[] #[.pointer (some q1), .pointer (some q2)]) w2 ∧ ∃ n' : Nat, z2 = (n' : Int) ∧ (false = true → n' ≤ 400) ∧ J n' (fun k => k = N ∨ k = M) s2 w2) := ⟨HN2.out.moved2 (hx N (Or.inl rfl)), HM2.out.moved2 (hx M (Or.inr rfl)), n + 1, HZ2.out, (fun hb => by cases hb), hJ2⟩
    have HB2 := Lib.hid (HB.out.trans hb2)
    clear hJ2 hb2 hx
    go_wp2_with fail
    go_ret
    exact ⟨rfl, HI.out, HB2.out⟩
  · obtain ⟨t, ht⟩ : ∃ t, decide (z2 ≤ 400) = t := ⟨_, rfl⟩
    rw [ht]
    have HT := Lib.hid ht
    go_enter Tryd.func104, Tryd.ntmps104
    go_wp2_with fail
    refine HC.out.mono ?_; rintro e' w2 ⟨rfl, hJ2, hb2, hx⟩
    have HI : Hid (Cell1 N (.int .i64 z2) w2 ∧ Cell1 M (.func (Fn.func 74) #[] #[.pointer (some q1), .pointer (some q2)]) w2 ∧ ∃ n' : Nat, z2 = (n' : Int) ∧ ((true && t) = true → n' ≤ 400) ∧ J n' (fun k => k = N ∨ k = M) s2 w2) := ⟨HN2.out.moved2 (hx N (Or.inl rfl)), HM2.out.moved2 (hx M (Or.inr rfl)), n + 1, HZ2.out, (fun hb => by have := HT.out; rw [Bool.true_and] at hb; rw [hb] at this; have h4 := of_decide_eq_true this; have h5 := HZ2.out; omega), hJ2⟩
    have HB2 := Lib.hid (HB.out.trans hb2)
    have n4 := HI.out.1.cell
    clear hJ2 hb2 hx
    go_wp2_with fail
    go_ret
    exact ⟨rfl, HI.out, HB2.out⟩
set_option maxHeartbeats 2000000 in
set_option maxRecDepth 100000 in
theorem owalkO_any {σ : Type} {q1 q2 : Addr} {g : σ → U → σ × Bool} {w0 : World} {J : Nat → (Nat → Prop) → σ → World → Prop} (H : VisO q1 q2 g w0 J) (p : Pr) (a1 : Option Addr) (c1 : Nat) (a2 : Option Addr) (c2 : Nat) (hok : okB p.body) (hl : p.body.length ≤ 1000000000000000) (hsz : 1 + cB p.body ≤ 1000000) (hK : Bodies w0 a2 p.body)
    (s : σ) (w : World) (hJ : J 0 (fun _ => False) s w) (hb0 : Below w0.heap.size w0 w) :
    Calls Tryd.prog 65 #[prV p a1 c1 a2 c2, .func (Fn.func 74) #[] #[.pointer (some q1), .pointer (some q2)]] w fun e' w' => e' = .returned (.tuple #[]) ∧ (∃ n', J n' (fun _ => False) (run g s (walkU p)).1 w') ∧ Below w0.heap.size w w' := by
  have hz := hb0.size
  have hw := below_2 (below_2 (below_box w (prO p a1 c1 a2 c2)) (below_box _ (.cells #[.func (Fn.func 74) #[] #[.pointer (some q1), .pointer (some q2)]] 113))) (below_box _ (.cells #[.int .i64 0] 3))
  have hst := stepO H (N := w.heap.size + 2) (M := w.heap.size + 1) (by omega) (by omega) (by omega)
  have hJ2 := H.keep 0 _ s w (((w.alloc (prO p a1 c1 a2 c2)).alloc (.cells #[.func (Fn.func 74) #[] #[.pointer (some q1), .pointer (some q2)]] 113)).alloc (.cells #[.int .i64 0] 3)) (H.wide 0 (fun k => k = w.heap.size + 2 ∨ k = w.heap.size + 1) s w hJ (fun k hk => by omega)) hw.size (fun k hk _ => hw.block k hk)
  have hN : Cell1 (w.heap.size + 2) (.int .i64 0) (((w.alloc (prO p a1 c1 a2 c2)).alloc (.cells #[.func (Fn.func 74) #[] #[.pointer (some q1), .pointer (some q2)]] 113)).alloc (.cells #[.int .i64 0] 3)) := cell1_at (by simp)
  have hM : Cell1 (w.heap.size + 1) (.func (Fn.func 74) #[] #[.pointer (some q1), .pointer (some q2)]) (((w.alloc (prO p a1 c1 a2 c2)).alloc (.cells #[.func (Fn.func 74) #[] #[.pointer (some q1), .pointer (some q2)]] 113)).alloc (.cells #[.int .i64 0] 3)) := (cell1_at (by simp)).later (below_box _ _)
  have hB : Below w0.heap.size w _ := hw.mono hz
  have hC := owalkStmts_any hst p.body a2 c2 1 (0, s) _ hok hl hsz hK ⟨hN, hM, 0, rfl, fun _ => by omega, hJ2⟩ (hb0.trans hB)
  have HRW := Lib.hid (run_walk g s p)
  rw [← HRW.out]
  generalize run (cnt g) (0, s) (nB p.body 1) = r at hC ⊢
  have HC := Lib.hid hC
  have HB := Lib.hid hB
  have HNW : Hid (∀ n w2, J n (fun k => k = w.heap.size + 2 ∨ k = w.heap.size + 1) r.1.2 w2 → J n (fun _ => False) r.1.2 w2) := fun n w2 h => H.narrow _ _ _ _ h
  simp only [show ((1 : Nat) : Int) = 1 from rfl] at HC
  unfold prO at HC HB
  unfold prV
  clear hz hw hst hJ2 hN hM hB hC HRW hok hl hsz hK hJ hb0 H
  go_enter Tryd.func65, Tryd.ntmps65
  go_wp2_with fail
  refine HC.out.mono ?_; rintro e' w2 ⟨rfl, ⟨_, _, n3, _, _, hJ3⟩, hb2⟩
  have HJ3 := Lib.hid (HNW.out n3 w2 hJ3)
  have HB2 := Lib.hid (HB.out.trans hb2)
  clear hJ3 hb2
  go_wp2_with fail
  go_end0
  exact ⟨rfl, ⟨n3, HJ3.out⟩, HB2.out⟩
end Go.Proofs.YtkjefigebdbkaaaDoor.A
