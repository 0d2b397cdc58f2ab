/-
  What the program's functions of layer 8 return: Rename's function value, copiedStmts: contracts.
  What the program's function Names of layer 8 returns: its contract.
  What the reference of layer 8 returns: uses, swap: contracts.
  What the reference of layer 8 returns: Occurs: a contract.
  What the program's functions of layer 8 return: paramsError and what it calls: contracts.
-/
import Derived.Test.YtkjefigebdbkaaaGreatDoorN07
import Derived.Deep.RegionWith
import Derived.Deep.Cut
import Derived.Deep.CutRange
import Derived.Test.YtkjefigebdbkaaaGreatDoorN06
import Derived.Deep.RegionLaw
import Derived.Test.YtkjefigebdbkaaaGreatDoorN05
namespace Go.Proofs.YtkjefigebdbkaaaGreatDoor.A
open Go.RowKit
open L (Str isName prt size_len below_2 below_box ret_bool ret_int eql_eq bytes_eq)

theorem swap_same (f x : ByteArray) : swap f f x = x := by
  unfold swap
  split
  · rename_i h; exact h.symm
  · rfl
theorem namC (w0 : World) (f : ByteArray) : NamC w0 f f := ⟨fun x w hx _ => by rw [swap_same]; exact L.oclone_any x hx w⟩
/-! ### statements in rows -/

end Go.Proofs.YtkjefigebdbkaaaGreatDoor.A
namespace Go.Proofs.YtkjefigebdbkaaaGreatDoor.A
open Go.RowKit
open L (Str isName prt size_len below_2 below_box ret_bool ret_int eql_eq bytes_eq)

theorem info_n : (Tryz.prog.info? 9).map (fun i => (i.zero, i.size, i.bytes)) = some (some (.string ⟨#[]⟩), 1, 16) := by kernel_rfl
def kN : RowK ByteArray where
  f := fun x => [.string x]
  size := 1
  bytes := 16
  t := 79
  e := 9
  z := .string ⟨#[]⟩
  inn := fun _ _ _ => True
  und := Tryz.underlying79
  info := info_n
  len := fun _ => rfl
  one := fun x u hu => by simp at hu; rw [hu]; rfl
  pos := by decide
  zs := rfl
  small := by decide
  next := fun _ _ => trivial
def StrsAt (w : World) (a : Option Addr) (l : List ByteArray) : Prop := l = [] ∨ ∃ b i, a = some ⟨b, i, none⟩ ∧ ∀ j (h : j < l.length), w.cell? ⟨b, i + j, none⟩ = some (.string l[j])
theorem StrsAt.below {w w' : World} {a : Option Addr} {l : List ByteArray} (h : StrsAt w a l) (hb : Below w.heap.size w w') : StrsAt w' a l := by
  rcases h with h | ⟨b, i, ha, h⟩
  · exact Or.inl h
  · exact Or.inr ⟨b, i, ha, fun j hj => (hb.cell (block_lt_of_cell (h j hj))).trans (h j hj)⟩
theorem StrsAt.open {w : World} {a : Option Addr} {l : List ByteArray} (h : StrsAt w a l) {k : Nat} (hk : k < l.length) : ∃ b i, a = some ⟨b, i, none⟩ ∧ ∀ j (h : j < l.length), w.cell? ⟨b, i + j, none⟩ = some (.string l[j]) :=
  h.resolve_left (fun e => by rw [e] at hk; exact absurd hk (Nat.not_lt_zero _))
theorem Own1.strs {w : World} {b0 : Nat} {Z : Nat → Prop} {p : Option Addr} {q : Nat} {l : List ByteArray} (h : Own1 kN w b0 Z (.slice p l.length q) l) : StrsAt w p l := by
  by_cases h0 : l = []
  · exact Or.inl h0
  · obtain ⟨g, rfl, _, _⟩ := h.cell (List.length_pos_iff.2 h0)
    refine Or.inr ⟨g, 0, rfl, fun j hj => ?_⟩
    obtain ⟨g2, hg, _, hc⟩ := h.cell hj
    cases hg
    have := hc 0 (by decide)
    rw [Nat.zero_add]
    rw [show j * kN.size + 0 = j from Nat.mul_one j] at this
    exact this

/-! ### a list in a captured variable -/

def ZL (w0 : World) (X : Nat → Prop) (N : Nat) (k : Nat) : Prop := k < w0.heap.size ∨ X k ∨ k = N
def JL {α : Type} (K : RowK α) (w0 : World) (N : Nat) (X : Nat → Prop) (l : List α) (w : World) : Prop := ∃ p q, Cell1 N (.slice p l.length q) w ∧ ¬ X N ∧ Own1 K w w0.heap.size (ZL w0 X N) (.slice p l.length q) l
namespace JL
variable {α : Type} {K : RowK α} {w0 w w' : World} {N : Nat} {X : Nat → Prop} {l : List α}
theorem keep (h : JL K w0 N X l w) (_ : w.heap.size ≤ w'.heap.size) (hk : ∀ k, k < w.heap.size → ¬ X k → w'.heap[k]? = w.heap[k]?) : JL K w0 N X l w' := by
  obtain ⟨p, q, hc, hx, ho⟩ := h
  exact ⟨p, q, hc.moved (hk N hc.lt hx), hx, ho.next ⟨fun k hk1 hz => hk k hk1 (fun h2 => hz (Or.inr (Or.inl h2))), fun k hk => Or.inl hk⟩⟩
theorem wide (h : JL K w0 N (fun _ => False) l w) (hx : ∀ k, X k → w.heap.size ≤ k) : JL K w0 N X l w := by
  obtain ⟨p, q, hc, _, ho⟩ := h
  refine ⟨p, q, hc, fun h2 => by have := hx N h2; have := hc.lt; omega, ho.next ⟨fun _ _ _ => rfl, fun k hk => ?_⟩⟩
  rcases hk with hk | hk | hk
  · exact Or.inl (Or.inl hk)
  · exact Or.inr (hx k hk)
  · exact Or.inl (Or.inr (Or.inr hk))
theorem narrow (h : JL K w0 N X l w) : JL K w0 N (fun _ => False) l w := by
  obtain ⟨p, q, hc, _, ho⟩ := h
  refine ⟨p, q, hc, fun h2 => h2, ho.next ⟨fun _ _ _ => rfl, fun k hk => ?_⟩⟩
  rcases hk with hk | hk | hk
  · exact Or.inl (Or.inl hk)
  · exact hk.elim
  · exact Or.inl (Or.inr (Or.inr hk))
end JL
theorem Own1.store {α : Type} {K : RowK α} {w0 w w3 w6 : World} {N : Nat} {X : Nat → Prop} {p : Option Addr} {q : Nat} {l : List α} {y : α} {g' cap : Nat} {o : Obj} (hX : ∀ k, X k → w0.heap.size ≤ k ∧ k < w.heap.size) (hN0 : w0.heap.size ≤ N) (hNX : ¬ X N) (hz : w0.heap.size ≤ w.heap.size)
    (hC : Cell1 N (.slice p l.length q) w) (hO : Own1 K w w0.heap.size (ZL w0 X N) (.slice p l.length q) l) (hb : Below w.heap.size w w3) (hy : K.inn (fun k => ZL w0 X N k ∨ (Value.slice p l.length q).ownBlock = some k) w3 y)
    (h1 : w6.ownsRow w0.heap.size K.e K.size (.slice (some ⟨g', 0, none⟩) (l.length + 1) cap) (l ++ [y]).length (K.cs (l ++ [y]))) (h2 : (w3.alloc o).grownBy w6 (Value.slice p l.length q).ownBlock) (h3 : (Value.slice p l.length q).ownBlock = some g' ∨ g' = w3.heap.size + 1) :
    Cell1 N (.slice p l.length q) w6 ∧ JL K w0 N X (l ++ [y]) (w6.setCell ⟨N, 0, none⟩ (.slice (some ⟨g', 0, none⟩) (l.length + 1) cap)) ∧ Below w0.heap.size w (w6.setCell ⟨N, 0, none⟩ (.slice (some ⟨g', 0, none⟩) (l.length + 1) cap)) ∧ ∀ k, X k → (w6.setCell ⟨N, 0, none⟩ (.slice (some ⟨g', 0, none⟩) (l.length + 1) cap)).heap[k]? = w.heap[k]? := by
  have hO3 := hO.below hb
  have hC3 := hC.later hb
  have hzz : ∀ k, ZL w0 X N k → k < w3.heap.size := fun k hk => by
    have := hb.size
    rcases hk with hk | hk | hk
    · omega
    · have := (hX k hk).2; omega
    · have := hC.lt; omega
  have hO6 := hO3.push hy hzz h1 h2 h3
  have hblk : ∀ k, ZL w0 X N k → w6.heap[k]? = w3.heap[k]? := fun k hk =>
    (h2.block k (by have := hzz k hk; simp; omega) (fun e => hO3.off k e.symm hk)).trans (Below.heap_alloc w3 o k (hzz k hk))
  have hC6 := hC3.moved (hblk N (Or.inr (Or.inr rfl)))
  have hF := hO3.frame (hb.mono hz) (Nat.le_trans hz hb.size) h2
  have hl : (l ++ [y]).length = l.length + 1 := by simp
  refine ⟨hC6, ⟨some ⟨g', 0, none⟩, cap, ?_, hNX, ?_⟩, hF.setCell hN0 _, fun k hk => ?_⟩
  · rw [hl]; exact hC6.set
  · rw [hl]
    exact hO6.next ⟨fun k _ hk2 => Below.heap_setCell _ _ _ _ (fun e => hk2 (Or.inr (Or.inr e))), fun k hk => Or.inl hk⟩
  · have hne : k ≠ N := fun e => hNX (e ▸ hk)
    exact (Below.heap_setCell _ _ _ _ hne).trans ((hblk k (Or.inr (Or.inl hk))).trans (hb.block k (hX k hk).2))
def JM (w0 : World) (N n : Nat) (X : Nat → Prop) (l : List ByteArray) (w : World) : Prop := l.length ≤ n + 1000 ∧ JL kN w0 N X l w
set_option maxHeartbeats 4000000 in
set_option maxRecDepth 100000 in
theorem visM {w0 : World} {N : Nat} (hN : w0.heap.size ≤ N) : VisM ⟨N, 0, none⟩ gM w0 (JM w0 N) := by
  refine ⟨fun n X l u ps pe w hn hX hJ hb0 hat hok => ?_, fun n X s w w' h h1 h2 => ⟨h.1, h.2.keep h1 h2⟩, fun n X s w h h1 => ⟨h.1, h.2.wide h1⟩, fun n X s w h => ⟨h.1, h.2.narrow⟩⟩
  obtain ⟨hll, p, q, hC, hNX, hO⟩ := hJ
  have hw := below_box w (.cells #[.pointer ps, .pointer pe, .int .i64 (u.d : Int)] 66)
  have hC1 := hC.later hw
  obtain ⟨n1, n2, n3⟩ := hC1
  have hSame : Hid (gM l u = (l, true) → (JM w0 N (n + 1) X l (w.alloc (.cells #[.pointer ps, .pointer pe, .int .i64 (u.d : Int)] 66)) ∧ Below w0.heap.size w (w.alloc (.cells #[.pointer ps, .pointer pe, .int .i64 (u.d : Int)] 66)) ∧ ∀ k, X k → (w.alloc (.cells #[.pointer ps, .pointer pe, .int .i64 (u.d : Int)] 66)).heap[k]? = w.heap[k]?)) :=
    fun _ => ⟨⟨by omega, JL.keep ⟨p, q, hC, hNX, hO⟩ hw.size (fun k hk _ => hw.block k hk)⟩, hw.mono hb0.size, fun k hk => hw.block k (hX k hk).2⟩
  cases u with
  | ex e d =>
    obtain ⟨b, i, rfl, rfl, _⟩ := hat
    have HG : Hid (gM l (.ex e d) = (l, true)) := by show (l ++ [], true) = _; rw [List.append_nil]
    have HP := Lib.hid (hSame.out HG.out)
    rw [HG.out]
    unfold nodeV
    simp only [U.d] at *
    clear hw hC hO hb0 hX hok hSame HG
    go_enter Tryz.func107, Tryz.ntmps107
    go_wp2_with fail
    go_ret
    exact ⟨rfl, HP.out⟩
  | st s d =>
    obtain ⟨b, i, rfl, rfl, hat⟩ := hat
    simp only [U.d] at *
    obtain ⟨a1, c1, a2, c2, a3, c3, a4, c4, hcc, _⟩ := (hat.below hb0).open
    have hcc1 := hcc.below hw
    have k0 := hcc1.k0
    have k1 := hcc1.k1
    have hsz := hok.2
    have hsp := cS_parts s
    have hnm : s.name.size ≤ 281474976710656 := by omega
    by_cases ho : s.op = 1 ∨ s.op = 6
    · have HG : Hid (gM l (.st s d) = (l ++ [s.name], true)) := by show (l ++ (if s.op = 1 ∨ s.op = 6 then [s.name] else []), true) = _; rw [if_pos ho]
      rw [HG.out]
      have HCl := Lib.hid (fun w => L.oclone_any s.name hnm w)
      have HFin : Hid (∀ w3 w6 g' cap o, Below w.heap.size w w3 → w6.ownsRow w0.heap.size kN.e kN.size (.slice (some ⟨g', 0, none⟩) (l.length + 1) cap) (l ++ [s.name]).length (kN.cs (l ++ [s.name])) → (w3.alloc o).grownBy w6 (Value.slice p l.length q).ownBlock → ((Value.slice p l.length q).ownBlock = some g' ∨ g' = w3.heap.size + 1) → _) :=
        fun w3 w6 g' cap o hb h1 h2 h3 => Own1.store hX hN hNX hb0.size hC hO hb trivial h1 h2 h3
      have HO := Lib.hid hO
      have HW := Lib.hid hw
      have hzw := hb0.size
      unfold nodeV
      clear hw hC hb0 hX hok hSame HG hcc hcc1 hat hsz hsp hO
      rcases ho with ho | ho
      all_goals
        rw [ho] at k0
        clear ho
        go_enter Tryz.func107, Tryz.ntmps107
        go_wp2_with fail
        go_region_law
          (first
            | (refine kN.step rfl (.tmp 23) (.tmp 30) rfl w0.heap.size (.slice p l.length q) l rfl HO3.out.row s.name _ rfl w3.heap.size rfl rfl (by omega) (by omega) ?_; intro g6 cap6 w6 hown6 hgrow6 hlie6; have HF6 := Lib.hid (HFin.out w3 w6 g6 cap6 _ HB3.out hown6 hgrow6 hlie6); obtain ⟨r1, r2, r3⟩ := HF6.out.1; clear hown6 hgrow6 hlie6)
            | (go_simp; go_at_call 44; refine (HCl.out _).mono ?_; rintro e' w3 ⟨rfl, hb3⟩; have HB3 := Lib.hid (below_2 HW.out (below_2 (L.below_drew _) hb3)); have HO3 := Lib.hid (HO.out.below HB3.out); have hz3 := HB3.out.size; have t2 := (hb3.cell (by exact n1)).trans n2; have t3 := ((below_box w3 (.cells #[.string s.name] 9)).cell (block_lt_of_cell t2)).trans t2; clear hb3))
        all_goals
          go_wp2_with fail
          go_ret
          exact ⟨rfl, ⟨by rw [List.length_append, List.length_singleton]; omega, HF6.out.2.1⟩, HF6.out.2.2⟩
    · have HG : Hid (gM l (.st s d) = (l, true)) := by show (l ++ (if s.op = 1 ∨ s.op = 6 then [s.name] else []), true) = _; rw [if_neg ho, List.append_nil]
      have HP := Lib.hid (hSame.out HG.out)
      rw [HG.out]
      have o1 : (s.op == 1) = false := beq_eq_false_iff_ne.2 (by omega)
      have o6 : (s.op == 6) = false := beq_eq_false_iff_ne.2 (by omega)
      unfold nodeV
      clear hw hC hO hb0 hX hok hSame HG hcc hcc1 hat hsz hsp ho
      go_enter Tryz.func107, Tryz.ntmps107
      go_wp2_with fail
      go_ret
      exact ⟨rfl, HP.out⟩
theorem names_take {l : List Pm} {k : Nat} (h : k < l.length) : (l.take (k + 1)).map Pm.name = (l.take k).map Pm.name ++ [l[k].name] := by
  rw [List.take_succ_eq_append_getElem h, List.map_append]; rfl
def GivesN (w : World) (x : List ByteArray) (e' : Ending) (w' : World) : Prop := ∃ p q, e' = .returned (.slice p x.length q) ∧ x.length ≤ q ∧ StrsAt w' p x ∧ Below w.heap.size w w'
set_option maxHeartbeats 8000000 in
set_option maxRecDepth 100000 in
theorem onames_any (p : Pr) (a1 a2 : Option Addr) (c1 c2 : Nat) (hok : OkP p) (hsz : cB p.body ≤ 900000) (hpl : p.params.length ≤ 1000) (hps : ∀ j (h : j < p.params.length), p.params[j].name.size ≤ 281474976710656) (w : World) (hK : PrIn w p a1 a2) :
    Calls Tryz.prog 85 #[prV p a1 c1 a2 c2] w fun e' w' => GivesN w (names p) e' w' := by
  have hw := below_box w (prO p a1 c1 a2 c2)
  have hbx := Bx.new w #[.string p.name, .slice a1 p.params.length c1, .slice a2 p.body.length c2] 25
  have HWK := Lib.hid (fun (N : Nat) (hN : (w.alloc (prO p a1 c1 a2 c2)).heap.size ≤ N) (l : List ByteArray) (w' : World) (hJ : JM (w.alloc (prO p a1 c1 a2 c2)) N 0 (fun _ => False) l w') (hb : Below (w.alloc (prO p a1 c1 a2 c2)).heap.size (w.alloc (prO p a1 c1 a2 c2)) w') => owalkM_any (visM (w0 := w.alloc (prO p a1 c1 a2 c2)) hN) p a1 c1 a2 c2 hok.body hok.bodyLen (by omega) (hK.below hw).body l w' hJ hb)
  have HK := Lib.hid (hK.below hw).params
  have HW := Lib.hid hw
  have HBX := Lib.hid hbx
  have HNR := Lib.hid (names_run p)
  have HPS := Lib.hid hps
  have hJ0 : JL kN (w.alloc (prO p a1 c1 a2 c2)) (w.heap.size + 1) (fun _ => False) ([] : List ByteArray) ((w.alloc (prO p a1 c1 a2 c2)).alloc (.cells #[.slice none 0 0] 79)) := ⟨none, 0, cell1_at (by simp), fun h => h, Own1.nil⟩
  have HJ0 := Lib.hid hJ0
  have HZ1 : Hid ((w.alloc (prO p a1 c1 a2 c2)).heap.size = w.heap.size + 1) := by show _ = _; simp
  obtain ⟨m, hm⟩ : ∃ m, p.params.length = m := ⟨_, rfl⟩
  have HL := Lib.hid hm
  unfold prO at *
  unfold prV at *
  rw [hm] at HWK HK HW HBX HJ0 HZ1 hpl ⊢
  clear hw hbx hok hsz hps hK hJ0 hm
  go_enter Tryz.func85, Tryz.ntmps85
  go_wp2_with fail
  go_loopw [9] (fun s9 wr => ∃ (k : Nat) (l : List ByteArray), k ≤ m ∧ s9 = .int .i64 k ∧ Hid (l = (p.params.take k).map Pm.name) ∧ Hid (JL kN (w.alloc (.cells #[.string p.name, .slice a1 m c1, .slice a2 p.body.length c2] 25)) (w.heap.size + 1) (fun _ => False) l wr) ∧ Hid (Below (w.alloc (.cells #[.string p.name, .slice a1 m c1, .slice a2 p.body.length c2] 25)).heap.size (w.alloc (.cells #[.string p.name, .slice a1 m c1, .slice a2 p.body.length c2] 25)) wr)) (fun s9 _ => m - (intOf s9).toNat)
  case atStart => exact ⟨0, [], Nat.zero_le _, rfl, rfl, HJ0.out, below_box _ _⟩
  case round =>
    obtain ⟨k, l, hk, rfl, HX, HJ, HB⟩ := hrel
    have hllk : l.length ≤ k := by have := congrArg List.length HX.out; rw [List.length_map, List.length_take] at this; omega
    by_cases hlt : k < m
    · have hlx : k < p.params.length := by rw [HL.out]; exact hlt
      obtain ⟨b3, i3, rfl, hcc⟩ := (HK.out.below HB.out).open hlx
      obtain ⟨f0, f1⟩ := hcc k hlx
      have hqs := HPS.out k hlx
      have hxn := names_take hlx
      generalize p.params[k] = q at f0 f1 hqs hxn
      obtain ⟨pl, ql, hC, hNX, hO⟩ := HJ.out
      have hb7 := below_box wr (.cells #[.string q.name, .int .i64 q.ty] 52)
      have hC7 := hC.later hb7
      obtain ⟨n1, n2, n3⟩ := hC7
      have hz := HB.out.size
      have hz7 := hb7.size
      have HCl := Lib.hid (fun w => L.oclone_any q.name hqs w)
      have hO7 := hO.below hb7
      have hB7 : Below (w.alloc (.cells #[.string p.name, .slice (some ⟨b3, i3, none⟩) m c1, .slice a2 p.body.length c2] 25)).heap.size (w.alloc (.cells #[.string p.name, .slice (some ⟨b3, i3, none⟩) m c1, .slice a2 p.body.length c2] 25)) _ := HB.out.trans (hb7.mono hz)
      have HFin := Lib.hid (fun w3 w6 g' cap o (hb : Below (wr.alloc (.cells #[.string q.name, .int .i64 q.ty] 52)).heap.size (wr.alloc (.cells #[.string q.name, .int .i64 q.ty] 52)) w3) h1 h2 h3 => Own1.store (K := kN) (y := q.name) (g' := g') (cap := cap) (w6 := w6) (o := o) (fun _ h => h.elim) (by have := HZ1.out; omega) hNX (Nat.le_trans hz hz7) (hC.later hb7) hO7 hb trivial h1 h2 h3)
      have HO7 := Lib.hid hO7
      have HB7 := Lib.hid hB7
      have HXN : Hid (l ++ [q.name] = (p.params.take (k + 1)).map Pm.name) := by show _ = _; rw [hxn, HX.out]
      have g0 : (wr.alloc (.cells #[.string q.name, .int .i64 q.ty] 52)).cell? ⟨wr.heap.size, 0, none⟩ = some (.string q.name) := by go_simp
      clear hcc hC hNX hO hb7 hO7 hB7 hqs hxn
      go_wp2_with fail
      go_region_law
        (first
          | (refine kN.step rfl (.tmp 13) (.tmp 17) rfl _ (.slice pl l.length ql) l rfl HO3.out.row q.name _ rfl w3.heap.size rfl rfl (by omega) (by omega) ?_; intro g6 cap6 w6 hown6 hgrow6 hlie6; have HF6 := Lib.hid (HFin.out w3 w6 g6 cap6 _ HB3.out hown6 hgrow6 hlie6); obtain ⟨r1, r2, r3⟩ := HF6.out.1; clear hown6 hgrow6 hlie6)
          | (go_simp; go_at_call 44; refine (HCl.out _).mono ?_; rintro e' w3 ⟨rfl, hb3⟩; have HB3 := Lib.hid (below_2 (L.below_drew _) hb3); have HO3 := Lib.hid (HO7.out.below HB3.out); have hz3 := HB3.out.size; have t2 := (hb3.cell (by exact n1)).trans n2; have t3 := ((below_box w3 (.cells #[.string q.name] 9)).cell (block_lt_of_cell t2)).trans t2; clear hb3))
      all_goals
        have HL6 : Hid ((l ++ [q.name]).length = l.length + 1) := by show _ = _; simp
        go_wp2_with fail
        go_roundw
        case rel => exact ⟨k + 1, l ++ [q.name], by omega, by go_num, HXN.out, HF6.out.2.1, HB7.out.trans HF6.out.2.2.1⟩
        case measure => simp [intOf]; omega
    · have hX := HX.out
      rw [List.take_of_length_le (by rw [HL.out]; omega)] at hX
      have hbx3 := HBX.out.below HB.out
      have x0 := hbx3.cell 0
      have x1 := hbx3.cell 1
      have x2 := hbx3.cell 2
      simp at x0 x1 x2
      have hC := HWK.out (w.heap.size + 1) (by rw [HZ1.out]; omega) l wr ⟨by omega, HJ.out⟩ HB.out
      rw [hX, HNR.out] at hC
      have HC := Lib.hid hC
      have HBB := Lib.hid (below_2 HW.out HB.out)
      have hzw := HW.out.size
      have HZW := Lib.hid hzw
      clear hC hX hbx3 hzw
      go_wp2_with fail
      refine HC.out.mono ?_; rintro e' w5 ⟨rfl, ⟨n5, _, pl, ql, hC5, _, hO5⟩, hb5⟩
      have s1 := hC5.cell
      obtain ⟨_, _, hsh, hle⟩ := hO5.shape
      have hq : (names p).length ≤ ql := by injection hsh with h1 h2 h3; omega
      have HV : Hid (GivesN w (names p) (.returned (.slice pl (names p).length ql)) w5) := ⟨pl, ql, rfl, hq, hO5.strs, HBB.out.trans (hb5.mono HZW.out)⟩
      clear hC5 hO5 hb5 hsh hle hq
      go_wp2_with fail
      go_ret
      exact HV.out
end Go.Proofs.YtkjefigebdbkaaaGreatDoor.A
namespace Go.Proofs.YtkjefigebdbkaaaGreatDoor.A
open Go.RowKit
open L (Str isName prt size_len below_2 below_box ret_bool ret_int eql_eq bytes_eq)

theorem results_tmp6 {fn : Func} {t1 t2 t3 t4 t5 t6 : Tmp} (h : fn.results = #[.tmp t1, .tmp t2, .tmp t3, .tmp t4, .tmp t5, .tmp t6]) (tmps : Array Value) (P : Program) (w : World) :
    (results fn tmps).run P w = .ok (.tuple #[tmps.getD t1 undef, tmps.getD t2 undef, tmps.getD t3 undef, tmps.getD t4 undef, tmps.getD t5 undef, tmps.getD t6 undef]) w := by
  simp [results, h]
def usesV (o : Int) : Value := .tuple #[.bool (uN o), .bool (uM o), .bool (uA o), .bool (uB o), .bool (uD o), .bool (uE o)]
set_option maxHeartbeats 2000000 in
set_option maxRecDepth 100000 in
theorem ruses_any (op : Int) (w : World) : Calls Tryz.prog 80 #[.int .i64 op] w fun e w' => e = .returned (usesV op) ∧ w' = w := by
  by_cases h1 : op = 1
  · subst h1
    go_enter Tryz.func80, Tryz.ntmps80
    go_wp2_with fail
    (try simp only [Exit.inBlock, Exit.then])
    refine bodyPost_ret (results_tmp6 rfl _ _ _) rfl ?_
    exact ⟨rfl, rfl⟩
  by_cases h2 : op = 2
  · subst h2
    go_enter Tryz.func80, Tryz.ntmps80
    go_wp2_with fail
    (try simp only [Exit.inBlock, Exit.then])
    refine bodyPost_ret (results_tmp6 rfl _ _ _) rfl ?_
    exact ⟨rfl, rfl⟩
  by_cases h3 : op = 3
  · subst h3
    go_enter Tryz.func80, Tryz.ntmps80
    go_wp2_with fail
    (try simp only [Exit.inBlock, Exit.then])
    refine bodyPost_ret (results_tmp6 rfl _ _ _) rfl ?_
    exact ⟨rfl, rfl⟩
  by_cases h4 : op = 4
  · subst h4
    go_enter Tryz.func80, Tryz.ntmps80
    go_wp2_with fail
    (try simp only [Exit.inBlock, Exit.then])
    refine bodyPost_ret (results_tmp6 rfl _ _ _) rfl ?_
    exact ⟨rfl, rfl⟩
  by_cases h5 : op = 5
  · subst h5
    go_enter Tryz.func80, Tryz.ntmps80
    go_wp2_with fail
    (try simp only [Exit.inBlock, Exit.then])
    refine bodyPost_ret (results_tmp6 rfl _ _ _) rfl ?_
    exact ⟨rfl, rfl⟩
  by_cases h6 : op = 6
  · subst h6
    go_enter Tryz.func80, Tryz.ntmps80
    go_wp2_with fail
    (try simp only [Exit.inBlock, Exit.then])
    refine bodyPost_ret (results_tmp6 rfl _ _ _) rfl ?_
    exact ⟨rfl, rfl⟩
  by_cases h7 : op = 7
  · subst h7
    go_enter Tryz.func80, Tryz.ntmps80
    go_wp2_with fail
    (try simp only [Exit.inBlock, Exit.then])
    refine bodyPost_ret (results_tmp6 rfl _ _ _) rfl ?_
    exact ⟨rfl, rfl⟩
  have b1 : (op == 1) = false := beq_eq_false_iff_ne.2 h1
  have b2 : (op == 2) = false := beq_eq_false_iff_ne.2 h2
  have b3 : (op == 3) = false := beq_eq_false_iff_ne.2 h3
  have b4 : (op == 4) = false := beq_eq_false_iff_ne.2 h4
  have b5 : (op == 5) = false := beq_eq_false_iff_ne.2 h5
  have b6 : (op == 6) = false := beq_eq_false_iff_ne.2 h6
  have b7 : (op == 7) = false := beq_eq_false_iff_ne.2 h7
  have HV : Hid (usesV op = .tuple #[.bool false, .bool true, .bool false, .bool false, .bool false, .bool false]) := by
    show _ = _
    unfold usesV uN uM uA uB uD uE
    simp [h1, h2, h3, h4, h5, h6, h7]
  rw [HV.out]
  clear h1 h2 h3 h4 h5 h6 h7
  go_enter Tryz.func80, Tryz.ntmps80
  go_wp2_with fail
  (try simp only [Exit.inBlock, Exit.then])
  refine bodyPost_ret (results_tmp6 rfl _ _ _) rfl ?_
  exact ⟨rfl, rfl⟩
end Go.Proofs.YtkjefigebdbkaaaGreatDoor.A
namespace Go.Proofs.YtkjefigebdbkaaaGreatDoor.A
open Go.RowKit
open L (Str isName prt size_len below_2 below_box ret_bool ret_int eql_eq bytes_eq)

theorem eql_yes {a b : ByteArray} (h : a = b) : (a.toList == b.toList) = true := by rw [eql_eq]; exact decide_eq_true (by rw [h])
theorem eql_no {a b : ByteArray} (h : ¬ a = b) : (a.toList == b.toList) = false := by rw [eql_eq]; exact decide_eq_false (fun h2 => h (bytes_eq h2))
end Go.Proofs.YtkjefigebdbkaaaGreatDoor.A
namespace Go.Proofs.YtkjefigebdbkaaaGreatDoor.A
open Go.RowKit
open L (Str isName prt size_len below_2 below_box ret_bool ret_int eql_eq bytes_eq)

def pmV (q : Pm) : Value := .agg #[.string q.name, .int .i64 q.ty]
set_option maxHeartbeats 2000000 in
set_option maxRecDepth 100000 in
theorem osameName_any (q : Pm) (N : Nat) (x : ByteArray) (w : World) (h : w.cell? ⟨N, 0, none⟩ = some (.string x)) :
    Calls Tryz.prog 65 #[pmV q, .pointer (some ⟨N, 0, none⟩)] w fun e' w' => e' = .returned (.bool (decide (q.name = x))) ∧ Below w.heap.size w w' := by
  have hw := below_box w (.cells #[.string q.name, .int .i64 q.ty] 52)
  have h2 := (hw.cell (block_lt_of_cell h)).trans h
  have HW := Lib.hid hw
  have hb := bytes_dec q.name x
  obtain ⟨v, hv⟩ : ∃ v, decide (q.name = x) = v := ⟨_, rfl⟩
  rw [hv] at hb ⊢
  unfold pmV
  clear hw hv
  go_enter Tryz.func65, Tryz.ntmps65
  go_wp2_with fail
  go_ret
  exact ⟨rfl, HW.out⟩
def idxP (x : ByteArray) : List Pm → Nat → Int
  | [], _ => -1
  | q :: r, k => if decide (q.name = x) = true then (k : Int) else idxP x r (k + 1)
theorem idxP_any (x : ByteArray) : ∀ (l : List Pm) (k : Nat), decide (0 ≤ idxP x l k) = l.any (fun q => decide (q.name = x))
  | [], k => rfl
  | q :: r, k => by
    rw [idxP, List.any_cons]
    cases h : decide (q.name = x)
    · rw [if_neg (by decide), Bool.false_or]; exact idxP_any x r (k + 1)
    · rw [if_pos rfl, Bool.true_or]; exact decide_eq_true (by omega)
set_option maxHeartbeats 4000000 in
set_option maxRecDepth 100000 in
theorem oindexFunc_any (l : List Pm) (a : Option Addr) (c N : Nat) (x : ByteArray) (hl : l.length ≤ 1000000000000000) (w : World) (hK : PmsAt w a l) (h : w.cell? ⟨N, 0, none⟩ = some (.string x)) :
    Calls Tryz.prog 96 #[.slice a l.length c, .func (Fn.func 65) #[] #[.pointer (some ⟨N, 0, none⟩)]] w fun e' w' => e' = .returned (.int .i64 (idxP x l 0)) ∧ Below w.heap.size w w' := by
  have HK := Lib.hid hK
  have HX := Lib.hid h
  have hlt0 := block_lt_of_cell h
  obtain ⟨R, hR⟩ : ∃ R, idxP x l 0 = R := ⟨_, rfl⟩
  rw [hR]
  have HR : Hid (idxP x (l.drop 0) 0 = R) := hR
  obtain ⟨m, hm⟩ : ∃ m, l.length = m := ⟨_, rfl⟩
  have HL := Lib.hid hm
  rw [hm] at hl ⊢
  clear hm hR hK h
  go_enter Tryz.func96, Tryz.ntmps96
  go_wp2_with fail
  go_loopw [8] (fun s8 wr => ∃ k : Nat, k ≤ m ∧ s8 = .int .i64 k ∧ Hid (idxP x (l.drop k) k = R) ∧ Hid (Below w.heap.size w wr)) (fun s8 _ => m - (intOf s8).toNat)
  case atStart => exact ⟨0, Nat.zero_le _, rfl, HR, Below.refl _ _⟩
  case round =>
    obtain ⟨k, hk, rfl, HX2, HB⟩ := hrel
    by_cases hlt : k < m
    · have hlx : k < l.length := by rw [HL.out]; exact hlt
      have hx := HX2.out
      rw [List.drop_eq_getElem_cons hlx, idxP] at hx
      obtain ⟨b3, i3, rfl, hc⟩ := (HK.out.below HB.out).open hlx
      obtain ⟨f0, f1⟩ := hc k hlx
      have HC := Lib.hid (osameName_any l[k] N x wr ((HB.out.cell hlt0).trans HX.out))
      generalize l[k] = q at f0 f1 HC hx
      generalize decide (q.name = x) = y at HC hx
      unfold pmV at HC
      clear hc
      cases y
      · rw [if_neg (by decide)] at hx
        have HN := Lib.hid hx
        clear hx
        go_wp2_with fail
        refine HC.out.mono ?_; rintro e w2 ⟨rfl, hb2⟩
        have HB2 := Lib.hid (below_2 HB.out hb2)
        clear hb2
        go_wp2_with fail
        go_roundw
        case rel => exact ⟨k + 1, by omega, by go_num, HN, HB2⟩
        case measure => simp [intOf]; omega
      · rw [if_pos rfl] at hx
        have HV := Lib.hid hx
        clear hx
        go_wp2_with fail
        refine HC.out.mono ?_; rintro e w2 ⟨rfl, hb2⟩
        have HB2 := Lib.hid (below_2 HB.out hb2)
        clear hb2
        go_wp2_with fail
        go_ret
        exact ⟨ret_int HV.out, HB2.out⟩
    · have HV : Hid (-1 = R) := by
        show _ = _
        rw [← HX2.out, List.drop_of_length_le (by rw [HL.out]; omega), idxP]
      go_wp2_with fail
      go_ret
      exact ⟨ret_int HV.out, HB.out⟩
set_option maxHeartbeats 2000000 in
set_option maxRecDepth 100000 in
theorem ocontainsFunc_any (l : List Pm) (a : Option Addr) (c N : Nat) (x : ByteArray) (hl : l.length ≤ 1000000000000000) (w : World) (hK : PmsAt w a l) (h : w.cell? ⟨N, 0, none⟩ = some (.string x)) :
    Calls Tryz.prog 66 #[.slice a l.length c, .func (Fn.func 65) #[] #[.pointer (some ⟨N, 0, none⟩)]] w fun e' w' => e' = .returned (.bool (l.any (fun q => decide (q.name = x)))) ∧ Below w.heap.size w w' := by
  have HC := Lib.hid (oindexFunc_any l a c N x hl w hK h)
  have hv := idxP_any x l 0
  generalize idxP x l 0 = r at HC hv
  generalize l.any (fun q => decide (q.name = x)) = y at hv ⊢
  generalize l.length = m at HC ⊢
  clear hl hK h
  go_enter Tryz.func66, Tryz.ntmps66
  go_wp2_with fail
  refine HC.out.mono ?_; rintro e w2 ⟨rfl, hb2⟩
  have HB2 := Lib.hid hb2
  clear hb2
  go_wp2_with fail
  go_ret
  exact ⟨rfl, HB2.out⟩
theorem parF_drop {l : List Pm} {k : Nat} (h : k < l.length) : parF ((l.take k).map Pm.name) (l.drop k) = if nam l[k].name = false then 7 else if l[k].ty < 1 ∨ 3 < l[k].ty then 10 else if (l.take k).any (fun q => decide (q.name = l[k].name)) = true then 8 else parF ((l.take (k + 1)).map Pm.name) (l.drop (k + 1)) := by
  rw [List.drop_eq_getElem_cons h, parF, List.any_map, List.take_succ_eq_append_getElem h, List.map_append]
  rfl
theorem PmsAt.take {w : World} {a : Option Addr} {l : List Pm} (h : PmsAt w a l) (k : Nat) : PmsAt w a (l.take k) := by
  rcases h with h | ⟨b, i, ha, h⟩
  · left; rw [h]; simp
  · right
    refine ⟨b, i, ha, fun j hj => ?_⟩
    have hj2 : j < l.length := by rw [List.length_take] at hj; omega
    rw [List.getElem_take]
    exact h j hj2
set_option maxHeartbeats 8000000 in
set_option maxRecDepth 100000 in
theorem oparamsError_any (l : List Pm) (a : Option Addr) (c : Nat) (hl : l.length ≤ 1000000000000000) (w : World) (hc : l.length ≤ c) (hK : PmsAt w a l) :
    Calls Tryz.prog 37 #[.slice a l.length c] w fun e' w' => e' = .returned (.int .i64 (parE l)) ∧ Below w.heap.size w w' := by
  have HK := Lib.hid hK
  have hpe : parE l = if 6 < l.length then 2 else parF [] l := rfl
  obtain ⟨R, hR⟩ : ∃ R, parE l = R := ⟨_, rfl⟩
  rw [hR] at hpe ⊢
  have HP : Hid (l.length ≤ 6 → parF ((l.take 0).map Pm.name) (l.drop 0) = R) := fun h => by rw [hpe, if_neg (by omega)]; rfl
  have HP2 : Hid (6 < l.length → R = 2) := fun h => by rw [hpe, if_pos h]
  obtain ⟨m, hm⟩ : ∃ m, l.length = m := ⟨_, rfl⟩
  have HL := Lib.hid hm
  rw [hm] at hl hc HP HP2 ⊢
  clear hm hR hK hpe
  by_cases h6 : 6 < m
  · have HV : Hid (R = 2) := HP2.out h6
    have b6 : decide (6 < (m : Int)) = true := decide_eq_true (by omega)
    clear h6
    go_enter Tryz.func37, Tryz.ntmps37
    go_wp2_with fail
    go_ret
    exact ⟨ret_int HV.out.symm, Below.refl _ _⟩
  · have HR := Lib.hid (HP.out (by omega))
    have b6 : decide (6 < (m : Int)) = false := decide_eq_false (by omega)
    clear HP HP2
    go_enter Tryz.func37, Tryz.ntmps37
    go_wp2_with fail
    go_loopw [11] (fun s11 wr => ∃ k : Nat, k ≤ m ∧ s11 = .int .i64 k ∧ Hid (parF ((l.take k).map Pm.name) (l.drop k) = R) ∧ Hid (Below w.heap.size w wr)) (fun s11 _ => m - (intOf s11).toNat)
    case atStart => exact ⟨0, Nat.zero_le _, rfl, HR, Below.refl _ _⟩
    case round =>
      obtain ⟨k, hk, rfl, HX, HB⟩ := hrel
      by_cases hlt : k < m
      · have hlx : k < l.length := by rw [HL.out]; exact hlt
        have hx := HX.out
        rw [parF_drop hlx] at hx
        obtain ⟨b3, i3, rfl, hcc⟩ := (HK.out.below HB.out).open hlx
        obtain ⟨f0, f1⟩ := hcc k hlx
        have hbx := below_box wr (.cells #[.string l[k].name, .int .i64 l[k].ty] 52)
        have HI : Hid (∀ w, Calls Tryz.prog 36 #[.string l[k].name] w fun e' w' => e' = .returned (.bool (nam l[k].name)) ∧ Below w.heap.size w w') := fun w => L.oname_any l[k].name w
        have g0 : (wr.alloc (.cells #[.string l[k].name, .int .i64 l[k].ty] 52)).cell? ⟨wr.heap.size, 0, none⟩ = some (.string l[k].name) := by go_simp
        have g1 : (wr.alloc (.cells #[.string l[k].name, .int .i64 l[k].ty] 52)).cell? ⟨wr.heap.size, 1, none⟩ = some (.int .i64 l[k].ty) := by go_simp
        have hlen : (l.take k).length = k := by rw [List.length_take]; omega
        have HCF := Lib.hid (fun w' (hb : Below w.heap.size w w') (hx : w'.cell? ⟨wr.heap.size, 0, none⟩ = some (.string l[k].name)) => ocontainsFunc_any (l.take k) (some ⟨b3, i3, none⟩) c wr.heap.size l[k].name (by omega) w' ((HK.out.below hb).take k) hx)
        rw [hlen] at HCF
        have HG0 := Lib.hid g0
        have HG1 := Lib.hid g1
        have HBX := Lib.hid (below_2 HB.out hbx)
        generalize (l.take k).any (fun q => decide (q.name = l[k].name)) = y at HCF hx
        generalize l[k] = q at *
        clear hcc hlen hbx
        obtain ⟨nm, hnm⟩ : ∃ v, nam q.name = v := ⟨_, rfl⟩
        rw [hnm] at HI hx
        clear hnm
        cases nm
        · have HV : Hid (R = 7) := by show _ = _; rw [← hx, if_pos rfl]
          clear hx g0 g1
          go_wp2_with fail
          refine (HI.out _).mono ?_; rintro e w2 ⟨rfl, hb2⟩
          have HB2 := Lib.hid (below_2 HBX.out hb2)
          clear hb2
          go_wp2_with fail
          go_ret
          exact ⟨ret_int HV.out.symm, HB2.out⟩
        · rw [if_neg (by decide)] at hx
          clear g0 g1
          go_wp2_with fail
          refine (HI.out _).mono ?_; rintro e w2 ⟨rfl, hb2⟩
          have HB2 := Lib.hid (below_2 HBX.out hb2)
          have g0 := (hb2.cell (block_lt_of_cell HG0.out)).trans HG0.out
          have g1 := (hb2.cell (block_lt_of_cell HG1.out)).trans HG1.out
          clear hb2
          by_cases hty : q.ty < 1 ∨ 3 < q.ty
          · have t1 : (q.ty != 1) = true := bne_iff_ne.2 (by omega)
            have t2 : (q.ty != 2) = true := bne_iff_ne.2 (by omega)
            have t3 : (q.ty != 3) = true := bne_iff_ne.2 (by omega)
            have HV : Hid (R = 10) := by show _ = _; rw [← hx, if_pos hty]
            clear hx hty
            go_wp2_with fail
            go_ret
            exact ⟨ret_int HV.out.symm, HB2.out⟩
          · rw [if_neg hty] at hx
            have hC := HCF.out w2 HB2.out g0
            have HC := Lib.hid hC
            clear hC
            have ht : q.ty = 1 ∨ q.ty = 2 ∨ q.ty = 3 := by omega
            clear hty
            cases y
            · rw [if_neg (by decide)] at hx
              have HN := Lib.hid hx
              clear hx
              rcases ht with ht | ht | ht
              all_goals
                rw [ht] at g1
                clear ht
                go_wp2_with fail
                refine HC.out.mono ?_; rintro e w3 ⟨rfl, hb3⟩
                have HB3 := Lib.hid (below_2 HB2.out hb3)
                clear hb3
                go_wp2_with fail
                go_roundw
                case rel => exact ⟨k + 1, by omega, by go_num, HN, HB3⟩
                case measure => simp [intOf]; omega
            · have HV : Hid (R = 8) := by show _ = _; rw [← hx, if_pos rfl]
              clear hx
              rcases ht with ht | ht | ht
              all_goals
                rw [ht] at g1
                clear ht
                go_wp2_with fail
                refine HC.out.mono ?_; rintro e w3 ⟨rfl, hb3⟩
                have HB3 := Lib.hid (below_2 HB2.out hb3)
                clear hb3
                go_wp2_with fail
                go_ret
                exact ⟨ret_int HV.out.symm, HB3.out⟩
      · have HV : Hid (R = 0) := by
          show _ = _
          rw [← HX.out, List.drop_of_length_le (by rw [HL.out]; omega), parF]
        go_wp2_with fail
        go_ret
        exact ⟨ret_int HV.out.symm, HB.out⟩
end Go.Proofs.YtkjefigebdbkaaaGreatDoor.A
