/-
  What the program's function Names of layer 8 returns: its contract.
  What the program's function copiedProc of layer 8 returns: its contract.
  What the program's function occurs of layer 8 returns: its contract.
  What the program's function Rename of layer 8 returns: its contract.
-/
import Derived.Test.YtffamknoamknpaaGG
import Derived.Test.YtffamknoamknpaaGI
import Derived.Deep.RegionLaw
import Derived.Test.YtffamknoamknpaaGS
import Derived.Lib.SlicesS
import Derived.Deep.CutRange
import Derived.Deep.RegionHeld3
namespace Go.Proofs.Ytffamknoamknpaa.A
open Go.RowKit
open L (Str isName prt size_len below_2 below_box ret_bool ret_int eql_eq bytes_eq)

theorem info_n : (Try.prog.info? 9).map (fun i => (i.zero, i.size, i.bytes)) = some (some (.string ⟨#[]⟩), 1, 16) := by kernel_rfl
def kN : RowK ByteArray where
  f := fun x => [.string x]
  size := 1
  bytes := 16
  t := 42
  e := 9
  z := .string ⟨#[]⟩
  inn := fun _ _ _ => True
  und := Try.underlying42
  info := info_n
  len := fun _ => rfl
  one := fun x u hu => by simp at hu; rw [hu]; rfl
  pos := by decide
  zs := rfl
  small := by decide
  next := fun _ _ => trivial
/-- strings in memory -/
def StrsAt (w : World) (a : Option Addr) (l : List ByteArray) : Prop := l = [] ∨ ∃ b i, a = some ⟨b, i, none⟩ ∧ ∀ j (h : j < l.length), w.cell? ⟨b, i + j, none⟩ = some (.string l[j])
theorem StrsAt.below {w w' : World} {a : Option Addr} {l : List ByteArray} (h : StrsAt w a l) (hb : Below w.heap.size w w') : StrsAt w' a l := by
  rcases h with h | ⟨b, i, ha, h⟩
  · exact Or.inl h
  · exact Or.inr ⟨b, i, ha, fun j hj => (hb.cell (block_lt_of_cell (h j hj))).trans (h j hj)⟩
theorem StrsAt.open {w : World} {a : Option Addr} {l : List ByteArray} (h : StrsAt w a l) {k : Nat} (hk : k < l.length) : ∃ b i, a = some ⟨b, i, none⟩ ∧ ∀ j (h : j < l.length), w.cell? ⟨b, i + j, none⟩ = some (.string l[j]) :=
  h.resolve_left (fun e => by rw [e] at hk; exact absurd hk (Nat.not_lt_zero _))
theorem Own1.strs {w : World} {b0 : Nat} {Z : Nat → Prop} {p : Option Addr} {q : Nat} {l : List ByteArray} (h : Own1 kN w b0 Z (.slice p l.length q) l) : StrsAt w p l := by
  by_cases h0 : l = []
  · exact Or.inl h0
  · obtain ⟨g, rfl, _, _⟩ := h.cell (List.length_pos_iff.2 h0)
    refine Or.inr ⟨g, 0, rfl, fun j hj => ?_⟩
    obtain ⟨g2, hg, _, hc⟩ := h.cell hj
    cases hg
    have := hc 0 (by decide)
    rw [Nat.zero_add]
    rw [show j * kN.size + 0 = j from Nat.mul_one j] at this
    exact this

/-! ### a list in a captured variable -/

def ZL (w0 : World) (X : Nat → Prop) (N : Nat) (k : Nat) : Prop := k < w0.heap.size ∨ X k ∨ k = N
def JL {α : Type} (K : RowK α) (w0 : World) (N : Nat) (X : Nat → Prop) (l : List α) (w : World) : Prop := ∃ p q, Cell1 N (.slice p l.length q) w ∧ ¬ X N ∧ Own1 K w w0.heap.size (ZL w0 X N) (.slice p l.length q) l
namespace JL
variable {α : Type} {K : RowK α} {w0 w w' : World} {N : Nat} {X : Nat → Prop} {l : List α}
theorem keep (h : JL K w0 N X l w) (_ : w.heap.size ≤ w'.heap.size) (hk : ∀ k, k < w.heap.size → ¬ X k → w'.heap[k]? = w.heap[k]?) : JL K w0 N X l w' := by
  obtain ⟨p, q, hc, hx, ho⟩ := h
  exact ⟨p, q, hc.moved (hk N hc.lt hx), hx, ho.next ⟨fun k hk1 hz => hk k hk1 (fun h2 => hz (Or.inr (Or.inl h2))), fun k hk => Or.inl hk⟩⟩
theorem wide (h : JL K w0 N (fun _ => False) l w) (hx : ∀ k, X k → w.heap.size ≤ k) : JL K w0 N X l w := by
  obtain ⟨p, q, hc, _, ho⟩ := h
  refine ⟨p, q, hc, fun h2 => by have := hx N h2; have := hc.lt; omega, ho.next ⟨fun _ _ _ => rfl, fun k hk => ?_⟩⟩
  rcases hk with hk | hk | hk
  · exact Or.inl (Or.inl hk)
  · exact Or.inr (hx k hk)
  · exact Or.inl (Or.inr (Or.inr hk))
theorem narrow (h : JL K w0 N X l w) : JL K w0 N (fun _ => False) l w := by
  obtain ⟨p, q, hc, _, ho⟩ := h
  refine ⟨p, q, hc, fun h2 => h2, ho.next ⟨fun _ _ _ => rfl, fun k hk => ?_⟩⟩
  rcases hk with hk | hk | hk
  · exact Or.inl (Or.inl hk)
  · exact hk.elim
  · exact Or.inl (Or.inr (Or.inr hk))
end JL
theorem Own1.store {α : Type} {K : RowK α} {w0 w w3 w6 : World} {N : Nat} {X : Nat → Prop} {p : Option Addr} {q : Nat} {l : List α} {y : α} {g' cap : Nat} {o : Obj} (hX : ∀ k, X k → w0.heap.size ≤ k ∧ k < w.heap.size) (hN0 : w0.heap.size ≤ N) (hNX : ¬ X N) (hz : w0.heap.size ≤ w.heap.size)
    (hC : Cell1 N (.slice p l.length q) w) (hO : Own1 K w w0.heap.size (ZL w0 X N) (.slice p l.length q) l) (hb : Below w.heap.size w w3) (hy : K.inn (fun k => ZL w0 X N k ∨ (Value.slice p l.length q).ownBlock = some k) w3 y)
    (h1 : w6.ownsRow w0.heap.size K.e K.size (.slice (some ⟨g', 0, none⟩) (l.length + 1) cap) (l ++ [y]).length (K.cs (l ++ [y]))) (h2 : (w3.alloc o).grownBy w6 (Value.slice p l.length q).ownBlock) (h3 : (Value.slice p l.length q).ownBlock = some g' ∨ g' = w3.heap.size + 1) :
    Cell1 N (.slice p l.length q) w6 ∧ JL K w0 N X (l ++ [y]) (w6.setCell ⟨N, 0, none⟩ (.slice (some ⟨g', 0, none⟩) (l.length + 1) cap)) ∧ Below w0.heap.size w (w6.setCell ⟨N, 0, none⟩ (.slice (some ⟨g', 0, none⟩) (l.length + 1) cap)) ∧ ∀ k, X k → (w6.setCell ⟨N, 0, none⟩ (.slice (some ⟨g', 0, none⟩) (l.length + 1) cap)).heap[k]? = w.heap[k]? := by
  have hO3 := hO.below hb
  have hC3 := hC.later hb
  have hzz : ∀ k, ZL w0 X N k → k < w3.heap.size := fun k hk => by
    have := hb.size
    rcases hk with hk | hk | hk
    · omega
    · have := (hX k hk).2; omega
    · have := hC.lt; omega
  have hO6 := hO3.push hy hzz h1 h2 h3
  have hblk : ∀ k, ZL w0 X N k → w6.heap[k]? = w3.heap[k]? := fun k hk =>
    (h2.block k (by have := hzz k hk; simp; omega) (fun e => hO3.off k e.symm hk)).trans (Below.heap_alloc w3 o k (hzz k hk))
  have hC6 := hC3.moved (hblk N (Or.inr (Or.inr rfl)))
  have hF := hO3.frame (hb.mono hz) (Nat.le_trans hz hb.size) h2
  have hl : (l ++ [y]).length = l.length + 1 := by simp
  refine ⟨hC6, ⟨some ⟨g', 0, none⟩, cap, ?_, hNX, ?_⟩, hF.setCell hN0 _, fun k hk => ?_⟩
  · rw [hl]; exact hC6.set
  · rw [hl]
    exact hO6.next ⟨fun k _ hk2 => Below.heap_setCell _ _ _ _ (fun e => hk2 (Or.inr (Or.inr e))), fun k hk => Or.inl hk⟩
  · have hne : k ≠ N := fun e => hNX (e ▸ hk)
    exact (Below.heap_setCell _ _ _ _ hne).trans ((hblk k (Or.inr (Or.inl hk))).trans (hb.block k (hX k hk).2))
def JM (w0 : World) (N n : Nat) (X : Nat → Prop) (l : List ByteArray) (w : World) : Prop := l.length ≤ n + 1000 ∧ JL kN w0 N X l w
set_option maxHeartbeats 4000000 in
set_option maxRecDepth 100000 in
theorem visM {w0 : World} {N : Nat} (hN : w0.heap.size ≤ N) : VisM ⟨N, 0, none⟩ gM w0 (JM w0 N) := by
  refine ⟨fun n X l u ps pe w hn hX hJ hb0 hat hok => ?_, fun n X s w w' h h1 h2 => ⟨h.1, h.2.keep h1 h2⟩, fun n X s w h h1 => ⟨h.1, h.2.wide h1⟩, fun n X s w h => ⟨h.1, h.2.narrow⟩⟩
  obtain ⟨hll, p, q, hC, hNX, hO⟩ := hJ
  have hw := below_box w (.cells #[.pointer ps, .pointer pe, .int .i64 (u.d : Int)] 60)
  have hC1 := hC.later hw
  obtain ⟨n1, n2, n3⟩ := hC1
  have hSame : Hid (gM l u = (l, true) → (JM w0 N (n + 1) X l (w.alloc (.cells #[.pointer ps, .pointer pe, .int .i64 (u.d : Int)] 60)) ∧ Below w0.heap.size w (w.alloc (.cells #[.pointer ps, .pointer pe, .int .i64 (u.d : Int)] 60)) ∧ ∀ k, X k → (w.alloc (.cells #[.pointer ps, .pointer pe, .int .i64 (u.d : Int)] 60)).heap[k]? = w.heap[k]?)) :=
    fun _ => ⟨⟨by omega, JL.keep ⟨p, q, hC, hNX, hO⟩ hw.size (fun k hk _ => hw.block k hk)⟩, hw.mono hb0.size, fun k hk => hw.block k (hX k hk).2⟩
  cases u with
  | ex e d =>
    obtain ⟨b, i, rfl, rfl, _⟩ := hat
    have HG : Hid (gM l (.ex e d) = (l, true)) := by show (l ++ [], true) = _; rw [List.append_nil]
    have HP := Lib.hid (hSame.out HG.out)
    rw [HG.out]
    unfold nodeV
    simp only [U.d] at *
    clear hw hC hO hb0 hX hok hSame HG
    go_enter Try.func56, Try.ntmps56
    go_wp2_with fail
    go_ret
    exact ⟨rfl, HP.out⟩
  | st s d =>
    obtain ⟨b, i, rfl, rfl, hat⟩ := hat
    simp only [U.d] at *
    obtain ⟨a1, c1, a2, c2, a3, c3, a4, c4, hcc, _⟩ := (hat.below hb0).open
    have hcc1 := hcc.below hw
    have k0 := hcc1.k0
    have k1 := hcc1.k1
    have hsz := hok.2
    have hsp := cS_parts s
    have hnm : s.name.size ≤ 281474976710656 := by omega
    by_cases ho : s.op = 1 ∨ s.op = 6
    · have HG : Hid (gM l (.st s d) = (l ++ [s.name], true)) := by show (l ++ (if s.op = 1 ∨ s.op = 6 then [s.name] else []), true) = _; rw [if_pos ho]
      rw [HG.out]
      have HCl := Lib.hid (fun w => L.oclone_any s.name hnm w)
      have HFin : Hid (∀ w3 w6 g' cap o, Below w.heap.size w w3 → w6.ownsRow w0.heap.size kN.e kN.size (.slice (some ⟨g', 0, none⟩) (l.length + 1) cap) (l ++ [s.name]).length (kN.cs (l ++ [s.name])) → (w3.alloc o).grownBy w6 (Value.slice p l.length q).ownBlock → ((Value.slice p l.length q).ownBlock = some g' ∨ g' = w3.heap.size + 1) → _) :=
        fun w3 w6 g' cap o hb h1 h2 h3 => Own1.store hX hN hNX hb0.size hC hO hb trivial h1 h2 h3
      have HO := Lib.hid hO
      have HW := Lib.hid hw
      have hzw := hb0.size
      unfold nodeV
      clear hw hC hb0 hX hok hSame HG hcc hcc1 hat hsz hsp hO
      rcases ho with ho | ho
      all_goals
        rw [ho] at k0
        clear ho
        go_enter Try.func56, Try.ntmps56
        go_wp2_with fail
        go_region_law
          (first
            | (refine kN.step rfl (.tmp 23) (.tmp 30) rfl w0.heap.size (.slice p l.length q) l rfl HO3.out.row s.name _ rfl w3.heap.size rfl rfl (by omega) (by omega) ?_; intro g6 cap6 w6 hown6 hgrow6 hlie6; have HF6 := Lib.hid (HFin.out w3 w6 g6 cap6 _ HB3.out hown6 hgrow6 hlie6); obtain ⟨r1, r2, r3⟩ := HF6.out.1; clear hown6 hgrow6 hlie6)
            | (go_simp; go_at_call 53; refine (HCl.out _).mono ?_; rintro e' w3 ⟨rfl, hb3⟩; have HB3 := Lib.hid (below_2 HW.out (below_2 (L.below_drew _) hb3)); have HO3 := Lib.hid (HO.out.below HB3.out); have hz3 := HB3.out.size; have t2 := (hb3.cell (by exact n1)).trans n2; have t3 := ((below_box w3 (.cells #[.string s.name] 9)).cell (block_lt_of_cell t2)).trans t2; clear hb3))
        all_goals
          go_wp2_with fail
          go_ret
          exact ⟨rfl, ⟨by rw [List.length_append, List.length_singleton]; omega, HF6.out.2.1⟩, HF6.out.2.2⟩
    · have HG : Hid (gM l (.st s d) = (l, true)) := by show (l ++ (if s.op = 1 ∨ s.op = 6 then [s.name] else []), true) = _; rw [if_neg ho, List.append_nil]
      have HP := Lib.hid (hSame.out HG.out)
      rw [HG.out]
      have o1 : (s.op == 1) = false := beq_eq_false_iff_ne.2 (by omega)
      have o6 : (s.op == 6) = false := beq_eq_false_iff_ne.2 (by omega)
      unfold nodeV
      clear hw hC hO hb0 hX hok hSame HG hcc hcc1 hat hsz hsp ho
      go_enter Try.func56, Try.ntmps56
      go_wp2_with fail
      go_ret
      exact ⟨rfl, HP.out⟩
theorem names_take {l : List Pm} {k : Nat} (h : k < l.length) : (l.take (k + 1)).map Pm.name = (l.take k).map Pm.name ++ [l[k].name] := by
  rw [List.take_succ_eq_append_getElem h, List.map_append]; rfl
/-- strings that a call made -/
def GivesN (w : World) (x : List ByteArray) (e' : Ending) (w' : World) : Prop := ∃ p q, e' = .returned (.slice p x.length q) ∧ x.length ≤ q ∧ StrsAt w' p x ∧ Below w.heap.size w w'
set_option maxHeartbeats 8000000 in
set_option maxRecDepth 100000 in
theorem onames_any (p : Pr) (a1 a2 : Option Addr) (c1 c2 : Nat) (hok : OkP p) (hsz : cB p.body ≤ 900000) (hpl : p.params.length ≤ 1000) (hps : ∀ j (h : j < p.params.length), p.params[j].name.size ≤ 281474976710656) (w : World) (hK : PrIn w p a1 a2) :
    Calls Try.prog 27 #[prV p a1 c1 a2 c2] w fun e' w' => GivesN w (names p) e' w' := by
  have hw := below_box w (prO p a1 c1 a2 c2)
  have hbx := Bx.new w #[.string p.name, .slice a1 p.params.length c1, .slice a2 p.body.length c2] 35
  have HWK := Lib.hid (fun (N : Nat) (hN : (w.alloc (prO p a1 c1 a2 c2)).heap.size ≤ N) (l : List ByteArray) (w' : World) (hJ : JM (w.alloc (prO p a1 c1 a2 c2)) N 0 (fun _ => False) l w') (hb : Below (w.alloc (prO p a1 c1 a2 c2)).heap.size (w.alloc (prO p a1 c1 a2 c2)) w') => owalkM_any (visM (w0 := w.alloc (prO p a1 c1 a2 c2)) hN) p a1 c1 a2 c2 hok.body hok.bodyLen (by omega) (hK.below hw).body l w' hJ hb)
  have HK := Lib.hid (hK.below hw).params
  have HW := Lib.hid hw
  have HBX := Lib.hid hbx
  have HNR := Lib.hid (names_run p)
  have HPS := Lib.hid hps
  have hJ0 : JL kN (w.alloc (prO p a1 c1 a2 c2)) (w.heap.size + 1) (fun _ => False) ([] : List ByteArray) ((w.alloc (prO p a1 c1 a2 c2)).alloc (.cells #[.slice none 0 0] 42)) := ⟨none, 0, cell1_at (by simp), fun h => h, Own1.nil⟩
  have HJ0 := Lib.hid hJ0
  have HZ1 : Hid ((w.alloc (prO p a1 c1 a2 c2)).heap.size = w.heap.size + 1) := by show _ = _; simp
  obtain ⟨m, hm⟩ : ∃ m, p.params.length = m := ⟨_, rfl⟩
  have HL := Lib.hid hm
  unfold prO at *
  unfold prV at *
  rw [hm] at HWK HK HW HBX HJ0 HZ1 hpl ⊢
  clear hw hbx hok hsz hps hK hJ0 hm
  go_enter Try.func27, Try.ntmps27
  go_wp2_with fail
  go_loopw [9] (fun s9 wr => ∃ (k : Nat) (l : List ByteArray), k ≤ m ∧ s9 = .int .i64 k ∧ Hid (l = (p.params.take k).map Pm.name) ∧ Hid (JL kN (w.alloc (.cells #[.string p.name, .slice a1 m c1, .slice a2 p.body.length c2] 35)) (w.heap.size + 1) (fun _ => False) l wr) ∧ Hid (Below (w.alloc (.cells #[.string p.name, .slice a1 m c1, .slice a2 p.body.length c2] 35)).heap.size (w.alloc (.cells #[.string p.name, .slice a1 m c1, .slice a2 p.body.length c2] 35)) wr)) (fun s9 _ => m - (intOf s9).toNat)
  case atStart => exact ⟨0, [], Nat.zero_le _, rfl, rfl, HJ0.out, below_box _ _⟩
  case round =>
    obtain ⟨k, l, hk, rfl, HX, HJ, HB⟩ := hrel
    have hllk : l.length ≤ k := by have := congrArg List.length HX.out; rw [List.length_map, List.length_take] at this; omega
    by_cases hlt : k < m
    · have hlx : k < p.params.length := by rw [HL.out]; exact hlt
      obtain ⟨b3, i3, rfl, hcc⟩ := (HK.out.below HB.out).open hlx
      obtain ⟨f0, f1⟩ := hcc k hlx
      have hqs := HPS.out k hlx
      have hxn := names_take hlx
      generalize p.params[k] = q at f0 f1 hqs hxn
      obtain ⟨pl, ql, hC, hNX, hO⟩ := HJ.out
      have hb7 := below_box wr (.cells #[.string q.name, .int .i64 q.ty] 52)
      have hC7 := hC.later hb7
      obtain ⟨n1, n2, n3⟩ := hC7
      have hz := HB.out.size
      have hz7 := hb7.size
      have HCl := Lib.hid (fun w => L.oclone_any q.name hqs w)
      have hO7 := hO.below hb7
      have hB7 : Below (w.alloc (.cells #[.string p.name, .slice (some ⟨b3, i3, none⟩) m c1, .slice a2 p.body.length c2] 35)).heap.size (w.alloc (.cells #[.string p.name, .slice (some ⟨b3, i3, none⟩) m c1, .slice a2 p.body.length c2] 35)) _ := HB.out.trans (hb7.mono hz)
      have HFin := Lib.hid (fun w3 w6 g' cap o (hb : Below (wr.alloc (.cells #[.string q.name, .int .i64 q.ty] 52)).heap.size (wr.alloc (.cells #[.string q.name, .int .i64 q.ty] 52)) w3) h1 h2 h3 => Own1.store (K := kN) (y := q.name) (g' := g') (cap := cap) (w6 := w6) (o := o) (fun _ h => h.elim) (by have := HZ1.out; omega) hNX (Nat.le_trans hz hz7) (hC.later hb7) hO7 hb trivial h1 h2 h3)
      have HO7 := Lib.hid hO7
      have HB7 := Lib.hid hB7
      have HXN : Hid (l ++ [q.name] = (p.params.take (k + 1)).map Pm.name) := by show _ = _; rw [hxn, HX.out]
      have g0 : (wr.alloc (.cells #[.string q.name, .int .i64 q.ty] 52)).cell? ⟨wr.heap.size, 0, none⟩ = some (.string q.name) := by go_simp
      clear hcc hC hNX hO hb7 hO7 hB7 hqs hxn
      go_wp2_with fail
      go_region_law
        (first
          | (refine kN.step rfl (.tmp 13) (.tmp 17) rfl _ (.slice pl l.length ql) l rfl HO3.out.row q.name _ rfl w3.heap.size rfl rfl (by omega) (by omega) ?_; intro g6 cap6 w6 hown6 hgrow6 hlie6; have HF6 := Lib.hid (HFin.out w3 w6 g6 cap6 _ HB3.out hown6 hgrow6 hlie6); obtain ⟨r1, r2, r3⟩ := HF6.out.1; clear hown6 hgrow6 hlie6)
          | (go_simp; go_at_call 53; refine (HCl.out _).mono ?_; rintro e' w3 ⟨rfl, hb3⟩; have HB3 := Lib.hid (below_2 (L.below_drew _) hb3); have HO3 := Lib.hid (HO7.out.below HB3.out); have hz3 := HB3.out.size; have t2 := (hb3.cell (by exact n1)).trans n2; have t3 := ((below_box w3 (.cells #[.string q.name] 9)).cell (block_lt_of_cell t2)).trans t2; clear hb3))
      all_goals
        have HL6 : Hid ((l ++ [q.name]).length = l.length + 1) := by show _ = _; simp
        go_wp2_with fail
        go_roundw
        case rel => exact ⟨k + 1, l ++ [q.name], by omega, by go_num, HXN.out, HF6.out.2.1, HB7.out.trans HF6.out.2.2.1⟩
        case measure => simp [intOf]; omega
    · have hX := HX.out
      rw [List.take_of_length_le (by rw [HL.out]; omega)] at hX
      have hbx3 := HBX.out.below HB.out
      have x0 := hbx3.cell 0
      have x1 := hbx3.cell 1
      have x2 := hbx3.cell 2
      simp at x0 x1 x2
      have hC := HWK.out (w.heap.size + 1) (by rw [HZ1.out]; omega) l wr ⟨by omega, HJ.out⟩ HB.out
      rw [hX, HNR.out] at hC
      have HC := Lib.hid hC
      have HBB := Lib.hid (below_2 HW.out HB.out)
      have hzw := HW.out.size
      have HZW := Lib.hid hzw
      clear hC hX hbx3 hzw
      go_wp2_with fail
      refine HC.out.mono ?_; rintro e' w5 ⟨rfl, ⟨n5, _, pl, ql, hC5, _, hO5⟩, hb5⟩
      have s1 := hC5.cell
      obtain ⟨_, _, hsh, hle⟩ := hO5.shape
      have hq : (names p).length ≤ ql := by injection hsh with h1 h2 h3; omega
      have HV : Hid (GivesN w (names p) (.returned (.slice pl (names p).length ql)) w5) := ⟨pl, ql, rfl, hq, hO5.strs, HBB.out.trans (hb5.mono HZW.out)⟩
      clear hC5 hO5 hb5 hsh hle hq
      go_wp2_with fail
      go_ret
      exact HV.out
end Go.Proofs.Ytffamknoamknpaa.A
namespace Go.Proofs.Ytffamknoamknpaa.A
open Go.RowKit
open L (Str isName prt size_len below_2 below_box ret_bool ret_int eql_eq bytes_eq)

theorem info_p : (Try.prog.info? 52).map (fun i => (i.zero, i.size, i.bytes)) = some (some (.agg #[.string ⟨#[]⟩, .int .i64 0]), 2, 24) := by kernel_rfl
def kP : RowK Pm where
  f := fun x => [.string x.name, .int .i64 x.ty]
  size := 2
  bytes := 24
  t := 32
  e := 52
  z := .agg #[.string ⟨#[]⟩, .int .i64 0]
  inn := fun _ _ _ => True
  und := Try.underlying32
  info := info_p
  len := fun _ => rfl
  one := fun x u hu => by simp at hu; rcases hu with rfl | rfl <;> rfl
  pos := by decide
  zs := rfl
  small := by decide
  next := fun _ _ => trivial
theorem PmsAt.sub {w w' : World} (h : Sub w w') {a : Option Addr} {l : List Pm} (hk : PmsAt w a l) : PmsAt w' a l := by
  rcases hk with hk | ⟨b, i, ha, hk⟩
  · exact Or.inl hk
  · exact Or.inr ⟨b, i, ha, fun j hj => ⟨h _ _ _ (hk j hj).1, h _ _ _ (hk j hj).2⟩⟩
theorem PrIn.sub {w w' : World} (h : Sub w w') {p : Pr} {a1 a2 : Option Addr} (hk : PrIn w p a1 a2) : PrIn w' p a1 a2 := ⟨PmsAt.sub h hk.params, Bodies.sub h hk.body⟩
/-- a procedure in memory, in blocks that Z leaves out -/
def PrF (Z : Nat → Prop) (w : World) (p : Pr) (a1 a2 : Option Addr) : Prop := PrIn (hollow Z w) p a1 a2
theorem PrF.now {Z : Nat → Prop} {w : World} {p : Pr} {a1 a2 : Option Addr} (h : PrF Z w p a1 a2) : PrIn w p a1 a2 := PrIn.sub (hollow_now Z w) h
theorem PrF.next {Z Z' : Nat → Prop} {w w' : World} {p : Pr} {a1 a2 : Option Addr} (h : PrF Z w p a1 a2) (hs : Stays Z Z' w w') : PrF Z' w' p a1 a2 := PrIn.sub (hollow_next hs) h
theorem Own1.pms {w : World} {b0 : Nat} {Z : Nat → Prop} {p : Option Addr} {q : Nat} {l : List Pm} (h : Own1 kP w b0 Z (.slice p l.length q) l) : PmsAt (hollow Z w) p l := by
  by_cases h0 : l = []
  · exact Or.inl h0
  · obtain ⟨g, rfl, hz, _⟩ := h.cell (List.length_pos_iff.2 h0)
    refine Or.inr ⟨g, 0, rfl, fun j hj => ?_⟩
    obtain ⟨g2, hg, _, hc⟩ := h.cell hj
    cases hg
    have c0 := hc 0 (by decide)
    have c1 := hc 1 (by decide)
    rw [show j * kP.size + 0 = 0 + j * 2 by show j * 2 + 0 = _; omega] at c0
    rw [show j * kP.size + 1 = 0 + j * 2 + 1 by show j * 2 + 1 = _; omega] at c1
    exact ⟨(hollow_cell Z w _ _ _).2 ⟨hz, c0⟩, (hollow_cell Z w _ _ _).2 ⟨hz, c1⟩⟩
def renP (f t : ByteArray) (q : Pm) : Pm := ⟨swap f t q.name, q.ty⟩
theorem pms_take (f t : ByteArray) {l : List Pm} {k : Nat} (h : k < l.length) : (l.take (k + 1)).map (renP f t) = (l.take k).map (renP f t) ++ [renP f t l[k]] := by
  rw [List.take_succ_eq_append_getElem h, List.map_append]; rfl
/-- a procedure that a call made -/
def GivesP (w : World) (x : Pr) (e' : Ending) (w' : World) : Prop := ∃ p1 q1 p2 q2, e' = .returned (prV x p1 q1 p2 q2) ∧ PrF (fun k => k < w.heap.size) w' x p1 p2 ∧ x.params.length ≤ q1 ∧ Below w.heap.size w w'
set_option maxHeartbeats 16000000 in
set_option maxRecDepth 100000 in
theorem ocopiedProc_any {w0 : World} {f t : ByteArray} {r1 r2 : Addr} (H : NamR r1 r2 w0 f t) (p : Pr) (a1 a2 : Option Addr) (c1 c2 : Nat) (hok : OkP p) (hnm : p.name.size ≤ 281474976710656) (hsz : cB p.body ≤ 1000000) (hpl : p.params.length ≤ 1000) (hps : ∀ j (h : j < p.params.length), p.params[j].name.size ≤ 281474976710656) (w : World) (hK : PrIn w p a1 a2) (hb0 : Below w0.heap.size w0 w) :
    Calls Try.prog 64 #[prV p a1 c1 a2 c2, .func (Fn.func 63) #[] #[.pointer (some r1), .pointer (some r2)]] w fun e' w' => GivesP w (ren f t p) e' w' := by
  have hzz := hb0.size
  have hw2 := below_2 (below_box w (prO p a1 c1 a2 c2)) (below_box (w.alloc (prO p a1 c1 a2 c2)) (.cells #[.string ⟨#[]⟩, .slice none 0 0, .slice none 0 0] 35))
  have hx2 := (Bx.new w #[.string p.name, .slice a1 p.params.length c1, .slice a2 p.body.length c2] 35).below (below_box _ (.cells #[.string ⟨#[]⟩, .slice none 0 0, .slice none 0 0] 35))
  have hx4 := Bx.new (w.alloc (prO p a1 c1 a2 c2)) #[.string ⟨#[]⟩, .slice none 0 0, .slice none 0 0] 35
  rw [show (w.alloc (prO p a1 c1 a2 c2)).heap.size = w.heap.size + 1 by simp] at hx4
  have HZ2 : Hid (((w.alloc (prO p a1 c1 a2 c2)).alloc (.cells #[.string ⟨#[]⟩, .slice none 0 0, .slice none 0 0] 35)).heap.size = w.heap.size + 2) := by show _ = _; simp
  have HX2 := Lib.hid hx2
  have HX4 := Lib.hid hx4
  have HW2 := Lib.hid hw2
  have HCl := Lib.hid (fun w => L.oclone_any p.name hnm w)
  have HNm := Lib.hid (fun (x : ByteArray) (w' : World) (hx : x.size ≤ 281474976710656) (hb : Below w.heap.size w w') => H.call x w' hx (hb0.trans (hb.mono hzz)))
  have HQ := Lib.hid (fun (w' : World) (hb : Below w.heap.size w w') => ocopiedStmtsR_any H p.body a2 c2 w' hok.body hok.bodyLen hsz (hK.body.below hb) (hb0.trans (hb.mono hzz)))
  have HK := Lib.hid hK.params
  have HPS := Lib.hid hps
  have HRB : Hid (p.body.map (renS f t) = (ren f t p).body) := by show _ = renB f t p.body; rw [renB_map]
  obtain ⟨m, hm⟩ : ∃ m, p.params.length = m := ⟨_, rfl⟩
  have HL := Lib.hid hm
  unfold prO at *
  unfold prV
  rw [hm] at HZ2 HX2 HX4 HW2 hpl ⊢
  clear hw2 hx2 hx4 hok hnm hsz hps hK hb0 H hm
  go_enter Try.func64, Try.ntmps64
  go_wp2_with fail
  refine (HCl.out _).mono ?_; rintro e' w3 ⟨rfl, hb3⟩
  have HW3 := Lib.hid (below_2 HW2.out hb3)
  have HY2 := Lib.hid (HX2.out.below hb3)
  have HY4 := Lib.hid (HX4.out.below hb3)
  have hz3 : w.heap.size + 2 ≤ w3.heap.size := by have := hb3.size; have h2 := HZ2.out; omega
  have hbC := below_box w3 (.cells #[.string p.name, .slice none 0 0, .slice none 0 0] 35)
  have hXC := Bx.new w3 #[.string p.name, .slice none 0 0, .slice none 0 0] 35
  have HXC := Lib.hid hXC
  have hY2 := HY2.out.below hbC
  have y1 := hY2.cell 1
  simp at y1
  have HBC := Lib.hid hbC
  clear hb3 hbC hXC hY2
  go_wp2_with fail
  go_loopw [15] (fun s15 wr => ∃ (k : Nat) (lt : List Pm) (pl : Option Addr) (ql : Nat), k ≤ m ∧ s15 = .int .i64 k ∧ Hid (lt = (p.params.take k).map (renP f t)) ∧ Hid (Bx wr w3.heap.size #[.string p.name, .slice pl lt.length ql, .slice none 0 0] 35) ∧ Hid (Own1 kP wr (w3.heap.size + 1) (fun j => j < w3.heap.size + 1) (.slice pl lt.length ql) lt) ∧ Hid (Below w3.heap.size w3 wr)) (fun s15 _ => m - (intOf s15).toNat)
  case atStart => exact ⟨0, [], none, 0, Nat.zero_le _, rfl, rfl, HXC.out, Own1.nil, HBC.out⟩
  case round =>
    obtain ⟨k, lt, pl, ql, hk, rfl, HX, HC, HO, HB⟩ := hrel
    have hllk : lt.length ≤ k := by have := congrArg List.length HX.out; rw [List.length_map, List.length_take] at this; omega
    have HBB := Lib.hid (below_2 HW3.out HB.out)
    by_cases hlt : k < m
    · have hlx : k < p.params.length := by rw [HL.out]; exact hlt
      obtain ⟨b3, i3, rfl, hcc⟩ := (HK.out.below HBB.out).open hlx
      obtain ⟨f0, f1⟩ := hcc k hlx
      have hqs := HPS.out k hlx
      have hxn := pms_take f t hlx
      generalize p.params[k] = q at f0 f1 hqs hxn
      have hb7 := below_box wr (.cells #[.string q.name, .int .i64 q.ty] 52)
      have hltC := HC.out.lt
      have hC7 := HC.out.below hb7
      have HC7 := Lib.hid hC7
      have n1 := hC7.cell 1
      have n3 := hC7.free 1
      simp at n1
      have hX7 := Bx.new wr #[.string q.name, .int .i64 q.ty] 52
      have HX7 := Lib.hid hX7
      have HO7 := Lib.hid (HO.out.below hb7)
      have HB7 := Lib.hid hb7
      have hz7 := hb7.size
      have HCn := Lib.hid (fun w' (hb : Below w.heap.size w w') => HNm.out q.name w' hqs hb)
      have HB7w := Lib.hid (below_2 HBB.out hb7)
      have g0 : (wr.alloc (.cells #[.string q.name, .int .i64 q.ty] 52)).cell? ⟨wr.heap.size, 0, none⟩ = some (.string q.name) := by go_simp
      have g1 : (wr.alloc (.cells #[.string q.name, .int .i64 q.ty] 52)).cell? ⟨wr.heap.size, 1, none⟩ = some (.int .i64 q.ty) := by go_simp
      have HXN : Hid (lt ++ [renP f t q] = (p.params.take (k + 1)).map (renP f t)) := by show _ = _; rw [hxn, HX.out]
      clear hcc hb7 hC7 hX7 hqs hxn
      go_wp2_with fail
      go_region_law
        (first
          | (refine kP.step rfl (.tmp 20) (.tmp 28) rfl (w3.heap.size + 1) (.slice pl lt.length ql) lt rfl HO4.out.row (renP f t q) _ rfl w4.heap.size rfl rfl (by omega) (by omega) ?_; intro g6 cap6 w6 hown6 hgrow6 hlie6; have HO6 := Lib.hid (HO4.out.push trivial (fun j hj => by omega) hown6 hgrow6 hlie6); have HG6 : Hid (∀ j, j < w3.heap.size + 1 → w6.heap[j]? = w4.heap[j]?) := (fun j hj => (hgrow6.block j (by simp; omega) (fun e => HO4.out.off j e.symm hj)).trans (Below.heap_alloc w4 _ j (by omega))); have hC6 := HC4.out.keep (HG6.out w3.heap.size (Nat.lt_succ_self _)); have r1 := hC6.cell 1; have r3 := hC6.free 1; simp at r1; have HC6 := Lib.hid hC6; have HF6 := Lib.hid (HO4.out.frame (Below.refl _ _) (by omega) hgrow6); clear hown6 hgrow6 hlie6 hC6)
          | (go_simp; go_at_call 63; refine (HCn.out _ HB7w.out.drew).mono ?_; rintro e' w4 ⟨rfl, hb4⟩; have HB4 := Lib.hid (below_2 (L.below_drew _) hb4); have HO4 := Lib.hid (HO7.out.below HB4.out); have hz4 := HB4.out.size; have hC4 := HC7.out.below HB4.out; have t1 := hC4.cell 1; have t3 := hC4.free 1; have hX4 := HX7.out.below HB4.out; have t5 := hX4.cell 1; simp at t1 t5; have HC4 := Lib.hid hC4; have hba := below_box w4 (.cells #[.string (swap f t q.name), .int .i64 q.ty] 52); have t2 := (hba.cell (block_lt_of_cell t1)).trans t1; clear hb4 hC4 hX4 hba))
      all_goals
        have HL6 : Hid ((lt ++ [renP f t q]).length = lt.length + 1) := by show _ = _; simp
        have hC8 := HC6.out.set 1 (u := .slice (some ⟨g6, 0, none⟩) (lt.length + 1) cap6)
        simp only [List.setIfInBounds_toArray, List.set_cons_succ, List.set_cons_zero] at hC8
        have HC8 := Lib.hid hC8
        have HO8 := Lib.hid (HO6.out.next (Z' := fun j => j < w3.heap.size + 1) (w' := w6.setCell ⟨w3.heap.size, 1, none⟩ (.slice (some ⟨g6, 0, none⟩) (lt.length + 1) cap6)) ⟨fun j _ hz => Below.heap_setCell _ _ _ _ (show j ≠ w3.heap.size by omega), fun j hj => Or.inl hj⟩)
        have HB8 : Hid (Below w3.heap.size w3 (w6.setCell ⟨w3.heap.size, 1, none⟩ (.slice (some ⟨g6, 0, none⟩) (lt.length + 1) cap6))) := ((HB.out.trans ((below_2 HB7.out HB4.out).mono HB.out.size)).trans (HF6.out.mono (Nat.le_succ _))).setCell (p := ⟨w3.heap.size, 1, none⟩) (Nat.le_refl _) _
        clear hC8
        go_wp2_with fail
        go_roundw
        case rel => exact ⟨k + 1, lt ++ [renP f t q], some ⟨g6, 0, none⟩, cap6, by omega, by go_num, HXN.out, by show Bx _ _ _ _; rw [HL6.out]; exact HC8.out, by show Own1 _ _ _ _ _ _; rw [HL6.out]; exact HO8.out, HB8.out⟩
        case measure => simp [intOf]; omega
    · have hX := HX.out
      rw [List.take_of_length_le (by rw [HL.out]; omega)] at hX
      have hY2 := HY2.out.keep (HB.out.block w.heap.size (by omega))
      have x2 := hY2.cell 2
      simp at x2
      have HCQ := Lib.hid (HQ.out wr HBB.out)
      have HXR : Hid (lt = (ren f t p).params) := hX
      clear hX hY2
      go_wp2_with fail
      refine HCQ.out.mono ?_; rintro e' w5 ⟨pb, qb, rfl, hkb, hb5⟩
      have hltC := HC.out.lt
      have hC5 := HC.out.below hb5
      have hY4 := (HY4.out.keep (HB.out.block (w.heap.size + 1) (by omega))).below hb5
      have c0 := hC5.cell 0
      have c1 := hC5.cell 1
      have c2 := hC5.cell 2
      have f2 := hC5.free 2
      have e0 := hY4.cell 0
      have e1 := hY4.cell 1
      have e2 := hY4.cell 2
      have g0 := hY4.free 0
      have g1 := hY4.free 1
      have g2 := hY4.free 2
      simp at c0 c1 c2 e0 e1 e2
      rw [HRB.out] at hkb
      have hlb : p.body.length = (ren f t p).body.length := by show _ = (renB f t p.body).length; rw [renB_len]
      have hY5 := hY4.keep (Below.heap_setCell w5 ⟨w3.heap.size, 2, none⟩ (.slice pb p.body.length qb) (w.heap.size + 1) (show w.heap.size + 1 ≠ w3.heap.size by omega))
      have hY8 := ((hY5.set 0 (u := .string p.name)).set 1 (u := .slice pl lt.length ql)).set 2 (u := .slice pb p.body.length qb)
      have q0 := hY8.cell 0
      have q1 := hY8.cell 1
      have q2 := hY8.cell 2
      simp at q0 q1 q2
      have hO5 := HO.out.below hb5
      have hst : Stays (fun j => j < w3.heap.size + 1) (fun j => j < w3.heap.size + 1) w5 ((((w5.setCell ⟨w3.heap.size, 2, none⟩ (.slice pb p.body.length qb)).setCell ⟨w.heap.size + 1, 0, none⟩ (.string p.name)).setCell ⟨w.heap.size + 1, 1, none⟩ (.slice pl lt.length ql)).setCell ⟨w.heap.size + 1, 2, none⟩ (.slice pb p.body.length qb)) := ⟨fun j _ hz => by
        rw [Below.heap_setCell _ _ _ _ (show j ≠ w.heap.size + 1 by omega), Below.heap_setCell _ _ _ _ (show j ≠ w.heap.size + 1 by omega), Below.heap_setCell _ _ _ _ (show j ≠ w.heap.size + 1 by omega), Below.heap_setCell _ _ _ _ (show j ≠ w3.heap.size by omega)], fun j hj => Or.inl hj⟩
      have hO6 := hO5.next hst
      obtain ⟨_, _, hsh, hle⟩ := HO.out.shape
      have hq : lt.length ≤ ql := by injection hsh with h1 h2 h3; omega
      have hzr := HB.out.size
      have hk6 := (hkb.next (Z' := fun j => j < w3.heap.size + 1) (w' := w5) ⟨fun _ _ _ => rfl, fun j hj => Or.inl (show j < wr.heap.size by omega)⟩).next hst
      have HV : Hid (GivesP w (ren f t p) (.returned (.agg #[.string p.name, .slice pl lt.length ql, .slice pb p.body.length qb])) ((((w5.setCell ⟨w3.heap.size, 2, none⟩ (.slice pb p.body.length qb)).setCell ⟨w.heap.size + 1, 0, none⟩ (.string p.name)).setCell ⟨w.heap.size + 1, 1, none⟩ (.slice pl lt.length ql)).setCell ⟨w.heap.size + 1, 2, none⟩ (.slice pb p.body.length qb))) := by
        refine ⟨pl, ql, pb, qb, ?_, PrF.next (Z := fun j => j < w3.heap.size + 1) ⟨?_, hk6⟩ ⟨fun _ _ _ => rfl, fun j hj => Or.inl (show j < w3.heap.size + 1 by omega)⟩, ?_, ?_⟩
        · rw [hlb, HXR.out]; rfl
        · rw [← HXR.out]; exact hO6.pms
        · rw [← HXR.out]; exact hq
        · exact ((((HBB.out.trans (hb5.mono HBB.out.size)).setCell (p := ⟨w3.heap.size, 2, none⟩) (show w.heap.size ≤ w3.heap.size by omega) _).setCell (p := ⟨w.heap.size + 1, 0, none⟩) (Nat.le_succ _) _).setCell (p := ⟨w.heap.size + 1, 1, none⟩) (Nat.le_succ _) _).setCell (p := ⟨w.heap.size + 1, 2, none⟩) (Nat.le_succ _) _
      clear hO5 hst hO6 hsh hle hq hk6 hkb hb5 hC5 hY4 hY5 hY8 hlb
      go_wp2_with fail
      refine bodyPost_ret (v := .agg #[.string p.name, .slice pl lt.length ql, .slice pb p.body.length qb]) (by simp [results, Try.results64, go_sem, q0, q1, q2]) rfl ?_
      exact HV.out
end Go.Proofs.Ytffamknoamknpaa.A
namespace Go.Proofs.Ytffamknoamknpaa.A
open Go.RowKit
open L (Str isName prt size_len below_2 below_box ret_bool ret_int eql_eq bytes_eq)

set_option maxHeartbeats 4000000 in
set_option maxRecDepth 100000 in
theorem visO {w0 : World} {B C : Nat} {x : ByteArray} (hB : w0.heap.size ≤ B) (hx : w0.cell? ⟨C, 0, none⟩ = some (.string x)) : VisO ⟨B, 0, none⟩ ⟨C, 0, none⟩ (gO x) w0 (Jb B (fun b => .bool b)) := by
  refine ⟨fun n X b u ps pe w _ hX hJ hb0 hat _ => ?_, Jb.keep, Jb.wide, Jb.narrow⟩
  have hw := below_box w (.cells #[.pointer ps, .pointer pe, .int .i64 (u.d : Int)] 60)
  obtain ⟨n1, n2, n3⟩ := hJ.1.later hw
  have c2 := ((hb0.trans (hw.mono hb0.size)).cell (block_lt_of_cell hx)).trans hx
  have HG : Hid (gO x b u = ((b || saysU x u), !(b || saysU x u))) := rfl
  have HSt := Lib.hid (fun b2 => Jb.store (m := n + 1) (s2 := b2) hX hB hJ (below_2 hw (L.below_drew _)) hb0.size)
  have HSm := Lib.hid (Jb.same (m := n + 1) hX hJ hw hb0.size)
  rw [HG.out]
  cases u with
  | st s d =>
    obtain ⟨bk, i, rfl, rfl, hat⟩ := hat
    simp only [U.d] at *
    obtain ⟨a1, c1, a2', c2', a3, c3, a4, c4, hcc, _⟩ := (hat.below hb0).open
    have k1 := (hcc.below hw).k1
    have hsay : saysU x (.st s d) = decide (s.name = x) := rfl
    rw [hsay, ← bytes_dec]
    obtain ⟨v, hv⟩ : ∃ v, (s.name.toList == x.toList) = v := ⟨_, rfl⟩
    rw [hv]
    unfold nodeV
    clear hw hJ hb0 hX hat hcc hsay HG
    cases b <;> cases v
    all_goals
      go_enter Try.func90, Try.ntmps90
      go_wp2_with fail
      go_region
      all_goals
        go_wp2_with fail
        go_ret
        exact ⟨rfl, HSt.out _⟩
  | ex e d =>
    obtain ⟨bk, i, rfl, rfl, hat⟩ := hat
    simp only [U.d] at *
    obtain ⟨a, c, hf, _⟩ := (hat.below hb0).four
    obtain ⟨k0, _, k2, _⟩ := hf.below hw
    have hsay : saysU x (.ex e d) = (decide (e.op = 3) && decide (e.s = x)) := rfl
    rw [hsay, ← bytes_dec, ← Bool.beq_eq_decide_eq]
    obtain ⟨v, hv⟩ : ∃ v, (e.s.toList == x.toList) = v := ⟨_, rfl⟩
    obtain ⟨o, ho⟩ : ∃ v, (e.op == 3) = v := ⟨_, rfl⟩
    rw [hv, ho]
    unfold nodeV
    clear hw hJ hb0 hX hat hf hsay HG
    cases o
    · rw [Bool.false_and, Bool.or_false]
      go_enter Try.func90, Try.ntmps90
      go_wp2_with fail
      go_ret
      exact ⟨rfl, HSm.out⟩
    · cases b <;> cases v
      all_goals
        go_enter Try.func90, Try.ntmps90
        go_wp2_with fail
        go_region
        all_goals
          go_wp2_with fail
          go_ret
          exact ⟨rfl, HSt.out _⟩
theorem ocontains_any (l : List ByteArray) (a : Option Addr) (c : Nat) (x : ByteArray) (hl : l.length ≤ 1000000) (w : World) (h : StrsAt w a l) :
    Calls Try.prog 61 #[.slice a l.length c, .string x] w fun e w' => e = .returned (.bool (l.any (fun y => decide (y = x)))) ∧ w' = w := by
  rcases h with rfl | ⟨b, i, rfl, h⟩
  · exact Try.slices_Contains_string_empty a c x w
  · have := Try.slices_Contains_string b i l.length c l x w (Nat.le_refl _) (by omega) (fun j hj => by rw [h j hj]; simp [List.getD, List.getElem?_eq_getElem hj])
    rw [List.take_length] at this
    have hv : Lib.containsS l x = l.any (fun y => decide (y = x)) := by
      rw [Bool.eq_iff_iff, Lib.containsS_iff, any_mem]
    rw [hv] at this
    exact this
theorem occurs_names (p : Pr) (x : ByteArray) : ((names p).any (fun y => decide (y = x)) || (walk p).any (V.says x)) = occurs p x := by
  unfold names occurs
  rw [List.any_append, List.any_map]
  have h : ((walk p).filterMap V.decl).any (fun y => decide (y = x)) = true → (walk p).any (V.says x) = true := by
    intro h
    obtain ⟨y, hy, hd⟩ := List.any_eq_true.1 h
    obtain ⟨v, hv, hvd⟩ := List.mem_filterMap.1 hy
    refine List.any_eq_true.2 ⟨v, hv, ?_⟩
    cases v with
    | ex e r => cases hvd
    | st s d =>
      unfold V.decl at hvd
      simp only at hvd
      split at hvd
      · cases hvd; exact hd
      · cases hvd
  show ((p.params.any (fun q => decide (q.name = x)) || _) || _) = _
  cases h1 : p.params.any (fun q => decide (q.name = x))
  · cases h2 : ((walk p).filterMap V.decl).any (fun y => decide (y = x))
    · rfl
    · rw [h h2]; rfl
  · rfl
theorem names_len (p : Pr) (hpl : p.params.length ≤ 1000) : (names p).length ≤ 2000 := by
  unfold names
  rw [List.length_append, List.length_map]
  have h1 := List.length_filterMap_le V.decl (walk p)
  have h2 : (walk p).length ≤ 401 := by unfold walk; rw [List.length_take]; omega
  omega
set_option maxHeartbeats 4000000 in
set_option maxRecDepth 100000 in
theorem ooccurs_any (p : Pr) (a1 a2 : Option Addr) (c1 c2 : Nat) (x : ByteArray) (hok : OkP p) (hsz : cB p.body ≤ 900000) (hpl : p.params.length ≤ 1000) (hps : ∀ j (h : j < p.params.length), p.params[j].name.size ≤ 281474976710656) (w : World) (hK : PrIn w p a1 a2) :
    Calls Try.prog 62 #[prV p a1 c1 a2 c2, .string x] w fun e' w' => e' = .returned (.bool (occurs p x)) ∧ Below w.heap.size w w' := by
  have hw := below_2 (below_box w (prO p a1 c1 a2 c2)) (below_box _ (.cells #[.string x] 9))
  have hx2 := (Bx.new w #[.string p.name, .slice a1 p.params.length c1, .slice a2 p.body.length c2] 35).below (below_box _ (.cells #[.string x] 9))
  have hx3 := Bx.new (w.alloc (prO p a1 c1 a2 c2)) #[.string x] 9
  rw [show (w.alloc (prO p a1 c1 a2 c2)).heap.size = w.heap.size + 1 by simp] at hx3
  have hn := names_len p hpl
  obtain ⟨v, hv⟩ : ∃ v, (names p).any (fun y => decide (y = x)) = v := ⟨_, rfl⟩
  have hoc := occurs_names p x
  rw [hv, ← says_run x p v] at hoc
  rw [← hoc]
  unfold prO at *
  generalize hw2 : (w.alloc (.cells #[.string p.name, .slice a1 p.params.length c1, .slice a2 p.body.length c2] 35)).alloc (.cells #[.string x] 9) = w2 at *
  have hHN := fun w' (hb : Below w2.heap.size w2 w') => onames_any p a1 a2 c1 c2 hok hsz hpl hps w' (hK.below (below_2 hw hb))
  have hCt := fun (a : Option Addr) (c : Nat) w' (h : StrsAt w' a (names p)) => ocontains_any (names p) a c x (by omega) w' h
  rw [hv] at hCt
  have c3 := hx3.cell 0
  simp at c3
  have hWK := fun (B : Nat) (hB : w2.heap.size ≤ B) (w' : World) (hJ : Jb B (fun b => .bool b) 0 (fun _ => False) v w') (hb : Below w2.heap.size w2 w') => owalkO_any (visO (w0 := w2) hB c3) p a1 c1 a2 c2 hok.body hok.bodyLen (by omega) (hK.below hw).body v w' hJ hb
  have HN := Lib.hid hHN
  have HCt := Lib.hid hCt
  have HWK := Lib.hid hWK
  have HX2 := Lib.hid hx2
  have HX3 := Lib.hid hx3
  have HW := Lib.hid hw
  have x0 := hx2.cell 0
  have x1 := hx2.cell 1
  have x2 := hx2.cell 2
  simp at x0 x1 x2
  generalize (run (gO x) v (walkU p)).1 = r at HWK ⊢
  unfold prV at *
  clear hHN hCt hWK hx2 hx3 hw hok hsz hps hK hoc hv
  go_enter Try.func62, Try.ntmps62
  go_upto_region 1 with fail
  clear hw2
  go_cut [5] from 5 to 9 (fun v5 wx => ∃ B, v5 = .pointer (some ⟨B, 0, none⟩) ∧ Cell1 B (.bool v) wx ∧ w2.heap.size ≤ B ∧ Below w2.heap.size w2 wx)
  case first =>
    have hd1 := L.below_drew w2
    have hd2 := (below_box w2 (.cells #[.bool false] 4)).drew
    have HD1 := Lib.hid hd1
    have HD2 := Lib.hid hd2
    have HN1 := Lib.hid (HN.out w2.drew hd1)
    have HN2 := Lib.hid (HN.out (w2.alloc (.cells #[.bool false] 4)).drew hd2)
    have ne0 := World.new_ne w2 _ x0
    have ne1 := World.new_ne w2 _ x1
    have ne2 := World.new_ne w2 _ x2
    have ne3 := World.new_ne w2 _ c3
    clear hd1 hd2
    go_region_held3 (fun w' => w'.cell? ⟨w.heap.size + 1, 0, none⟩ = some (.string x) ∧ w'.cell? ⟨w.heap.size, 0, none⟩ = some (.string p.name) ∧ w'.cell? ⟨w.heap.size, 1, none⟩ = some (.slice a1 p.params.length c1) ∧ w'.cell? ⟨w.heap.size, 2, none⟩ = some (.slice a2 p.body.length c2)) (first | exact ⟨y3, z0, z1, z2⟩ | go_keep)
      (first
        | (go_at_call 27; (with_reducible refine HN1.out.mono ?_); rintro e' wN ⟨pn, qn, rfl, hqn, hsn, hbn⟩; have HSn := Lib.hid hsn; have HBn := Lib.hid (below_2 HD1.out hbn); have hy3 := (HX3.out.below HBn.out).cell 0; have y3 : wN.cell? ⟨w.heap.size + 1, 0, none⟩ = some (.string x) := hy3; have hz := HX2.out.below HBn.out; have z0 := hz.cell 0; have z1 := hz.cell 1; have z2 := hz.cell 2; simp at z0 z1 z2; have ma := World.new_ne wN _ z0; have mb := World.new_ne wN _ z1; have mc := World.new_ne wN _ z2; have md := World.new_ne wN _ y3; have y4 : (wN.alloc (.cells #[.bool false] 4)).cell? ⟨w.heap.size + 1, 0, none⟩ = some (.string x) := ((below_box wN _).cell (block_lt_of_cell y3)).trans y3; clear hsn hbn hy3 hz)
        | (go_at_call 27; (with_reducible refine HN2.out.mono ?_); rintro e' wN ⟨pn, qn, rfl, hqn, hsn, hbn⟩; have HSn := Lib.hid hsn; have HBn := Lib.hid (below_2 HD2.out hbn); have HBf := Lib.hid hbn; have hy3 := (HX3.out.below HBn.out).cell 0; have y3 : wN.cell? ⟨w.heap.size + 1, 0, none⟩ = some (.string x) := hy3; have hcell := ((cell1_at (v := .bool false) (t := 4) (w := w2) rfl).later (L.below_drew _)).later HBf.out; obtain ⟨b1, b2, b3⟩ := hcell; have hz := HX2.out.below HBn.out; have z0 := hz.cell 0; have z1 := hz.cell 1; have z2 := hz.cell 2; simp at z0 z1 z2; clear hsn hbn hy3 hz)
        | (go_at_call 61; refine (HCt.out _ _ _ HSn.out).mono ?_; rintro e' wC ⟨rfl, hwc⟩; subst hwc)
        | (go_at_call 61; refine (HCt.out _ _ _ (HSn.out.below (below_box _ _))).mono ?_; rintro e' wC ⟨rfl, hwc⟩; subst hwc))
    all_goals
      go_wp2_with fail
      go_meet
      first
        | exact ⟨_, rfl, cell1_at rfl, HBn.out.size, below_2 HBn.out (below_box _ _)⟩
        | exact ⟨_, rfl, (⟨b1, b2, b3⟩ : Cell1 _ (.bool false) _).set, Nat.le_refl _, HBn.out.setCell (Nat.le_refl _) _⟩
  case rest =>
    obtain ⟨B, rfl, hC, hB, hb⟩ := hcut
    have hX := HX2.out.below hb
    have z0 := hX.cell 0
    have z1 := hX.cell 1
    have z2 := hX.cell 2
    simp at z0 z1 z2
    have HC := Lib.hid (HWK.out B hB wc ⟨hC, fun h => h⟩ hb)
    have HB := Lib.hid (below_2 HW.out hb)
    have HZ := Lib.hid HW.out.size
    clear hC hB hb hX x0 x1 x2 c3
    go_wp2_with fail
    refine HC.out.mono ?_; rintro e' w5 ⟨rfl, ⟨_, hj, _⟩, hb5⟩
    have n0 := hj.cell
    have HB5 := Lib.hid (HB.out.trans (hb5.mono HZ.out))
    clear hj hb5
    go_wp2_with fail
    go_ret
    exact ⟨rfl, HB5.out⟩
end Go.Proofs.Ytffamknoamknpaa.A
namespace Go.Proofs.Ytffamknoamknpaa.A
open Go.RowKit
open L (Str isName prt size_len below_2 below_box ret_bool ret_int eql_eq bytes_eq)

/-- what Rename leaves: a procedure in memory and an error -/
def GivesRn (w : World) (r : Pr × Int) (e' : Ending) (w' : World) : Prop := ∃ p1 q1 p2 q2, e' = .returned (.tuple #[prV r.1 p1 q1 p2 q2, .int .i64 r.2]) ∧ PrIn w' r.1 p1 p2 ∧ r.1.params.length ≤ q1 ∧ Below w.heap.size w w'
theorem rename_1 {p : Pr} {f t : ByteArray} (h : valE p ≠ 0) : rename p f t = (noPr, 1) := by unfold rename; rw [if_pos h]
theorem rename_7 {p : Pr} {f t : ByteArray} (h : valE p = 0) (h2 : nam t = false) : rename p f t = (noPr, 7) := by unfold rename; rw [if_neg (fun x => x h), if_pos h2]
theorem rename_9 {p : Pr} {f t : ByteArray} (h : valE p = 0) (h2 : nam t = true) (h3 : (names p).any (fun x => decide (x = f)) = false) : rename p f t = (noPr, 9) := by unfold rename; rw [if_neg (fun x => x h), if_neg (by rw [h2]; decide), if_pos h3]
theorem rename_8 {p : Pr} {f t : ByteArray} (h : valE p = 0) (h2 : nam t = true) (h3 : (names p).any (fun x => decide (x = f)) = true) (h4 : occurs p t = true) : rename p f t = (noPr, 8) := by unfold rename; rw [if_neg (fun x => x h), if_neg (by rw [h2]; decide), if_neg (by rw [h3]; decide), if_pos h4]
theorem rename_0 {p : Pr} {f t : ByteArray} (h : valE p = 0) (h2 : nam t = true) (h3 : (names p).any (fun x => decide (x = f)) = true) (h4 : occurs p t = false) : rename p f t = (ren f t p, 0) := by unfold rename; rw [if_neg (fun x => x h), if_neg (by rw [h2]; decide), if_neg (by rw [h3]; decide), if_neg (by rw [h4]; decide)]
set_option maxHeartbeats 8000000 in
set_option maxRecDepth 100000 in
theorem orename_any (p : Pr) (a1 a2 : Option Addr) (c1 c2 : Nat) (f t : ByteArray) (hok : OkP p) (hsz : cB p.body ≤ 900000) (hpl : p.params.length ≤ 1000) (hc1 : p.params.length ≤ c1) (hnm : p.name.size ≤ 281474976710656) (hts : t.size ≤ 281474976710656) (hps : ∀ j (h : j < p.params.length), p.params[j].name.size ≤ 281474976710656) (w : World) (hK : PrIn w p a1 a2) :
    Calls Try.prog 32 #[prV p a1 c1 a2 c2, .string f, .string t] w fun e' w' => GivesRn w (rename p f t) e' w' := by
  have hw1 := below_box w (prO p a1 c1 a2 c2)
  have hw2 := below_box (w.alloc (prO p a1 c1 a2 c2)) (.cells #[.string f] 9)
  have hw3 := below_box ((w.alloc (prO p a1 c1 a2 c2)).alloc (.cells #[.string f] 9)) (.cells #[.string t] 9)
  have hw4 := below_box (((w.alloc (prO p a1 c1 a2 c2)).alloc (.cells #[.string f] 9)).alloc (.cells #[.string t] 9)) (.cells #[.string ⟨#[]⟩, .slice none 0 0, .slice none 0 0] 35)
  have hx3 := (Bx.new w #[.string p.name, .slice a1 p.params.length c1, .slice a2 p.body.length c2] 35).below (below_2 hw2 (below_2 hw3 hw4))
  have hx4 := (Bx.new (w.alloc (prO p a1 c1 a2 c2)) #[.string f] 9).below (below_2 hw3 hw4)
  have hx5 := (Bx.new ((w.alloc (prO p a1 c1 a2 c2)).alloc (.cells #[.string f] 9)) #[.string t] 9).below hw4
  have hx6 := Bx.new (((w.alloc (prO p a1 c1 a2 c2)).alloc (.cells #[.string f] 9)).alloc (.cells #[.string t] 9)) #[.string ⟨#[]⟩, .slice none 0 0, .slice none 0 0] 35
  have hw := below_2 hw1 (below_2 hw2 (below_2 hw3 hw4))
  rw [show (w.alloc (prO p a1 c1 a2 c2)).heap.size = w.heap.size + 1 by simp] at hx4
  rw [show ((w.alloc (prO p a1 c1 a2 c2)).alloc (.cells #[.string f] 9)).heap.size = w.heap.size + 2 by simp] at hx5
  rw [show (((w.alloc (prO p a1 c1 a2 c2)).alloc (.cells #[.string f] 9)).alloc (.cells #[.string t] 9)).heap.size = w.heap.size + 3 by simp] at hx6
  unfold prO at *
  clear hw1 hw2 hw3 hw4
  generalize hwe : (((w.alloc (.cells #[.string p.name, .slice a1 p.params.length c1, .slice a2 p.body.length c2] 35)).alloc (.cells #[.string f] 9)).alloc (.cells #[.string t] 9)).alloc (.cells #[.string ⟨#[]⟩, .slice none 0 0, .slice none 0 0] 35) = w4 at *
  have hn := names_len p hpl
  have x4 := hx4.cell 0
  have x5 := hx5.cell 0
  simp at x4 x5
  have HVal := Lib.hid (fun w' (hb : Below w4.heap.size w4 w') => ovalidate_any p a1 a2 c1 c2 hok hsz hc1 w' (hK.below (below_2 hw hb)))
  have HIs : Hid (∀ w', Calls Try.prog 42 #[.string t] w' fun e' w'' => e' = .returned (.bool (nam t)) ∧ Below w'.heap.size w' w'') := fun w' => L.oname_any t w'
  have HN := Lib.hid (fun w' (hb : Below w4.heap.size w4 w') => onames_any p a1 a2 c1 c2 hok hsz hpl hps w' (hK.below (below_2 hw hb)))
  have HCt := Lib.hid (fun (a : Option Addr) (c : Nat) w' (h : StrsAt w' a (names p)) => ocontains_any (names p) a c f (by omega) w' h)
  have HOc := Lib.hid (fun w' (hb : Below w4.heap.size w4 w') => ooccurs_any p a1 a2 c1 c2 t hok hsz hpl hps w' (hK.below (below_2 hw hb)))
  have HCp := Lib.hid (fun w' (hb : Below w4.heap.size w4 w') => ocopiedProc_any (namR (w0 := w4) x4 x5 hts) p a1 a2 c1 c2 hok hnm (by omega) hpl hps w' (hK.below (below_2 hw hb)) hb)
  have HX3 := Lib.hid hx3
  have HX4 := Lib.hid hx4
  have HX5 := Lib.hid hx5
  have HX6 := Lib.hid hx6
  have HW := Lib.hid hw
  have R1 := Lib.hid (@rename_1 p f t)
  have R7 := Lib.hid (@rename_7 p f t)
  have R9 := Lib.hid (@rename_9 p f t)
  have R8 := Lib.hid (@rename_8 p f t)
  have R0 := Lib.hid (@rename_0 p f t)
  have y0 := hx3.cell 0
  have y1 := hx3.cell 1
  have y2 := hx3.cell 2
  simp at y0 y1 y2
  have HB := Lib.hid (Below.refl w4.heap.size w4)
  obtain ⟨v, hv⟩ : ∃ v, valE p = v := ⟨_, rfl⟩
  obtain ⟨n, hnn⟩ : ∃ v, nam t = v := ⟨_, rfl⟩
  obtain ⟨m, hmm⟩ : ∃ v, (names p).any (fun x => decide (x = f)) = v := ⟨_, rfl⟩
  obtain ⟨o, hoo⟩ : ∃ v, occurs p t = v := ⟨_, rfl⟩
  rw [hv] at HVal R1 R7 R9 R8 R0
  rw [hnn] at HIs R7 R9 R8 R0
  rw [hmm] at HCt R9 R8 R0
  rw [hoo] at HOc R8 R0
  unfold prV at HVal HN HOc HCp ⊢
  clear hx3 hx4 hx5 hx6 hw hok hsz hps hK hv hnn hmm hoo hts hnm hc1 hpl
  go_enter Try.func32, Try.ntmps32
  go_wp2_with fail
  refine (HVal.out _ (Below.refl _ _)).mono ?_; rintro e' w5 ⟨rfl, hb⟩
  have HB5 := Lib.hid hb
  clear hb
  by_cases hv0 : ¬ v = 0
  · have bv : (v != 0) = true := bne_iff_ne.2 hv0
    have HR := Lib.hid (R1.out hv0)
    clear hv0
    have hz6 := HX6.out.below HB5.out
    have e0 := hz6.cell 0
    have e1 := hz6.cell 1
    have e2 := hz6.cell 2
    have g0 := hz6.free 0
    have g1 := hz6.free 1
    have g2 := hz6.free 2
    have hq6 := ((hz6.set 0 (u := .string ⟨#[]⟩)).set 1 (u := .slice none 0 0)).set 2 (u := .slice none 0 0)
    have q0 := hq6.cell 0
    have q1 := hq6.cell 1
    have q2 := hq6.cell 2
    simp at e0 e1 e2 q0 q1 q2
    have HVx : Hid (GivesRn w (rename p f t) (.returned (.tuple #[.agg #[.string ⟨#[]⟩, .slice none 0 0, .slice none 0 0], .int .i64 1])) (((w5.setCell ⟨w.heap.size + 3, 0, none⟩ (.string ⟨#[]⟩)).setCell ⟨w.heap.size + 3, 1, none⟩ (.slice none 0 0)).setCell ⟨w.heap.size + 3, 2, none⟩ (.slice none 0 0))) := by
      show GivesRn _ _ _ _
      rw [HR.out]
      exact ⟨none, 0, none, 0, rfl, ⟨Or.inl rfl, Or.inl rfl⟩, Nat.le_refl _, (((HW.out.trans (HB5.out.mono HW.out.size)).setCell (p := ⟨w.heap.size + 3, 0, none⟩) (Nat.le_add_right _ _) _).setCell (p := ⟨w.heap.size + 3, 1, none⟩) (Nat.le_add_right _ _) _).setCell (p := ⟨w.heap.size + 3, 2, none⟩) (Nat.le_add_right _ _) _⟩
    clear hz6 hq6
    go_wp2_with fail
    refine bodyPost_ret (v := .tuple #[.agg #[.string ⟨#[]⟩, .slice none 0 0, .slice none 0 0], .int .i64 1]) (by simp [results, Try.results32, go_sem, q0, q1, q2]) rfl ?_
    exact HVx.out
  have hv0 := Decidable.not_not.1 hv0
  have bv : (v != 0) = false := by rw [bne_eq_false_iff_eq]; exact hv0
  have HV0 := Lib.hid hv0
  clear hv0
  have z5 := (HX5.out.below HB5.out).cell 0
  simp at z5
  go_wp2_with fail
  refine (HIs.out _).mono ?_; rintro e' w6 ⟨rfl, hb⟩
  have HB6 := Lib.hid (below_2 HB5.out hb)
  clear hb
  cases n
  · have HR := Lib.hid (R7.out HV0.out (by trivial))
    have hz6 := HX6.out.below HB6.out
    have e0 := hz6.cell 0
    have e1 := hz6.cell 1
    have e2 := hz6.cell 2
    have g0 := hz6.free 0
    have g1 := hz6.free 1
    have g2 := hz6.free 2
    have hq6 := ((hz6.set 0 (u := .string ⟨#[]⟩)).set 1 (u := .slice none 0 0)).set 2 (u := .slice none 0 0)
    have q0 := hq6.cell 0
    have q1 := hq6.cell 1
    have q2 := hq6.cell 2
    simp at e0 e1 e2 q0 q1 q2
    have HVx : Hid (GivesRn w (rename p f t) (.returned (.tuple #[.agg #[.string ⟨#[]⟩, .slice none 0 0, .slice none 0 0], .int .i64 7])) (((w6.setCell ⟨w.heap.size + 3, 0, none⟩ (.string ⟨#[]⟩)).setCell ⟨w.heap.size + 3, 1, none⟩ (.slice none 0 0)).setCell ⟨w.heap.size + 3, 2, none⟩ (.slice none 0 0))) := by
      show GivesRn _ _ _ _
      rw [HR.out]
      exact ⟨none, 0, none, 0, rfl, ⟨Or.inl rfl, Or.inl rfl⟩, Nat.le_refl _, (((HW.out.trans (HB6.out.mono HW.out.size)).setCell (p := ⟨w.heap.size + 3, 0, none⟩) (Nat.le_add_right _ _) _).setCell (p := ⟨w.heap.size + 3, 1, none⟩) (Nat.le_add_right _ _) _).setCell (p := ⟨w.heap.size + 3, 2, none⟩) (Nat.le_add_right _ _) _⟩
    clear hz6 hq6
    go_wp2_with fail
    refine bodyPost_ret (v := .tuple #[.agg #[.string ⟨#[]⟩, .slice none 0 0, .slice none 0 0], .int .i64 7]) (by simp [results, Try.results32, go_sem, q0, q1, q2]) rfl ?_
    exact HVx.out
  have hX36 := HX3.out.below HB6.out
  have m0 := hX36.cell 0
  have m1 := hX36.cell 1
  have m2 := hX36.cell 2
  have m4 := (HX4.out.below HB6.out).cell 0
  simp at m0 m1 m2 m4
  clear hX36
  have HNd := Lib.hid (HN.out w6.drew (HB6.out.drew))
  go_wp2_with fail
  go_region_held3 (fun w' => w'.cell? ⟨w.heap.size + 1, 0, none⟩ = some (.string f) ∧ w'.cell? ⟨w.heap.size, 0, none⟩ = some (.string p.name) ∧ w'.cell? ⟨w.heap.size, 1, none⟩ = some (.slice a1 p.params.length c1) ∧ w'.cell? ⟨w.heap.size, 2, none⟩ = some (.slice a2 p.body.length c2)) (first | exact ⟨j4, j0, j1, j2⟩ | go_keep)
    (first
      | (go_at_call 27; (with_reducible refine HNd.out.mono ?_); rintro e' wN ⟨pn, qn, rfl, hqn, hsn, hbn⟩; have HSn := Lib.hid hsn; have HBn := Lib.hid (below_2 HB6.out (below_2 (L.below_drew _) hbn)); have hxn := HX3.out.below HBn.out; have j0 := hxn.cell 0; have j1 := hxn.cell 1; have j2 := hxn.cell 2; have j4 := (HX4.out.below HBn.out).cell 0; have j5 := (HX5.out.below HBn.out).cell 0; simp at j0 j1 j2 j4 j5; clear hsn hbn hxn hqn)
      | (go_at_call 61; refine (HCt.out _ _ _ HSn.out).mono ?_; rintro e' wC ⟨rfl, hwc⟩; obtain rfl : wN = wC := hwc.symm))
  cases m
  · have HR := Lib.hid (R9.out HV0.out (by trivial) (by trivial))
    have hz6 := HX6.out.below HBn.out
    have e0 := hz6.cell 0
    have e1 := hz6.cell 1
    have e2 := hz6.cell 2
    have g0 := hz6.free 0
    have g1 := hz6.free 1
    have g2 := hz6.free 2
    have hq6 := ((hz6.set 0 (u := .string ⟨#[]⟩)).set 1 (u := .slice none 0 0)).set 2 (u := .slice none 0 0)
    have q0 := hq6.cell 0
    have q1 := hq6.cell 1
    have q2 := hq6.cell 2
    simp at e0 e1 e2 q0 q1 q2
    have HVx : Hid (GivesRn w (rename p f t) (.returned (.tuple #[.agg #[.string ⟨#[]⟩, .slice none 0 0, .slice none 0 0], .int .i64 9])) (((wN.setCell ⟨w.heap.size + 3, 0, none⟩ (.string ⟨#[]⟩)).setCell ⟨w.heap.size + 3, 1, none⟩ (.slice none 0 0)).setCell ⟨w.heap.size + 3, 2, none⟩ (.slice none 0 0))) := by
      show GivesRn _ _ _ _
      rw [HR.out]
      exact ⟨none, 0, none, 0, rfl, ⟨Or.inl rfl, Or.inl rfl⟩, Nat.le_refl _, (((HW.out.trans (HBn.out.mono HW.out.size)).setCell (p := ⟨w.heap.size + 3, 0, none⟩) (Nat.le_add_right _ _) _).setCell (p := ⟨w.heap.size + 3, 1, none⟩) (Nat.le_add_right _ _) _).setCell (p := ⟨w.heap.size + 3, 2, none⟩) (Nat.le_add_right _ _) _⟩
    clear hz6 hq6
    go_wp2_with fail
    refine bodyPost_ret (v := .tuple #[.agg #[.string ⟨#[]⟩, .slice none 0 0, .slice none 0 0], .int .i64 9]) (by simp [results, Try.results32, go_sem, q0, q1, q2]) rfl ?_
    exact HVx.out
  go_wp2_with fail
  refine (HOc.out _ HBn.out).mono ?_; rintro e' w7 ⟨rfl, hb⟩
  have HB7 := Lib.hid (below_2 HBn.out hb)
  clear hb
  cases o
  case true =>
    have HR := Lib.hid (R8.out HV0.out (by trivial) (by trivial) (by trivial))
    have hz6 := HX6.out.below HB7.out
    have e0 := hz6.cell 0
    have e1 := hz6.cell 1
    have e2 := hz6.cell 2
    have g0 := hz6.free 0
    have g1 := hz6.free 1
    have g2 := hz6.free 2
    have hq6 := ((hz6.set 0 (u := .string ⟨#[]⟩)).set 1 (u := .slice none 0 0)).set 2 (u := .slice none 0 0)
    have q0 := hq6.cell 0
    have q1 := hq6.cell 1
    have q2 := hq6.cell 2
    simp at e0 e1 e2 q0 q1 q2
    have HVx : Hid (GivesRn w (rename p f t) (.returned (.tuple #[.agg #[.string ⟨#[]⟩, .slice none 0 0, .slice none 0 0], .int .i64 8])) (((w7.setCell ⟨w.heap.size + 3, 0, none⟩ (.string ⟨#[]⟩)).setCell ⟨w.heap.size + 3, 1, none⟩ (.slice none 0 0)).setCell ⟨w.heap.size + 3, 2, none⟩ (.slice none 0 0))) := by
      show GivesRn _ _ _ _
      rw [HR.out]
      exact ⟨none, 0, none, 0, rfl, ⟨Or.inl rfl, Or.inl rfl⟩, Nat.le_refl _, (((HW.out.trans (HB7.out.mono HW.out.size)).setCell (p := ⟨w.heap.size + 3, 0, none⟩) (Nat.le_add_right _ _) _).setCell (p := ⟨w.heap.size + 3, 1, none⟩) (Nat.le_add_right _ _) _).setCell (p := ⟨w.heap.size + 3, 2, none⟩) (Nat.le_add_right _ _) _⟩
    clear hz6 hq6
    go_wp2_with fail
    refine bodyPost_ret (v := .tuple #[.agg #[.string ⟨#[]⟩, .slice none 0 0, .slice none 0 0], .int .i64 8]) (by simp [results, Try.results32, go_sem, q0, q1, q2]) rfl ?_
    exact HVx.out
  have HR := Lib.hid (R0.out HV0.out (by trivial) (by trivial) (by trivial))
  have hX37 := HX3.out.below HB7.out
  have i0 := hX37.cell 0
  have i1 := hX37.cell 1
  have i2 := hX37.cell 2
  simp at i0 i1 i2
  clear hX37
  go_wp2_with fail
  refine (HCp.out _ HB7.out).mono ?_; rintro e' w8 ⟨p1, q1', p2, q2', rfl, hin, hle, hb⟩
  have HB8 := Lib.hid (below_2 HB7.out hb)
  clear hb
  unfold prV
  have hz6 := HX6.out.below HB8.out
  have e0 := hz6.cell 0
  have e1 := hz6.cell 1
  have e2 := hz6.cell 2
  have g0 := hz6.free 0
  have g1 := hz6.free 1
  have g2 := hz6.free 2
  have hq6 := ((hz6.set 0 (u := .string (ren f t p).name)).set 1 (u := .slice p1 (ren f t p).params.length q1')).set 2 (u := .slice p2 (ren f t p).body.length q2')
  have q0 := hq6.cell 0
  have q1 := hq6.cell 1
  have q2 := hq6.cell 2
  simp at e0 e1 e2 q0 q1 q2
  have hin9 : PrIn (((w8.setCell ⟨w.heap.size + 3, 0, none⟩ (.string (ren f t p).name)).setCell ⟨w.heap.size + 3, 1, none⟩ (.slice p1 (ren f t p).params.length q1')).setCell ⟨w.heap.size + 3, 2, none⟩ (.slice p2 (ren f t p).body.length q2')) (ren f t p) p1 p2 := by
    have hlt8 := (HX6.out.below HB7.out).lt
    refine (hin.next (Z' := fun j => j < w7.heap.size) ⟨fun j _ hz => ?_, fun j hj => Or.inl hj⟩).now
    have hne : j ≠ w.heap.size + 3 := by omega
    repeat rw [Below.heap_setCell _ _ _ _ (by exact hne)]
  have HVx : Hid (GivesRn w (rename p f t) (.returned (.tuple #[.agg #[.string (ren f t p).name, .slice p1 (ren f t p).params.length q1', .slice p2 (ren f t p).body.length q2'], .int .i64 0])) (((w8.setCell ⟨w.heap.size + 3, 0, none⟩ (.string (ren f t p).name)).setCell ⟨w.heap.size + 3, 1, none⟩ (.slice p1 (ren f t p).params.length q1')).setCell ⟨w.heap.size + 3, 2, none⟩ (.slice p2 (ren f t p).body.length q2'))) := by
    show GivesRn _ _ _ _
    rw [HR.out]
    exact ⟨p1, q1', p2, q2', rfl, hin9, hle, (((HW.out.trans (HB8.out.mono HW.out.size)).setCell (p := ⟨w.heap.size + 3, 0, none⟩) (Nat.le_add_right _ _) _).setCell (p := ⟨w.heap.size + 3, 1, none⟩) (Nat.le_add_right _ _) _).setCell (p := ⟨w.heap.size + 3, 2, none⟩) (Nat.le_add_right _ _) _⟩
  clear hz6 hq6 hin hin9 hle
  go_wp2_with fail
  refine bodyPost_ret (v := .tuple #[.agg #[.string (ren f t p).name, .slice p1 (ren f t p).params.length q1', .slice p2 (ren f t p).body.length q2'], .int .i64 0]) (by simp [results, Try.results32, go_sem, q0, q1, q2]) rfl ?_
  exact HVx.out
end Go.Proofs.Ytffamknoamknpaa.A
