/-
  What the reference of layer 8 returns: Small: its contract.
  What the reference of layer 8 returns: EqualBody, Equal: contracts.
  What the program's functions of layer 8 return: Rename's function value, copiedStmts: contracts.
  What the program's function Names of layer 8 returns: its contract.
  What the reference of layer 8 returns: uses, swap: contracts.
-/
import Derived.Test.YtnelpgeiioflmaaGreatDoorM05
import Derived.Test.YtnelpgeiioflmaaGreatDoorM07
import Derived.Deep.RegionWith
import Derived.Deep.Cut
import Derived.Deep.CutRange
import Derived.Deep.RegionLaw
namespace Go.Proofs.YtnelpgeiioflmaaGreatDoor.A
open Go.RowKit
open L (Str isName prt size_len below_2 below_box ret_bool ret_int eql_eq bytes_eq)

theorem small_bad {p : Pr} {m k : Nat} (h : k < p.params.length) (h2 : 200 < p.params[k].name.size) : small p m = false := by
  unfold small
  have : p.params.all (fun q => decide (q.name.size ≤ 200)) = false := List.all_eq_false.2 ⟨p.params[k], List.getElem_mem h, by rw [decide_eq_false (by omega)]; decide⟩
  rw [this]; simp
theorem small_long {p : Pr} {m : Nat} (h : 40 < p.params.length) : small p m = false := by unfold small; rw [decide_eq_false (by omega)]; rfl
theorem small_name {p : Pr} {m : Nat} (h : 200 < p.name.size) : small p m = false := by unfold small; rw [decide_eq_false (show ¬ p.name.size ≤ 200 by omega)]; simp
theorem small_end {p : Pr} {m : Nat} (h1 : ¬ 40 < p.params.length) (h2 : ¬ 200 < p.name.size) (h3 : ∀ j (h : j < p.params.length), ¬ 200 < p.params[j].name.size) : small p m = decide (cB p.body ≤ m) := by
  unfold small
  have : p.params.all (fun q => decide (q.name.size ≤ 200)) = true := by
    rw [List.all_eq_true]
    intro q hq
    obtain ⟨j, hj, rfl⟩ := List.getElem_of_mem hq
    exact decide_eq_true (by have := h3 j hj; omega)
  rw [this, decide_eq_true (by omega), decide_eq_true (by omega)]; rfl
set_option maxHeartbeats 4000000 in
set_option maxRecDepth 100000 in
theorem rsmall_any (p : Pr) (a1 : Option Addr) (c1 : Nat) (a2 : Option Addr) (c2 : Nat) (m : Nat) (hm : m ≤ 1000000) (hok : OkP p) (w : World) (hK : PrIn w p a1 a2) :
    Calls Tryz.prog 9 #[prV p a1 c1 a2 c2, .int .i64 (m : Int)] w fun e' w' => e' = .returned (.bool (small p m)) ∧ Below w.heap.size w w' := by
  have hw := below_box w (prO p a1 c1 a2 c2)
  have HW := Lib.hid hw
  have HBL := Lib.hid (fun w' hb => proc_later (w := w) (w' := w') (p := p) (a1 := a1) (a2 := a2) (c1 := c1) (c2 := c2) hb)
  have HKK := Lib.hid hK
  have HC := Lib.hid (fun w hK => rcountBody_any p.body a2 c2 m (by omega) (by omega) hok.bodyLen hok.body w hK)
  have HEa := Lib.hid hok.each
  have hpl := hok.params
  have hnm := hok.name
  have s1 := @small_long p m
  have s2 := @small_name p m
  have s3 : ∀ k (h : k < p.params.length), 200 < p.params[k].name.size → small p m = false := fun k h h2 => small_bad h h2
  have S3 := Lib.hid s3
  have S4 := Lib.hid (@small_end p m)
  obtain ⟨g, hg⟩ : ∃ g, p.params.length = g := ⟨_, rfl⟩
  have HL := Lib.hid hg
  unfold prV prO at *
  rw [hg] at HW HBL hpl s1 ⊢
  clear hw hK hok hg s3
  by_cases h40 : 40 < g
  · have HV := Lib.hid (s1 h40)
    have b1 : decide (40 < (g : Int)) = true := decide_eq_true (by omega)
    clear s1 s2 h40
    go_enter Tryz.func9, Tryz.ntmps9
    go_wp2_with fail
    go_ret
    exact ⟨ret_bool HV.out.symm, HW.out⟩
  · have b1 : decide (40 < (g : Int)) = false := decide_eq_false (by omega)
    by_cases h200 : 200 < p.name.size
    · have HV := Lib.hid (s2 h200)
      have b2 : decide (200 < (p.name.size : Int)) = true := decide_eq_true (by omega)
      clear s1 s2 h200
      go_enter Tryz.func9, Tryz.ntmps9
      go_wp2_with fail
      go_ret
      exact ⟨ret_bool HV.out.symm, HW.out⟩
    · have b2 : decide (200 < (p.name.size : Int)) = false := decide_eq_false (by omega)
      have S5 := Lib.hid (S4.out (by rw [HL.out]; exact h40) h200)
      clear s1 s2
      go_enter Tryz.func9, Tryz.ntmps9
      go_wp2_with fail
      go_loopw [5] (fun s5 wr => ∃ k : Nat, k ≤ g ∧ s5 = .int .i64 k ∧ Hid (∀ j (h : j < p.params.length), j < k → ¬ 200 < p.params[j].name.size) ∧ Hid (Below (w.alloc (.cells #[.string p.name, .slice a1 g c1, .slice a2 p.body.length c2] 25)).heap.size (w.alloc (.cells #[.string p.name, .slice a1 g c1, .slice a2 p.body.length c2] 25)) wr)) (fun s5 _ => g - (intOf s5).toNat)
      case atStart => exact ⟨0, Nat.zero_le _, rfl, fun j _ h => absurd h (Nat.not_lt_zero _), Below.refl _ _⟩
      case round =>
        obtain ⟨k, hk, rfl, HX, HB⟩ := hrel
        obtain ⟨c0', c1', c2'⟩ := HBL.out _ HB.out
        have HBB := Lib.hid (below_2 HW.out HB.out)
        by_cases hlt : k < g
        · have hlx : k < p.params.length := by rw [HL.out]; exact hlt
          obtain ⟨b3, i3, rfl, hc⟩ := (HKK.out.below HBB.out).params.open hlx
          obtain ⟨d0, d1⟩ := hc k hlx
          have hz := HEa.out k hlx
          by_cases hq : 200 < p.params[k].name.size
          · have HV := Lib.hid (S3.out k hlx hq)
            generalize p.params[k] = q at d0 d1 hz hq
            have b3 : decide (200 < (q.name.size : Int)) = true := decide_eq_true (by omega)
            clear hc hq
            go_wp2_with fail
            go_ret
            exact ⟨ret_bool HV.out.symm, HBB.out⟩
          · have HN : Hid (∀ j (h : j < p.params.length), j < k + 1 → ¬ 200 < p.params[j].name.size) := by
              intro j h hj
              by_cases e : j = k
              · subst e; exact hq
              · exact HX.out j h (by omega)
            generalize p.params[k] = q at d0 d1 hz hq
            have b3 : decide (200 < (q.name.size : Int)) = false := decide_eq_false (by omega)
            clear hc hq
            go_wp2_with fail
            go_roundw
            case rel => exact ⟨k + 1, by omega, by go_num, HN, HB.out⟩
            case measure => simp [intOf]; omega
        · have HVs := Lib.hid (S5.out fun j h => HX.out j h (by have := HL.out; omega))
          have HC2 := Lib.hid (HC.out _ (HKK.out.below HBB.out).body)
          generalize cB p.body = x at HC2 HVs
          go_wp2_with fail
          refine HC2.out.mono ?_; rintro e w2 ⟨⟨r, rfl, hr⟩, hb2⟩
          have HV : Hid (decide (r ≤ (m : Int)) = decide (x ≤ m)) := by
            show _ = _
            refine decide_eq_decide.2 ⟨fun h => ?_, fun h => ?_⟩
            · apply Decidable.byContradiction; intro h2; have := hr.core.gt (by omega); omega
            · have := hr.core.eq (by omega); omega
          clear hr
          go_wp2_with fail
          go_ret
          exact ⟨ret_bool (HV.out.trans HVs.out.symm), below_2 HBB.out hb2⟩
end Go.Proofs.YtnelpgeiioflmaaGreatDoor.A
namespace Go.Proofs.YtnelpgeiioflmaaGreatDoor.A
open Go.RowKit
open L (Str isName prt size_len below_2 below_box below_drew ret_bool ret_int eql_eq bytes_eq)

def stO (s : St) (a1 : Option Addr) (c1 : Nat) (a2 : Option Addr) (c2 : Nat) (a3 : Option Addr) (c3 : Nat) (a4 : Option Addr) (c4 : Nat) : Obj :=
  .cells #[.int .i64 s.op, .string s.name, .int .i64 s.mx, .int .i64 s.a.op, .int .i64 s.a.n, .string s.a.s, .slice a1 s.a.args.length c1, .int .i64 s.b.op, .int .i64 s.b.n, .string s.b.s, .slice a2 s.b.args.length c2, .slice a3 s.body.length c3, .slice a4 s.els.length c4] 44
theorem stO_cells (w : World) (s : St) (a1 : Option Addr) (c1 : Nat) (a2 : Option Addr) (c2 : Nat) (a3 : Option Addr) (c3 : Nat) (a4 : Option Addr) (c4 : Nat) : StCells (w.alloc (stO s a1 c1 a2 c2 a3 c3 a4 c4)) s w.heap.size 0 a1 c1 a2 c2 a3 c3 a4 c4 := by
  unfold stO
  exact ⟨by go_simp, by go_simp, by go_simp, by go_simp, by go_simp, by go_simp, by go_simp, by go_simp, by go_simp, by go_simp, by go_simp, by go_simp, by go_simp⟩
end Go.Proofs.YtnelpgeiioflmaaGreatDoor.A
namespace Go.Proofs.YtnelpgeiioflmaaGreatDoor.A
open Go.RowKit
open L (Str isName prt size_len below_2 below_box ret_bool ret_int eql_eq bytes_eq)

/-! ### statements in rows -/

structure SX where
  s : St
  a1 : Option Addr
  c1 : Nat
  a2 : Option Addr
  c2 : Nat
  a3 : Option Addr
  c3 : Nat
  a4 : Option Addr
  c4 : Nat
theorem info_s : (Tryz.prog.info? 44).map (fun i => (i.zero, i.size, i.bytes)) = some (some (.agg #[.int .i64 0, .string ⟨#[]⟩, .int .i64 0, .int .i64 0, .int .i64 0, .string ⟨#[]⟩, .slice none 0 0, .int .i64 0, .int .i64 0, .string ⟨#[]⟩, .slice none 0 0, .slice none 0 0, .slice none 0 0]), 13, 192) := by kernel_rfl
def kS : RowK SX where
  f := fun x => [.int .i64 x.s.op, .string x.s.name, .int .i64 x.s.mx, .int .i64 x.s.a.op, .int .i64 x.s.a.n, .string x.s.a.s, .slice x.a1 x.s.a.args.length x.c1, .int .i64 x.s.b.op, .int .i64 x.s.b.n, .string x.s.b.s, .slice x.a2 x.s.b.args.length x.c2, .slice x.a3 x.s.body.length x.c3, .slice x.a4 x.s.els.length x.c4]
  size := 13
  bytes := 192
  t := 23
  e := 44
  z := .agg #[.int .i64 0, .string ⟨#[]⟩, .int .i64 0, .int .i64 0, .int .i64 0, .string ⟨#[]⟩, .slice none 0 0, .int .i64 0, .int .i64 0, .string ⟨#[]⟩, .slice none 0 0, .slice none 0 0, .slice none 0 0]
  inn := fun Z w x => KidsF Z w x.a1 x.s.a.args ∧ KidsF Z w x.a2 x.s.b.args ∧ BodiesF Z w x.a3 x.s.body ∧ BodiesF Z w x.a4 x.s.els
  und := Tryz.underlying23
  info := info_s
  len := fun _ => rfl
  one := fun x u hu => by simp at hu; rcases hu with rfl | rfl | rfl | rfl | rfl | rfl | rfl | rfl | rfl | rfl | rfl | rfl | rfl <;> rfl
  pos := by decide
  zs := rfl
  small := by decide
  next := fun h hs => ⟨KidsF.next h.1 hs, KidsF.next h.2.1 hs, BodiesF.next h.2.2.1 hs, BodiesF.next h.2.2.2 hs⟩
theorem sts_of {W : World} {b : Nat} : ∀ (l : List SX) (i : Nat), (∀ j (h : j < l.length) r, r < 13 → W.cell? ⟨b, i + j * 13 + r, none⟩ = (kS.f l[j])[r]?) → (∀ x ∈ l, Kids W x.a1 x.s.a.args ∧ Kids W x.a2 x.s.b.args ∧ Bodies W x.a3 x.s.body ∧ Bodies W x.a4 x.s.els) → StsAt W (l.map SX.s) b i
  | [], _, _, _ => by rw [List.map_nil, StsAt]; trivial
  | x :: l, i, hc, hk => by
    rw [List.map_cons, StsAt]
    refine ⟨?_, sts_of l (i + 13) (fun j hj r hr => ?_) fun y hy => hk y (List.mem_cons_of_mem _ hy)⟩
    · have hh : ∀ r, r < 13 → W.cell? ⟨b, i + r, none⟩ = (kS.f x)[r]? := fun r hr => by
        have := hc 0 (by simp) r hr
        simpa using this
      have h0 := hh 0 (by decide)
      have h1 := hh 1 (by decide)
      have h2 := hh 2 (by decide)
      have h3 := hh 3 (by decide)
      have h4 := hh 4 (by decide)
      have h5 := hh 5 (by decide)
      have h6 := hh 6 (by decide)
      have h7 := hh 7 (by decide)
      have h8 := hh 8 (by decide)
      have h9 := hh 9 (by decide)
      have h10 := hh 10 (by decide)
      have h11 := hh 11 (by decide)
      have h12 := hh 12 (by decide)
      obtain ⟨g1, g2, g3, g4⟩ := hk x List.mem_cons_self
      obtain ⟨⟨o, nm, mx, ⟨oa, na, sa, la⟩, ⟨ob, nb, sb, lb⟩, bd, el⟩, a1, c1, a2, c2, a3, c3, a4, c4⟩ := x
      rw [StAt]
      refine ⟨h0, h1, h2, ?_, ?_, ⟨a3, c3, h11, g3⟩, ⟨a4, c4, h12, g4⟩⟩
      · rw [ExAt]; exact ⟨h3, h4, h5, a1, c1, h6, g1⟩
      · rw [ExAt]; exact ⟨h7, h8, h9, a2, c2, h10, g2⟩
    · have := hc (j + 1) (by simpa using hj) r hr
      rw [show i + 13 + j * 13 + r = i + (j + 1) * 13 + r by omega]
      simpa using this
theorem Own1.bodies {w : World} {b0 : Nat} {Z : Nat → Prop} {p : Option Addr} {q : Nat} {l : List SX} (h : Own1 kS w b0 Z (.slice p l.length q) l) : BodiesF Z w p (l.map SX.s) := by
  by_cases h0 : l = []
  · left; rw [h0]; rfl
  · have hpos : 0 < l.length := List.length_pos_iff.2 h0
    obtain ⟨g, rfl, hz, _⟩ := h.cell hpos
    refine Or.inr ⟨g, 0, rfl, sts_of l 0 (fun j hj r hr => ?_) fun x hx => ?_⟩
    · obtain ⟨g2, hg, hz2, hc⟩ := h.cell hj
      cases hg
      have hr2 : r < (kS.f l[j]).length := by rw [kS.len]; exact hr
      have hcr := hc r hr
      rw [List.getElem?_eq_getElem hr2] at hcr ⊢
      rw [Nat.zero_add]
      exact (hollow_cell Z w _ _ _).2 ⟨hz, hcr⟩
    · exact kS.next (Z' := Z) (h.each x hx) ⟨fun _ _ _ => rfl, fun k hk => Or.inl (Or.inl hk)⟩
theorem renB_map (f t : ByteArray) : ∀ l : List St, renB f t l = l.map (renS f t)
  | [] => rfl
  | e :: r => by rw [renB, List.map_cons, renB_map f t r]
theorem renB_len (f t : ByteArray) (l : List St) : (renB f t l).length = l.length := by rw [renB_map, List.length_map]
theorem cB_len : ∀ l : List St, l.length ≤ cB l
  | [] => Nat.zero_le _
  | e :: r => by
    have := cB_len r
    have h := cS_parts e
    rw [cB, List.length_cons]
    omega
def GivesS (w : World) (x : List St) (e' : Ending) (w' : World) : Prop := ∃ p q, e' = .returned (.slice p x.length q) ∧ BodiesF (fun k => k < w.heap.size) w' p x ∧ Below w.heap.size w w'
end Go.Proofs.YtnelpgeiioflmaaGreatDoor.A
namespace Go.Proofs.YtnelpgeiioflmaaGreatDoor.A
open Go.RowKit
open L (Str isName prt size_len below_2 below_box ret_bool ret_int eql_eq bytes_eq)

theorem info_n : (Tryz.prog.info? 9).map (fun i => (i.zero, i.size, i.bytes)) = some (some (.string ⟨#[]⟩), 1, 16) := by kernel_rfl
def kN : RowK ByteArray where
  f := fun x => [.string x]
  size := 1
  bytes := 16
  t := 29
  e := 9
  z := .string ⟨#[]⟩
  inn := fun _ _ _ => True
  und := Tryz.underlying29
  info := info_n
  len := fun _ => rfl
  one := fun x u hu => by simp at hu; rw [hu]; rfl
  pos := by decide
  zs := rfl
  small := by decide
  next := fun _ _ => trivial
def StrsAt (w : World) (a : Option Addr) (l : List ByteArray) : Prop := l = [] ∨ ∃ b i, a = some ⟨b, i, none⟩ ∧ ∀ j (h : j < l.length), w.cell? ⟨b, i + j, none⟩ = some (.string l[j])
theorem StrsAt.below {w w' : World} {a : Option Addr} {l : List ByteArray} (h : StrsAt w a l) (hb : Below w.heap.size w w') : StrsAt w' a l := by
  rcases h with h | ⟨b, i, ha, h⟩
  · exact Or.inl h
  · exact Or.inr ⟨b, i, ha, fun j hj => (hb.cell (block_lt_of_cell (h j hj))).trans (h j hj)⟩
theorem StrsAt.open {w : World} {a : Option Addr} {l : List ByteArray} (h : StrsAt w a l) {k : Nat} (hk : k < l.length) : ∃ b i, a = some ⟨b, i, none⟩ ∧ ∀ j (h : j < l.length), w.cell? ⟨b, i + j, none⟩ = some (.string l[j]) :=
  h.resolve_left (fun e => by rw [e] at hk; exact absurd hk (Nat.not_lt_zero _))
theorem Own1.strs {w : World} {b0 : Nat} {Z : Nat → Prop} {p : Option Addr} {q : Nat} {l : List ByteArray} (h : Own1 kN w b0 Z (.slice p l.length q) l) : StrsAt w p l := by
  by_cases h0 : l = []
  · exact Or.inl h0
  · obtain ⟨g, rfl, _, _⟩ := h.cell (List.length_pos_iff.2 h0)
    refine Or.inr ⟨g, 0, rfl, fun j hj => ?_⟩
    obtain ⟨g2, hg, _, hc⟩ := h.cell hj
    cases hg
    have := hc 0 (by decide)
    rw [Nat.zero_add]
    rw [show j * kN.size + 0 = j from Nat.mul_one j] at this
    exact this

/-! ### a list in a captured variable -/

def ZL (w0 : World) (X : Nat → Prop) (N : Nat) (k : Nat) : Prop := k < w0.heap.size ∨ X k ∨ k = N
def JL {α : Type} (K : RowK α) (w0 : World) (N : Nat) (X : Nat → Prop) (l : List α) (w : World) : Prop := ∃ p q, Cell1 N (.slice p l.length q) w ∧ ¬ X N ∧ Own1 K w w0.heap.size (ZL w0 X N) (.slice p l.length q) l
namespace JL
variable {α : Type} {K : RowK α} {w0 w w' : World} {N : Nat} {X : Nat → Prop} {l : List α}
theorem keep (h : JL K w0 N X l w) (_ : w.heap.size ≤ w'.heap.size) (hk : ∀ k, k < w.heap.size → ¬ X k → w'.heap[k]? = w.heap[k]?) : JL K w0 N X l w' := by
  obtain ⟨p, q, hc, hx, ho⟩ := h
  exact ⟨p, q, hc.moved (hk N hc.lt hx), hx, ho.next ⟨fun k hk1 hz => hk k hk1 (fun h2 => hz (Or.inr (Or.inl h2))), fun k hk => Or.inl hk⟩⟩
theorem wide (h : JL K w0 N (fun _ => False) l w) (hx : ∀ k, X k → w.heap.size ≤ k) : JL K w0 N X l w := by
  obtain ⟨p, q, hc, _, ho⟩ := h
  refine ⟨p, q, hc, fun h2 => by have := hx N h2; have := hc.lt; omega, ho.next ⟨fun _ _ _ => rfl, fun k hk => ?_⟩⟩
  rcases hk with hk | hk | hk
  · exact Or.inl (Or.inl hk)
  · exact Or.inr (hx k hk)
  · exact Or.inl (Or.inr (Or.inr hk))
theorem narrow (h : JL K w0 N X l w) : JL K w0 N (fun _ => False) l w := by
  obtain ⟨p, q, hc, _, ho⟩ := h
  refine ⟨p, q, hc, fun h2 => h2, ho.next ⟨fun _ _ _ => rfl, fun k hk => ?_⟩⟩
  rcases hk with hk | hk | hk
  · exact Or.inl (Or.inl hk)
  · exact hk.elim
  · exact Or.inl (Or.inr (Or.inr hk))
end JL
theorem Own1.store {α : Type} {K : RowK α} {w0 w w3 w6 : World} {N : Nat} {X : Nat → Prop} {p : Option Addr} {q : Nat} {l : List α} {y : α} {g' cap : Nat} {o : Obj} (hX : ∀ k, X k → w0.heap.size ≤ k ∧ k < w.heap.size) (hN0 : w0.heap.size ≤ N) (hNX : ¬ X N) (hz : w0.heap.size ≤ w.heap.size)
    (hC : Cell1 N (.slice p l.length q) w) (hO : Own1 K w w0.heap.size (ZL w0 X N) (.slice p l.length q) l) (hb : Below w.heap.size w w3) (hy : K.inn (fun k => ZL w0 X N k ∨ (Value.slice p l.length q).ownBlock = some k) w3 y)
    (h1 : w6.ownsRow w0.heap.size K.e K.size (.slice (some ⟨g', 0, none⟩) (l.length + 1) cap) (l ++ [y]).length (K.cs (l ++ [y]))) (h2 : (w3.alloc o).grownBy w6 (Value.slice p l.length q).ownBlock) (h3 : (Value.slice p l.length q).ownBlock = some g' ∨ g' = w3.heap.size + 1) :
    Cell1 N (.slice p l.length q) w6 ∧ JL K w0 N X (l ++ [y]) (w6.setCell ⟨N, 0, none⟩ (.slice (some ⟨g', 0, none⟩) (l.length + 1) cap)) ∧ Below w0.heap.size w (w6.setCell ⟨N, 0, none⟩ (.slice (some ⟨g', 0, none⟩) (l.length + 1) cap)) ∧ ∀ k, X k → (w6.setCell ⟨N, 0, none⟩ (.slice (some ⟨g', 0, none⟩) (l.length + 1) cap)).heap[k]? = w.heap[k]? := by
  have hO3 := hO.below hb
  have hC3 := hC.later hb
  have hzz : ∀ k, ZL w0 X N k → k < w3.heap.size := fun k hk => by
    have := hb.size
    rcases hk with hk | hk | hk
    · omega
    · have := (hX k hk).2; omega
    · have := hC.lt; omega
  have hO6 := hO3.push hy hzz h1 h2 h3
  have hblk : ∀ k, ZL w0 X N k → w6.heap[k]? = w3.heap[k]? := fun k hk =>
    (h2.block k (by have := hzz k hk; simp; omega) (fun e => hO3.off k e.symm hk)).trans (Below.heap_alloc w3 o k (hzz k hk))
  have hC6 := hC3.moved (hblk N (Or.inr (Or.inr rfl)))
  have hF := hO3.frame (hb.mono hz) (Nat.le_trans hz hb.size) h2
  have hl : (l ++ [y]).length = l.length + 1 := by simp
  refine ⟨hC6, ⟨some ⟨g', 0, none⟩, cap, ?_, hNX, ?_⟩, hF.setCell hN0 _, fun k hk => ?_⟩
  · rw [hl]; exact hC6.set
  · rw [hl]
    exact hO6.next ⟨fun k _ hk2 => Below.heap_setCell _ _ _ _ (fun e => hk2 (Or.inr (Or.inr e))), fun k hk => Or.inl hk⟩
  · have hne : k ≠ N := fun e => hNX (e ▸ hk)
    exact (Below.heap_setCell _ _ _ _ hne).trans ((hblk k (Or.inr (Or.inl hk))).trans (hb.block k (hX k hk).2))
def JM (w0 : World) (N n : Nat) (X : Nat → Prop) (l : List ByteArray) (w : World) : Prop := l.length ≤ n + 1000 ∧ JL kN w0 N X l w
set_option maxHeartbeats 4000000 in
set_option maxRecDepth 100000 in
theorem visM {w0 : World} {N : Nat} (hN : w0.heap.size ≤ N) : VisM ⟨N, 0, none⟩ gM w0 (JM w0 N) := by
  refine ⟨fun n X l u ps pe w hn hX hJ hb0 hat hok => ?_, fun n X s w w' h h1 h2 => ⟨h.1, h.2.keep h1 h2⟩, fun n X s w h h1 => ⟨h.1, h.2.wide h1⟩, fun n X s w h => ⟨h.1, h.2.narrow⟩⟩
  obtain ⟨hll, p, q, hC, hNX, hO⟩ := hJ
  have hw := below_box w (.cells #[.pointer ps, .pointer pe, .int .i64 (u.d : Int)] 80)
  have hC1 := hC.later hw
  obtain ⟨n1, n2, n3⟩ := hC1
  have hSame : Hid (gM l u = (l, true) → (JM w0 N (n + 1) X l (w.alloc (.cells #[.pointer ps, .pointer pe, .int .i64 (u.d : Int)] 80)) ∧ Below w0.heap.size w (w.alloc (.cells #[.pointer ps, .pointer pe, .int .i64 (u.d : Int)] 80)) ∧ ∀ k, X k → (w.alloc (.cells #[.pointer ps, .pointer pe, .int .i64 (u.d : Int)] 80)).heap[k]? = w.heap[k]?)) :=
    fun _ => ⟨⟨by omega, JL.keep ⟨p, q, hC, hNX, hO⟩ hw.size (fun k hk _ => hw.block k hk)⟩, hw.mono hb0.size, fun k hk => hw.block k (hX k hk).2⟩
  cases u with
  | ex e d =>
    obtain ⟨b, i, rfl, rfl, _⟩ := hat
    have HG : Hid (gM l (.ex e d) = (l, true)) := by show (l ++ [], true) = _; rw [List.append_nil]
    have HP := Lib.hid (hSame.out HG.out)
    rw [HG.out]
    unfold nodeV
    simp only [U.d] at *
    clear hw hC hO hb0 hX hok hSame HG
    go_enter Tryz.func59, Tryz.ntmps59
    go_wp2_with fail
    go_ret
    exact ⟨rfl, HP.out⟩
  | st s d =>
    obtain ⟨b, i, rfl, rfl, hat⟩ := hat
    simp only [U.d] at *
    obtain ⟨a1, c1, a2, c2, a3, c3, a4, c4, hcc, _⟩ := (hat.below hb0).open
    have hcc1 := hcc.below hw
    have k0 := hcc1.k0
    have k1 := hcc1.k1
    have hsz := hok.2
    have hsp := cS_parts s
    have hnm : s.name.size ≤ 281474976710656 := by omega
    by_cases ho : s.op = 1 ∨ s.op = 6
    · have HG : Hid (gM l (.st s d) = (l ++ [s.name], true)) := by show (l ++ (if s.op = 1 ∨ s.op = 6 then [s.name] else []), true) = _; rw [if_pos ho]
      rw [HG.out]
      have HCl := Lib.hid (fun w => L.oclone_any s.name hnm w)
      have HFin : Hid (∀ w3 w6 g' cap o, Below w.heap.size w w3 → w6.ownsRow w0.heap.size kN.e kN.size (.slice (some ⟨g', 0, none⟩) (l.length + 1) cap) (l ++ [s.name]).length (kN.cs (l ++ [s.name])) → (w3.alloc o).grownBy w6 (Value.slice p l.length q).ownBlock → ((Value.slice p l.length q).ownBlock = some g' ∨ g' = w3.heap.size + 1) → _) :=
        fun w3 w6 g' cap o hb h1 h2 h3 => Own1.store hX hN hNX hb0.size hC hO hb trivial h1 h2 h3
      have HO := Lib.hid hO
      have HW := Lib.hid hw
      have hzw := hb0.size
      unfold nodeV
      clear hw hC hb0 hX hok hSame HG hcc hcc1 hat hsz hsp hO
      rcases ho with ho | ho
      all_goals
        rw [ho] at k0
        clear ho
        go_enter Tryz.func59, Tryz.ntmps59
        go_wp2_with fail
        go_region_law
          (first
            | (refine kN.step rfl (.tmp 23) (.tmp 30) rfl w0.heap.size (.slice p l.length q) l rfl HO3.out.row s.name _ rfl w3.heap.size rfl rfl (by omega) (by omega) ?_; intro g6 cap6 w6 hown6 hgrow6 hlie6; have HF6 := Lib.hid (HFin.out w3 w6 g6 cap6 _ HB3.out hown6 hgrow6 hlie6); obtain ⟨r1, r2, r3⟩ := HF6.out.1; clear hown6 hgrow6 hlie6)
            | (go_simp; go_at_call 57; refine (HCl.out _).mono ?_; rintro e' w3 ⟨rfl, hb3⟩; have HB3 := Lib.hid (below_2 HW.out (below_2 (L.below_drew _) hb3)); have HO3 := Lib.hid (HO.out.below HB3.out); have hz3 := HB3.out.size; have t2 := (hb3.cell (by exact n1)).trans n2; have t3 := ((below_box w3 (.cells #[.string s.name] 9)).cell (block_lt_of_cell t2)).trans t2; clear hb3))
        all_goals
          go_wp2_with fail
          go_ret
          exact ⟨rfl, ⟨by rw [List.length_append, List.length_singleton]; omega, HF6.out.2.1⟩, HF6.out.2.2⟩
    · have HG : Hid (gM l (.st s d) = (l, true)) := by show (l ++ (if s.op = 1 ∨ s.op = 6 then [s.name] else []), true) = _; rw [if_neg ho, List.append_nil]
      have HP := Lib.hid (hSame.out HG.out)
      rw [HG.out]
      have o1 : (s.op == 1) = false := beq_eq_false_iff_ne.2 (by omega)
      have o6 : (s.op == 6) = false := beq_eq_false_iff_ne.2 (by omega)
      unfold nodeV
      clear hw hC hO hb0 hX hok hSame HG hcc hcc1 hat hsz hsp ho
      go_enter Tryz.func59, Tryz.ntmps59
      go_wp2_with fail
      go_ret
      exact ⟨rfl, HP.out⟩
theorem names_take {l : List Pm} {k : Nat} (h : k < l.length) : (l.take (k + 1)).map Pm.name = (l.take k).map Pm.name ++ [l[k].name] := by
  rw [List.take_succ_eq_append_getElem h, List.map_append]; rfl
def GivesN (w : World) (x : List ByteArray) (e' : Ending) (w' : World) : Prop := ∃ p q, e' = .returned (.slice p x.length q) ∧ x.length ≤ q ∧ StrsAt w' p x ∧ Below w.heap.size w w'
set_option maxHeartbeats 8000000 in
set_option maxRecDepth 100000 in
theorem onames_any (p : Pr) (a1 a2 : Option Addr) (c1 c2 : Nat) (hok : OkP p) (hsz : cB p.body ≤ 900000) (hpl : p.params.length ≤ 1000) (hps : ∀ j (h : j < p.params.length), p.params[j].name.size ≤ 281474976710656) (w : World) (hK : PrIn w p a1 a2) :
    Calls Tryz.prog 35 #[prV p a1 c1 a2 c2] w fun e' w' => GivesN w (names p) e' w' := by
  have hw := below_box w (prO p a1 c1 a2 c2)
  have hbx := Bx.new w #[.string p.name, .slice a1 p.params.length c1, .slice a2 p.body.length c2] 25
  have HWK := Lib.hid (fun (N : Nat) (hN : (w.alloc (prO p a1 c1 a2 c2)).heap.size ≤ N) (l : List ByteArray) (w' : World) (hJ : JM (w.alloc (prO p a1 c1 a2 c2)) N 0 (fun _ => False) l w') (hb : Below (w.alloc (prO p a1 c1 a2 c2)).heap.size (w.alloc (prO p a1 c1 a2 c2)) w') => owalkM_any (visM (w0 := w.alloc (prO p a1 c1 a2 c2)) hN) p a1 c1 a2 c2 hok.body hok.bodyLen (by omega) (hK.below hw).body l w' hJ hb)
  have HK := Lib.hid (hK.below hw).params
  have HW := Lib.hid hw
  have HBX := Lib.hid hbx
  have HNR := Lib.hid (names_run p)
  have HPS := Lib.hid hps
  have hJ0 : JL kN (w.alloc (prO p a1 c1 a2 c2)) (w.heap.size + 1) (fun _ => False) ([] : List ByteArray) ((w.alloc (prO p a1 c1 a2 c2)).alloc (.cells #[.slice none 0 0] 29)) := ⟨none, 0, cell1_at (by simp), fun h => h, Own1.nil⟩
  have HJ0 := Lib.hid hJ0
  have HZ1 : Hid ((w.alloc (prO p a1 c1 a2 c2)).heap.size = w.heap.size + 1) := by show _ = _; simp
  obtain ⟨m, hm⟩ : ∃ m, p.params.length = m := ⟨_, rfl⟩
  have HL := Lib.hid hm
  unfold prO at *
  unfold prV at *
  rw [hm] at HWK HK HW HBX HJ0 HZ1 hpl ⊢
  clear hw hbx hok hsz hps hK hJ0 hm
  go_enter Tryz.func35, Tryz.ntmps35
  go_wp2_with fail
  go_loopw [9] (fun s9 wr => ∃ (k : Nat) (l : List ByteArray), k ≤ m ∧ s9 = .int .i64 k ∧ Hid (l = (p.params.take k).map Pm.name) ∧ Hid (JL kN (w.alloc (.cells #[.string p.name, .slice a1 m c1, .slice a2 p.body.length c2] 25)) (w.heap.size + 1) (fun _ => False) l wr) ∧ Hid (Below (w.alloc (.cells #[.string p.name, .slice a1 m c1, .slice a2 p.body.length c2] 25)).heap.size (w.alloc (.cells #[.string p.name, .slice a1 m c1, .slice a2 p.body.length c2] 25)) wr)) (fun s9 _ => m - (intOf s9).toNat)
  case atStart => exact ⟨0, [], Nat.zero_le _, rfl, rfl, HJ0.out, below_box _ _⟩
  case round =>
    obtain ⟨k, l, hk, rfl, HX, HJ, HB⟩ := hrel
    have hllk : l.length ≤ k := by have := congrArg List.length HX.out; rw [List.length_map, List.length_take] at this; omega
    by_cases hlt : k < m
    · have hlx : k < p.params.length := by rw [HL.out]; exact hlt
      obtain ⟨b3, i3, rfl, hcc⟩ := (HK.out.below HB.out).open hlx
      obtain ⟨f0, f1⟩ := hcc k hlx
      have hqs := HPS.out k hlx
      have hxn := names_take hlx
      generalize p.params[k] = q at f0 f1 hqs hxn
      obtain ⟨pl, ql, hC, hNX, hO⟩ := HJ.out
      have hb7 := below_box wr (.cells #[.string q.name, .int .i64 q.ty] 49)
      have hC7 := hC.later hb7
      obtain ⟨n1, n2, n3⟩ := hC7
      have hz := HB.out.size
      have hz7 := hb7.size
      have HCl := Lib.hid (fun w => L.oclone_any q.name hqs w)
      have hO7 := hO.below hb7
      have hB7 : Below (w.alloc (.cells #[.string p.name, .slice (some ⟨b3, i3, none⟩) m c1, .slice a2 p.body.length c2] 25)).heap.size (w.alloc (.cells #[.string p.name, .slice (some ⟨b3, i3, none⟩) m c1, .slice a2 p.body.length c2] 25)) _ := HB.out.trans (hb7.mono hz)
      have HFin := Lib.hid (fun w3 w6 g' cap o (hb : Below (wr.alloc (.cells #[.string q.name, .int .i64 q.ty] 49)).heap.size (wr.alloc (.cells #[.string q.name, .int .i64 q.ty] 49)) w3) h1 h2 h3 => Own1.store (K := kN) (y := q.name) (g' := g') (cap := cap) (w6 := w6) (o := o) (fun _ h => h.elim) (by have := HZ1.out; omega) hNX (Nat.le_trans hz hz7) (hC.later hb7) hO7 hb trivial h1 h2 h3)
      have HO7 := Lib.hid hO7
      have HB7 := Lib.hid hB7
      have HXN : Hid (l ++ [q.name] = (p.params.take (k + 1)).map Pm.name) := by show _ = _; rw [hxn, HX.out]
      have g0 : (wr.alloc (.cells #[.string q.name, .int .i64 q.ty] 49)).cell? ⟨wr.heap.size, 0, none⟩ = some (.string q.name) := by go_simp
      clear hcc hC hNX hO hb7 hO7 hB7 hqs hxn
      go_wp2_with fail
      go_region_law
        (first
          | (refine kN.step rfl (.tmp 13) (.tmp 17) rfl _ (.slice pl l.length ql) l rfl HO3.out.row q.name _ rfl w3.heap.size rfl rfl (by omega) (by omega) ?_; intro g6 cap6 w6 hown6 hgrow6 hlie6; have HF6 := Lib.hid (HFin.out w3 w6 g6 cap6 _ HB3.out hown6 hgrow6 hlie6); obtain ⟨r1, r2, r3⟩ := HF6.out.1; clear hown6 hgrow6 hlie6)
          | (go_simp; go_at_call 57; refine (HCl.out _).mono ?_; rintro e' w3 ⟨rfl, hb3⟩; have HB3 := Lib.hid (below_2 (L.below_drew _) hb3); have HO3 := Lib.hid (HO7.out.below HB3.out); have hz3 := HB3.out.size; have t2 := (hb3.cell (by exact n1)).trans n2; have t3 := ((below_box w3 (.cells #[.string q.name] 9)).cell (block_lt_of_cell t2)).trans t2; clear hb3))
      all_goals
        have HL6 : Hid ((l ++ [q.name]).length = l.length + 1) := by show _ = _; simp
        go_wp2_with fail
        go_roundw
        case rel => exact ⟨k + 1, l ++ [q.name], by omega, by go_num, HXN.out, HF6.out.2.1, HB7.out.trans HF6.out.2.2.1⟩
        case measure => simp [intOf]; omega
    · have hX := HX.out
      rw [List.take_of_length_le (by rw [HL.out]; omega)] at hX
      have hbx3 := HBX.out.below HB.out
      have x0 := hbx3.cell 0
      have x1 := hbx3.cell 1
      have x2 := hbx3.cell 2
      simp at x0 x1 x2
      have hC := HWK.out (w.heap.size + 1) (by rw [HZ1.out]; omega) l wr ⟨by omega, HJ.out⟩ HB.out
      rw [hX, HNR.out] at hC
      have HC := Lib.hid hC
      have HBB := Lib.hid (below_2 HW.out HB.out)
      have hzw := HW.out.size
      have HZW := Lib.hid hzw
      clear hC hX hbx3 hzw
      go_wp2_with fail
      refine HC.out.mono ?_; rintro e' w5 ⟨rfl, ⟨n5, _, pl, ql, hC5, _, hO5⟩, hb5⟩
      have s1 := hC5.cell
      obtain ⟨_, _, hsh, hle⟩ := hO5.shape
      have hq : (names p).length ≤ ql := by injection hsh with h1 h2 h3; omega
      have HV : Hid (GivesN w (names p) (.returned (.slice pl (names p).length ql)) w5) := ⟨pl, ql, rfl, hq, hO5.strs, HBB.out.trans (hb5.mono HZW.out)⟩
      clear hC5 hO5 hb5 hsh hle hq
      go_wp2_with fail
      go_ret
      exact HV.out
end Go.Proofs.YtnelpgeiioflmaaGreatDoor.A
namespace Go.Proofs.YtnelpgeiioflmaaGreatDoor.A
open Go.RowKit
open L (Str isName prt size_len below_2 below_box ret_bool ret_int eql_eq bytes_eq)

theorem results_tmp6 {fn : Func} {t1 t2 t3 t4 t5 t6 : Tmp} (h : fn.results = #[.tmp t1, .tmp t2, .tmp t3, .tmp t4, .tmp t5, .tmp t6]) (tmps : Array Value) (P : Program) (w : World) :
    (results fn tmps).run P w = .ok (.tuple #[tmps.getD t1 undef, tmps.getD t2 undef, tmps.getD t3 undef, tmps.getD t4 undef, tmps.getD t5 undef, tmps.getD t6 undef]) w := by
  simp [results, h]
def usesV (o : Int) : Value := .tuple #[.bool (uN o), .bool (uM o), .bool (uA o), .bool (uB o), .bool (uD o), .bool (uE o)]
set_option maxHeartbeats 2000000 in
set_option maxRecDepth 100000 in
theorem ruses_any (op : Int) (w : World) : Calls Tryz.prog 87 #[.int .i64 op] w fun e w' => e = .returned (usesV op) ∧ w' = w := by
  by_cases h1 : op = 1
  · subst h1
    go_enter Tryz.func87, Tryz.ntmps87
    go_wp2_with fail
    (try simp only [Exit.inBlock, Exit.then])
    refine bodyPost_ret (results_tmp6 rfl _ _ _) rfl ?_
    exact ⟨rfl, rfl⟩
  by_cases h2 : op = 2
  · subst h2
    go_enter Tryz.func87, Tryz.ntmps87
    go_wp2_with fail
    (try simp only [Exit.inBlock, Exit.then])
    refine bodyPost_ret (results_tmp6 rfl _ _ _) rfl ?_
    exact ⟨rfl, rfl⟩
  by_cases h3 : op = 3
  · subst h3
    go_enter Tryz.func87, Tryz.ntmps87
    go_wp2_with fail
    (try simp only [Exit.inBlock, Exit.then])
    refine bodyPost_ret (results_tmp6 rfl _ _ _) rfl ?_
    exact ⟨rfl, rfl⟩
  by_cases h4 : op = 4
  · subst h4
    go_enter Tryz.func87, Tryz.ntmps87
    go_wp2_with fail
    (try simp only [Exit.inBlock, Exit.then])
    refine bodyPost_ret (results_tmp6 rfl _ _ _) rfl ?_
    exact ⟨rfl, rfl⟩
  by_cases h5 : op = 5
  · subst h5
    go_enter Tryz.func87, Tryz.ntmps87
    go_wp2_with fail
    (try simp only [Exit.inBlock, Exit.then])
    refine bodyPost_ret (results_tmp6 rfl _ _ _) rfl ?_
    exact ⟨rfl, rfl⟩
  by_cases h6 : op = 6
  · subst h6
    go_enter Tryz.func87, Tryz.ntmps87
    go_wp2_with fail
    (try simp only [Exit.inBlock, Exit.then])
    refine bodyPost_ret (results_tmp6 rfl _ _ _) rfl ?_
    exact ⟨rfl, rfl⟩
  by_cases h7 : op = 7
  · subst h7
    go_enter Tryz.func87, Tryz.ntmps87
    go_wp2_with fail
    (try simp only [Exit.inBlock, Exit.then])
    refine bodyPost_ret (results_tmp6 rfl _ _ _) rfl ?_
    exact ⟨rfl, rfl⟩
  have b1 : (op == 1) = false := beq_eq_false_iff_ne.2 h1
  have b2 : (op == 2) = false := beq_eq_false_iff_ne.2 h2
  have b3 : (op == 3) = false := beq_eq_false_iff_ne.2 h3
  have b4 : (op == 4) = false := beq_eq_false_iff_ne.2 h4
  have b5 : (op == 5) = false := beq_eq_false_iff_ne.2 h5
  have b6 : (op == 6) = false := beq_eq_false_iff_ne.2 h6
  have b7 : (op == 7) = false := beq_eq_false_iff_ne.2 h7
  have HV : Hid (usesV op = .tuple #[.bool false, .bool true, .bool false, .bool false, .bool false, .bool false]) := by
    show _ = _
    unfold usesV uN uM uA uB uD uE
    simp [h1, h2, h3, h4, h5, h6, h7]
  rw [HV.out]
  clear h1 h2 h3 h4 h5 h6 h7
  go_enter Tryz.func87, Tryz.ntmps87
  go_wp2_with fail
  (try simp only [Exit.inBlock, Exit.then])
  refine bodyPost_ret (results_tmp6 rfl _ _ _) rfl ?_
  exact ⟨rfl, rfl⟩
set_option maxHeartbeats 2000000 in
set_option maxRecDepth 100000 in
theorem rswap_any (x f t : ByteArray) (w : World) : Calls Tryz.prog 52 #[.string x, .string f, .string t] w fun e w' => e = .returned (.string (swap f t x)) ∧ w' = w := by
  by_cases h : x = f
  · have HV : Hid (swap f t x = t) := by show _ = _; unfold swap; rw [if_pos h]
    have hb : (x.toList == f.toList) = true := by rw [eql_eq]; exact decide_eq_true (by rw [h])
    rw [HV.out]
    clear h
    go_enter Tryz.func52, Tryz.ntmps52
    go_wp2_with fail
    go_ret
    exact ⟨rfl, rfl⟩
  · have HV : Hid (swap f t x = x) := by show _ = _; unfold swap; rw [if_neg h]
    have hb : (x.toList == f.toList) = false := by rw [eql_eq]; exact decide_eq_false (fun h2 => h (bytes_eq h2))
    rw [HV.out]
    clear h
    go_enter Tryz.func52, Tryz.ntmps52
    go_wp2_with fail
    go_ret
    exact ⟨rfl, rfl⟩
end Go.Proofs.YtnelpgeiioflmaaGreatDoor.A
