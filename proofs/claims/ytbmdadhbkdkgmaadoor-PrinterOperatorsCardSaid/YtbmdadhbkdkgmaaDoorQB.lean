/-
  The program's writer of layer 9 in memory: its text, its blocks; what its methods leave as it was; the method line: a contract.
  The program's writer of layer 9: the methods remove, emit, abort, let, set, put: contracts.
-/
import Derived.Test.YtbmdadhbkdkgmaaDoorQA
import Derived.Lib.AppendStr
import Derived.Lib.Builder
import Derived.Test.YtbmdadhbkdkgmaaDoorGH
import Derived.Test.YtbmdadhbkdkgmaaDoorARefsH
import Derived.Deep.RegionHeld3
namespace Go.Proofs.YtbmdadhbkdkgmaaDoor.P
open Go.RowKit
open L (Str isName prt size_len below_2 below_box ret_bool ret_int ret_string bytes_eq append_list Own8 bc bc_app bc_len info8)
open A

theorem info_of {o : Option TypeInfo} {a : Option Value} {b c : Nat} (h : o.map (fun i => (i.zero, i.size, i.bytes)) = some (a, b, c)) : ∃ i, o = some i ∧ i.zero = a ∧ i.size = b ∧ i.bytes = c := by
  cases o with
  | none => cases h
  | some i =>
    simp only [Option.map_some, Option.some.injEq, Prod.mk.injEq] at h
    exact ⟨i, rfl, h.1, h.2.1, h.2.2⟩
theorem bc_str (s : ByteArray) : Lib.strCells s = bc s.data.toList := rfl
/-- a string appended -/
theorem wpList_append_line {w : World} {ops : Array Oper} {rest : List Oper} {o : Oper} {a : Act} {Q : Exit → Act → World → Prop} (hgd : o.guard = none) (sl x : Operand)
    (ho : o.op = .call { callee := .builtin .append, args := #[sl, x], argTypes := #[65, 9] })
    (base : Nat) (v : Value) (l : Str) (hs : a.eval sl = v) (hown : Own8 w base v l) (s : ByteArray) (hx : a.eval x = .string s) (hn : l.length + s.size ≤ 100000000000000) (hbase : base ≤ w.heap.size)
    (h : ∀ v' w', Own8 w' base v' (l ++ s.data.toList) → w.grownBy w' v.ownBlock → wpList Tryd.prog ops Q rest (a.put o.dst v') w') : wpList Tryd.prog ops Q (o :: rest) a w := by
  obtain ⟨i0, hi, hz0, hz1, hz2⟩ := info_of info8
  refine Lib.wpList_append_own_string w hgd sl x 65 9 ho base 5 i0 Tryd.underlying65 Tryd.underlying9 hi hz0 hz1 hz2 v l.length (bc l) hs hown s hx (by unfold maxLen; omega) (by omega) hbase ?_
  intro v' w' h1 h2 _
  refine h v' w' ?_ h2
  unfold L.Own8
  rw [List.length_append, bc_app, ← size_len]
  exact h1
/-- the line feed appended -/
theorem wpList_append_feed {w : World} {ops : Array Oper} {rest : List Oper} {o : Oper} {a : Act} {Q : Exit → Act → World → Prop} (hgd : o.guard = none) (s x : Operand)
    (ho : o.op = .call { callee := .builtin .append, args := #[s, x], argTypes := #[65, 65] })
    (base : Nat) (v : Value) (l : Str) (hs : a.eval s = v) (hown : Own8 w base v l)
    (hx : a.eval x = .slice (some ⟨w.heap.size, 0, none⟩) 1 1) (hn : l.length ≤ 100000000000000) (hbase : base ≤ w.heap.size)
    (h : ∀ v' w', Own8 w' base v' (l ++ [10]) → (w.alloc (.cells #[.int .u8 10] 5)).grownBy w' v.ownBlock → wpList Tryd.prog ops Q rest (a.put o.dst v') w') :
    wpList Tryd.prog ops Q (o :: rest) a (w.alloc (.cells #[.int .u8 10] 5)) := by
  obtain ⟨i0, hi, hz0, hz1, hz2⟩ := info_of info8
  refine wpList_append_own _ hgd s x 65 ho base 5 i0 (.int .u8 0) 1 1 Tryd.underlying65 hi hz0 hz1 hz2 rfl (by decide) v l.length (bc l) hs (hown.alloc _) ⟨w.heap.size, 0, none⟩ 1 1 [.int .u8 10] hx rfl (L.cell_one _ _ _) (by intro u hu; simp at hu; subst hu; rfl) (by unfold maxLen; omega) (by omega) (by simp; omega) ?_
  intro v' w' h1 h2 _
  refine h v' w' ?_ h2
  unfold L.Own8
  rw [List.length_append, bc_app]
  exact h1

/-! ### the writer -/

/-- block N, not below B, is a writer with the text l and d blocks -/
def Wr (w : World) (B N : Nat) (l : Str) (d : Nat) : Prop := B ≤ N ∧ ∃ v, w.heap[N]? = some (.cells #[v, .int .i64 (d : Int)] 67 (0, 0)) ∧ Own8 w B v l
/-- block k is a row of bytes -/
def Row8 (w : World) (k : Nat) : Prop := ∃ cs f, w.heap[k]? = some (.cells cs 5 f)
/-- what a writer at block N leaves as it was: what lies below B, and what is neither the writer nor a row of bytes -/
structure Fr (B N : Nat) (w w' : World) : Prop where
  os : w'.os = w.os
  tape : w'.tape = w.tape
  output : w'.output = w.output
  size : w.heap.size ≤ w'.heap.size
  block : ∀ k, k < w.heap.size → k ≠ N → (k < B ∨ ¬ Row8 w k) → w'.heap[k]? = w.heap[k]?
theorem Fr.refl (B N : Nat) (w : World) : Fr B N w w := ⟨rfl, rfl, rfl, Nat.le_refl _, fun _ _ _ _ => rfl⟩
theorem Fr.trans {B N : Nat} {w w1 w2 : World} (h : Fr B N w w1) (h2 : Fr B N w1 w2) : Fr B N w w2 :=
  ⟨h2.os.trans h.os, h2.tape.trans h.tape, h2.output.trans h.output, Nat.le_trans h.size h2.size, fun k hk hn hr => by
    have e := h.block k hk hn hr
    refine (h2.block k (Nat.lt_of_lt_of_le hk h.size) hn (hr.imp id fun hx hy => hx ?_)).trans e
    obtain ⟨cs, f, hy⟩ := hy
    exact ⟨cs, f, e ▸ hy⟩⟩
theorem Fr.of {B N : Nat} {w w' : World} (h : Below w.heap.size w w') : Fr B N w w' := ⟨h.os, h.tape, h.output, h.size, fun k hk _ _ => h.block k hk⟩
theorem Fr.below {B N : Nat} {w w' : World} (h : Fr B N w w') (hB : B ≤ N) (hw : B ≤ w.heap.size) : Below B w w' := ⟨h.os, h.tape, h.output, h.size, fun k hk => h.block k (by omega) (by omega) (Or.inl hk)⟩
theorem Wr.lt {w : World} {B N : Nat} {l : Str} {d : Nat} (h : Wr w B N l d) : N < w.heap.size := by
  obtain ⟨_, v, hN, _⟩ := h
  exact (Array.getElem?_eq_some_iff.1 hN).1
theorem Wr.later {w w' : World} {B N : Nat} {l : Str} {d : Nat} (h : Wr w B N l d) (hb : Below w.heap.size w w') : Wr w' B N l d := by
  have hlt := h.lt
  obtain ⟨hB, v, hN, ho⟩ := h
  exact ⟨hB, v, (hb.block N hlt).trans hN, ho.below hb⟩
/-- a row of bytes is no block of another type -/
theorem own_apart {w : World} {B : Nat} {v : Value} {l : Str} (h : Own8 w B v l) {k : Nat} {cs : Array Value} {t : TypeId} {f : Nat × Nat} (hk : w.heap[k]? = some (.cells cs t f)) (ht : t ≠ 5) : some k ≠ v.ownBlock := by
  intro e
  rcases h.2 with ⟨rfl, _⟩ | ⟨g, cap, cur, rfl, _, hg, _⟩
  · cases e
  · simp only [Value.ownBlock, Option.some.injEq] at e
    subst e
    rw [hk] at hg
    simp only [Option.some.injEq, Obj.cells.injEq] at hg
    exact ht hg.2.1
theorem own_row {w : World} {B : Nat} {v : Value} {l : Str} (h : Own8 w B v l) {k : Nat} (hk : ¬ Row8 w k) : some k ≠ v.ownBlock := by
  intro e
  rcases h.2 with ⟨rfl, _⟩ | ⟨g, cap, cur, rfl, _, hg, _⟩
  · cases e
  · simp only [Value.ownBlock, Option.some.injEq] at e
    subst e
    exact hk ⟨cur, (0, 0), hg⟩
theorem own_shape {w : World} {B : Nat} {v : Value} {l : Str} (h : Own8 w B v l) : ∃ p n q, v = .slice p n q := by
  rcases h.2 with ⟨rfl, _⟩ | ⟨g, cap, cur, rfl, _⟩
  · exact ⟨none, 0, 0, rfl⟩
  · exact ⟨_, _, _, rfl⟩
theorem wt_ne : 67 ≠ 5 := by decide
/-- the text is stored -/
theorem Wr.put {w w1 : World} {B N : Nat} {v v' : Value} {l' l : Str} {d : Nat} (hB : B ≤ N) (hN : w.heap[N]? = some (.cells #[v, .int .i64 (d : Int)] 67 (0, 0))) (ho : Own8 w B v l)
    (h1 : Own8 w1 B v' l') (hg : w.grownBy w1 v.ownBlock) : Wr (w1.setCell ⟨N, 0, none⟩ v') B N l' d ∧ Fr B N w (w1.setCell ⟨N, 0, none⟩ v') := by
  have hlt := (Array.getElem?_eq_some_iff.1 hN).1
  have hN1 : w1.heap[N]? = some (.cells #[v, .int .i64 (d : Int)] 67 (0, 0)) := (hg.block N hlt (own_apart ho hN wt_ne)).trans hN
  have hs : w1.grownBy (w1.setCell ⟨N, 0, none⟩ v') (some N) := ⟨rfl, rfl, rfl, by simp [World.setCell], fun k _ hk => Below.heap_setCell _ _ _ k (fun e => hk (by rw [e]))⟩
  refine ⟨⟨hB, v', by simp [World.setCell, Array.getElem?_modify, hN1], ?_⟩, ?_⟩
  · refine World.ownsRow.kept h1 hs ?_
    by_cases hn : v'.ownBlock = none
    · exact Or.inl hn
    · exact Or.inr (fun e => own_apart h1 hN1 wt_ne e.symm)
  · refine ⟨hg.os, hg.tape, hg.output, Nat.le_trans hg.size hs.size, fun k hk hn hr => ?_⟩
    rw [Below.heap_setCell _ _ _ k hn]
    refine hg.block k hk (fun e => ?_)
    rcases hr with hr | hr
    · have := ho.ge k e.symm; omega
    · exact own_row ho hr e
/-- what is seen of the writer -/
theorem Wr.open {w : World} {B N : Nat} {l : Str} {d : Nat} (h : Wr w B N l d) : ∃ v, w.heap[N]? = some (.cells #[v, .int .i64 (d : Int)] 67 (0, 0)) ∧ Own8 w B v l ∧ w.cell? ⟨N, 0, none⟩ = some v ∧ w.cell? ⟨N, 1, none⟩ = some (.int .i64 (d : Int)) ∧ w.frozen? ⟨N, 0, none⟩ = false ∧ w.frozen? ⟨N, 1, none⟩ = false := by
  obtain ⟨_, v, hN, ho⟩ := h
  exact ⟨v, hN, ho, by rw [Lib.cell_of_heap hN]; rfl, by rw [Lib.cell_of_heap hN]; rfl, Lib.frozen_of_heap hN 0, Lib.frozen_of_heap hN 1⟩
theorem Wr.kept {w w1 : World} {B N : Nat} {v : Value} {l : Str} {d : Nat} (hN : w.heap[N]? = some (.cells #[v, .int .i64 (d : Int)] 67 (0, 0))) (ho : Own8 w B v l) (hg : w.grownBy w1 v.ownBlock) :
    w1.cell? ⟨N, 0, none⟩ = some v ∧ w1.cell? ⟨N, 1, none⟩ = some (.int .i64 (d : Int)) ∧ w1.frozen? ⟨N, 0, none⟩ = false ∧ w1.frozen? ⟨N, 1, none⟩ = false := by
  have hlt := (Array.getElem?_eq_some_iff.1 hN).1
  have hN1 : w1.heap[N]? = some (.cells #[v, .int .i64 (d : Int)] 67 (0, 0)) := (hg.block N hlt (own_apart ho hN wt_ne)).trans hN
  exact ⟨by rw [Lib.cell_of_heap hN1]; rfl, by rw [Lib.cell_of_heap hN1]; rfl, Lib.frozen_of_heap hN1 0, Lib.frozen_of_heap hN1 1⟩
/-- the strings at a -/
def Strs (w : World) (N : Nat) (a : Option Addr) (xs : List ByteArray) : Prop := xs = [] ∨ ∃ b o, a = some ⟨b, o, none⟩ ∧ b ≠ N ∧ b < w.heap.size ∧ ¬ Row8 w b ∧ ∀ j x, xs[j]? = some x → w.cell? ⟨b, o + j, none⟩ = some (.string x)
theorem Strs.fr {w w' : World} {B N : Nat} {a : Option Addr} {xs : List ByteArray} (h : Strs w N a xs) (hf : Fr B N w w') : Strs w' N a xs := by
  rcases h with h | ⟨b, o, ha, hn, hlt, hr, hc⟩
  · exact Or.inl h
  · have e := hf.block b hlt hn (Or.inr hr)
    refine Or.inr ⟨b, o, ha, hn, Nat.lt_of_lt_of_le hlt hf.size, fun ⟨cs, f, hy⟩ => hr ⟨cs, f, e ▸ hy⟩, fun j x hx => (World.cell?_of_block (a := ⟨b, o + j, none⟩) e).trans (hc j x hx)⟩
theorem Strs.open {w : World} {N : Nat} {a : Option Addr} {xs : List ByteArray} (h : Strs w N a xs) {k : Nat} (hk : k < xs.length) : ∃ b o, a = some ⟨b, o, none⟩ ∧ w.cell? ⟨b, o + k, none⟩ = some (.string xs[k]) := by
  rcases h with rfl | ⟨b, o, ha, _, _, _, hc⟩
  · cases hk
  · exact ⟨b, o, ha, hc k _ (List.getElem?_eq_getElem hk)⟩
def joinS (xs : List ByteArray) : Str := (xs.map fun x => x.data.toList).flatten
theorem joinS_snoc {xs : List ByteArray} {k : Nat} (h : k < xs.length) : joinS (xs.take (k + 1)) = joinS (xs.take k) ++ xs[k].data.toList := by
  unfold joinS
  rw [List.take_succ_eq_append_getElem h, List.map_append, List.flatten_append]
  simp only [List.map_cons, List.map_nil, List.flatten_cons, List.flatten_nil, List.append_nil]
theorem joinS_len (xs : List ByteArray) (k : Nat) : (joinS (xs.take k)).length ≤ (joinS xs).length := by
  unfold joinS
  induction xs generalizing k with
  | nil => simp
  | cons x r ih =>
    cases k with
    | zero => simp
    | succ k =>
      have := ih k
      simp only [List.take_succ_cons, List.map_cons, List.flatten_cons, List.length_append]
      omega
theorem oind_succ (k : Nat) : ind (k + 1) = ind k ++ [32, 32, 32, 32] := by
  unfold ind
  rw [show 4 * (k + 1) = 4 * k + 4 by omega, ← List.replicate_append_replicate]; rfl
set_option maxHeartbeats 2000000 in
set_option maxRecDepth 100000 in
theorem oline_any (B N : Nat) (l : Str) (d : Nat) (a : Option Addr) (c : Nat) (xs : List ByteArray) (hd : d ≤ 1000) (hlen : xs.length ≤ 1000) (hl : l.length + (joinS xs).length ≤ 10000000000000) (w : World) (hBw : B ≤ w.heap.size) (hW : Wr w B N l d) (hS : Strs w N a xs) :
    Calls Tryd.prog 28 #[.pointer (some ⟨N, 0, none⟩), .slice a xs.length c] w fun e w' => e = .returned (.tuple #[]) ∧ Wr w' B N (l ++ (ind d ++ (joinS xs ++ [10]))) d ∧ Fr B N w w' := by
  have hB := hW.1
  have HW := Lib.hid hW
  have HS := Lib.hid hS
  have HJ := Lib.hid (fun k => joinS_len xs k)
  obtain ⟨v0, hN0, hO0, c0, c1, _, _⟩ := hW.open
  clear hW hS hN0 hO0 c0
  obtain ⟨m, hm⟩ : ∃ m, xs.length = m := ⟨_, rfl⟩
  have HL := Lib.hid hm
  rw [hm] at hlen ⊢
  clear hm
  go_enter Tryd.func28, Tryd.ntmps28
  go_wp2_with fail
  clear c1
  go_loopw [10] (fun s10 wr => ∃ k : Nat, k ≤ d ∧ s10 = .int .i64 k ∧ Hid (Wr wr B N (l ++ ind k) d) ∧ Hid (Fr B N w wr)) (fun s10 _ => d - (intOf s10).toNat)
  case atStart => exact ⟨0, Nat.zero_le _, rfl, (by rw [show ind 0 = [] from rfl, List.append_nil]; exact HW.out), Fr.refl _ _ _⟩
  case round =>
    obtain ⟨k, hk, rfl, HWr, HF⟩ := hrel
    have hsz := HF.out.size
    obtain ⟨v, hN, hO, c0, c1, f0, f1⟩ := HWr.out.open
    have HN := Lib.hid hN
    have HO := Lib.hid hO
    by_cases hlt : k < d
    · have bl : decide (k < d) = true := decide_eq_true hlt
      have hln : (l ++ ind k).length + 4 ≤ 100000000000000 := by rw [List.length_append, ind_len]; omega
      clear hN hO c1 f1
      go_wp2_with (at_builtin; refine wpList_append_line rfl (.tmp 16) _ rfl B v _ rfl HO.out ⟨#[32, 32, 32, 32]⟩ rfl hln (by omega) ?_; intro v1 w1 hown1 hgrow1; obtain ⟨p1, n1, q1, rfl⟩ := own_shape hown1; have HP := Lib.hid (Wr.put hB HN.out HO.out hown1 hgrow1); obtain ⟨g0, g1, g2, g3⟩ := Wr.kept HN.out HO.out hgrow1; clear hown1 hgrow1)
      go_roundw
      case rel => exact ⟨k + 1, by omega, by go_num, (by rw [oind_succ, ← List.append_assoc]; exact HP.out.1), HF.out.trans HP.out.2⟩
      case measure => simp [intOf]; omega
    · have bl : decide (k < d) = false := decide_eq_false hlt
      obtain rfl : d = k := by omega
      clear hN hO c0 c1 f0 f1
      go_wp2_with fail
      go_loopw [23] (fun s23 wr => ∃ j : Nat, j ≤ m ∧ s23 = .int .i64 j ∧ Hid (Wr wr B N (l ++ ind d ++ joinS (xs.take j)) d) ∧ Hid (Fr B N w wr)) (fun s23 _ => m - (intOf s23).toNat)
      case atStart => exact ⟨0, Nat.zero_le _, rfl, (by rw [show joinS (xs.take 0) = [] from rfl, List.append_nil]; exact HWr.out), HF.out⟩
      case round =>
        obtain ⟨j, hj, rfl, HWq, HFq⟩ := hrel
        have hsq := HFq.out.size
        obtain ⟨u, hN, hO, c0, c1, f0, f1⟩ := HWq.out.open
        have HNq := Lib.hid hN
        have HOq := Lib.hid hO
        have hjl := HJ.out j
        by_cases hlj : j < m
        · have hlx : j < xs.length := by rw [HL.out]; exact hlj
          obtain ⟨b, o, rfl, hc⟩ := (HS.out.fr HFq.out).open hlx
          have hsn := joinS_snoc hlx
          have hj1 := HJ.out (j + 1)
          rw [hsn, List.length_append] at hj1
          have hln : (l ++ ind d ++ joinS (xs.take j)).length + xs[j].size ≤ 100000000000000 := by rw [List.length_append, List.length_append, ind_len, size_len]; omega
          have HSn := Lib.hid hsn
          generalize xs[j] = x at hc hln HSn
          clear hN hO c1 f1 hsn hj1 hjl
          go_wp2_with (at_builtin; refine wpList_append_line rfl (.tmp 31) _ rfl B u _ rfl HOq.out x rfl hln (by omega) ?_; intro v1 w1 hown1 hgrow1; obtain ⟨p1, n1, q1, rfl⟩ := own_shape hown1; have HP := Lib.hid (Wr.put hB HNq.out HOq.out hown1 hgrow1); obtain ⟨g0, g1, g2, g3⟩ := Wr.kept HNq.out HOq.out hgrow1; clear hown1 hgrow1)
          go_roundw
          case rel => exact ⟨j + 1, by omega, by go_num, (by rw [HSn.out, ← List.append_assoc]; exact HP.out.1), HFq.out.trans HP.out.2⟩
          case measure => simp [intOf]; omega
        · have HWe : Hid (joinS (xs.take j) = joinS xs) := by show _ = _; rw [List.take_of_length_le (by rw [HL.out]; omega)]
          have hln : (l ++ ind d ++ joinS (xs.take j)).length ≤ 100000000000000 := by rw [List.length_append, List.length_append, ind_len]; omega
          have HNa : Hid ((wr.alloc (.cells #[.int .u8 10] 5)).heap[N]? = some (.cells #[u, .int .i64 (d : Int)] 67 (0, 0))) := ((below_box wr _).block N HWq.out.lt).trans hN
          have HOa := Lib.hid (HOq.out.alloc (.cells #[.int .u8 10] 5))
          clear hN hO c1 f1 hjl
          go_wp2_with (at_builtin; refine wpList_append_feed rfl (.tmp 41) _ rfl B u _ rfl HOq.out rfl hln (by omega) ?_; intro v1 w1 hown1 hgrow1; obtain ⟨p1, n1, q1, rfl⟩ := own_shape hown1; have HP := Lib.hid (Wr.put hB HNa.out HOa.out hown1 hgrow1); obtain ⟨g0, g1, g2, g3⟩ := Wr.kept HNa.out HOa.out hgrow1; clear hown1 hgrow1)
          go_end0
          exact ⟨rfl, (by rw [HWe.out] at HP; rw [← List.append_assoc, ← List.append_assoc]; exact HP.out.1), HFq.out.trans ((Fr.of (below_box wr _)).trans HP.out.2)⟩
end Go.Proofs.YtbmdadhbkdkgmaaDoor.P
namespace Go.Proofs.YtbmdadhbkdkgmaaDoor.P
open Go.RowKit
open L (Str isName prt size_len below_2 below_box ret_bool ret_int ret_string bytes_eq append_list)
open A

theorem ost_ne : 9 ≠ 5 := by decide
theorem ostmt_ne : 35 ≠ 5 := by decide
theorem ornot {w : World} {k : Nat} {cs : Array Value} {t : TypeId} {f : Nat × Nat} (h : w.heap[k]? = some (.cells cs t f)) (ht : t ≠ 5) : ¬ Row8 w k := by
  intro ⟨cs2, f2, h2⟩
  rw [h] at h2
  simp only [Option.some.injEq, Obj.cells.injEq] at h2
  exact ht h2.2.1
/-- a row of strings just made -/
theorem ostrs_new {w : World} {N : Nat} (h : N < w.heap.size) (xs : List ByteArray) : Strs (w.alloc (.cells (xs.map Value.string).toArray 9)) N (some ⟨w.heap.size, 0, none⟩) xs := by
  have hk : (w.alloc (.cells (xs.map Value.string).toArray 9)).heap[w.heap.size]? = some (.cells (xs.map Value.string).toArray 9 (0, 0)) := heap_alloc_new w _
  refine Or.inr ⟨w.heap.size, 0, rfl, by omega, by simp, ornot hk ost_ne, fun j x hx => ?_⟩
  rw [Lib.cell_of_heap hk, Nat.zero_add]
  simp [hx]
theorem ostC_mk (o : Int) (nm : ByteArray) (mx : Int) (a b : Ex) (bd el : List St) (a1 : Option Addr) (c1 : Nat) (a2 : Option Addr) (c2 : Nat) (a3 : Option Addr) (c3 : Nat) (a4 : Option Addr) (c4 : Nat) : stC (.mk o nm mx a b bd el) a1 c1 a2 c2 a3 c3 a4 c4 = .agg #[.int .i64 o, .string nm, .int .i64 mx, .int .i64 a.op, .int .i64 a.n, .string a.s, .slice a1 a.args.length c1, .int .i64 b.op, .int .i64 b.n, .string b.s, .slice a2 b.args.length c2, .slice a3 bd.length c3, .slice a4 el.length c4] := rfl
theorem ostO_mk (o : Int) (nm : ByteArray) (mx : Int) (a b : Ex) (bd el : List St) (a1 : Option Addr) (c1 : Nat) (a2 : Option Addr) (c2 : Nat) (a3 : Option Addr) (c3 : Nat) (a4 : Option Addr) (c4 : Nat) : stO (.mk o nm mx a b bd el) a1 c1 a2 c2 a3 c3 a4 c4 = .cells #[.int .i64 o, .string nm, .int .i64 mx, .int .i64 a.op, .int .i64 a.n, .string a.s, .slice a1 a.args.length c1, .int .i64 b.op, .int .i64 b.n, .string b.s, .slice a2 b.args.length c2, .slice a3 bd.length c3, .slice a4 el.length c4] 35 := rfl
theorem onoE_op : noE.op = 0 := rfl
theorem onoE_n : noE.n = 0 := rfl
theorem onoE_s : noE.s = none8 := rfl
theorem onoE_args : noE.args = [] := rfl
theorem otxS_1 (nm : ByteArray) (a : Ex) (d : Nat) : txS (.mk 1 nm 0 a noE [] []) d = ind d ++ (kLet ++ 32 :: (str nm ++ 32 :: 61 :: 32 :: (tx a ++ eos))) := by rw [txS]; rfl
theorem otxS_2 (nm : ByteArray) (a : Ex) (d : Nat) : txS (.mk 2 nm 0 a noE [] []) d = ind d ++ (str nm ++ 32 :: 61 :: 32 :: (tx a ++ eos)) := by rw [txS]; rfl
theorem otxS_3 (a b : Ex) (d : Nat) : txS (.mk 3 none8 0 a b [] []) d = ind d ++ (kPut ++ 32 :: (tx a ++ 32 :: 61 :: 32 :: (tx b ++ eos))) := by rw [txS]; rfl
theorem otxS_4 (a : Ex) (d : Nat) : txS (.mk 4 none8 0 a noE [] []) d = ind d ++ (kDel ++ 32 :: (tx a ++ eos)) := by rw [txS]; rfl
theorem otxS_7 (a : Ex) (d : Nat) : txS (.mk 7 none8 0 a noE [] []) d = ind d ++ (kEmit ++ 32 :: (tx a ++ eos)) := by rw [txS]; rfl
theorem otxS_8 (m : Int) (d : Nat) : txS (.mk 8 none8 m noE noE [] []) d = ind d ++ (kAbort ++ 32 :: (Go.Lib.itoa m ++ eos)) := by rw [txS]; rfl
theorem otxS_6 (nm : ByteArray) (m : Int) (a b : Ex) (bd : List St) (d : Nat) : txS (.mk 6 nm m a b bd []) d = ind d ++ (kFor ++ 32 :: (str nm ++ 32 :: 61 :: 32 :: (tx a ++ 32 :: (kTo ++ 32 :: (tx b ++ 32 :: (kMax ++ 32 :: (Go.Lib.itoa m ++ (opb ++ (txB bd (d + 1) ++ (ind d ++ [125, 10])))))))))) := by rw [txS]; rfl
theorem otxS_5 (a : Ex) (bd el : List St) (d : Nat) : txS (.mk 5 none8 0 a noE bd el) d = ind d ++ (kIf ++ 32 :: (tx a ++ (opb ++ (txB bd (d + 1) ++ (ind d ++ 125 :: ((if el.isEmpty then [] else 32 :: (kElse ++ (opb ++ (txB el (d + 1) ++ (ind d ++ [125]))))) ++ [10])))))) := by rw [txS]; rfl
/-- what a method of the writer does with a statement -/
def OMt (F : FuncId) (s : St) (d : Nat) : Prop := ∀ (a1 : Option Addr) (c1 : Nat) (a2 : Option Addr) (c2 : Nat) (a3 : Option Addr) (c3 : Nat) (a4 : Option Addr) (c4 : Nat) (w0 : World) (N : Nat) (l : Str) (w : World), Tab w0 → Below w0.heap.size w0 w → Wr w w0.heap.size N l d → l.length + (txS s d).length ≤ 1000000000000 → StKids w0 s a1 a2 a3 a4 →
  Calls Tryd.prog F #[.pointer (some ⟨N, 0, none⟩), stC s a1 c1 a2 c2 a3 c3 a4 c4] w fun e w' => e = .returned (.tuple #[]) ∧ Wr w' w0.heap.size N (l ++ txS s d) d ∧ Fr w0.heap.size N w w'
/-- a line, whatever its text is called -/
theorem oline_to {B N : Nat} {l : Str} {d : Nat} {w : World} (xs : List ByteArray) (t : Str) (c : Nat) (hd : d ≤ 1000) (hx : xs.length ≤ 1000) (hB : B ≤ w.heap.size) (hW : Wr w B N l d) (ht : ind d ++ (joinS xs ++ [10]) = t) (hl : l.length + t.length ≤ 1000000000000) :
    Calls Tryd.prog 28 #[.pointer (some ⟨N, 0, none⟩), .slice (some ⟨w.heap.size, 0, none⟩) xs.length c] (w.alloc (.cells (xs.map Value.string).toArray 9)) fun e w' => e = .returned (.tuple #[]) ∧ Wr w' B N (l ++ t) d ∧ Fr B N w w' := by
  have hb := below_box w (.cells (xs.map Value.string).toArray 9)
  have hlj : l.length + (joinS xs).length ≤ 10000000000000 := by rw [← ht] at hl; simp only [List.length_append] at hl; omega
  refine (oline_any B N l d _ c xs hd hx hlj _ (Nat.le_trans hB hb.size) (hW.later hb) (ostrs_new hW.lt xs)).mono ?_
  rintro e w' ⟨h1, h2, h3⟩
  exact ⟨h1, by rw [← ht]; exact h2, (Fr.of hb).trans h3⟩
/-- the box of a statement at block K -/
def BoxS (w : World) (K : Nat) (s : St) (a1 : Option Addr) (c1 : Nat) (a2 : Option Addr) (c2 : Nat) (a3 : Option Addr) (c3 : Nat) (a4 : Option Addr) (c4 : Nat) : Prop := w.heap[K]? = some (stO s a1 c1 a2 c2 a3 c3 a4 c4)
section
variable {w w' : World} {K : Nat} {s : St} {a1 : Option Addr} {c1 : Nat} {a2 : Option Addr} {c2 : Nat} {a3 : Option Addr} {c3 : Nat} {a4 : Option Addr} {c4 : Nat}
theorem BoxS.new (w : World) (s : St) (a1 : Option Addr) (c1 : Nat) (a2 : Option Addr) (c2 : Nat) (a3 : Option Addr) (c3 : Nat) (a4 : Option Addr) (c4 : Nat) : BoxS (w.alloc (stO s a1 c1 a2 c2 a3 c3 a4 c4)) w.heap.size s a1 c1 a2 c2 a3 c3 a4 c4 := heap_alloc_new w _
theorem BoxS.lt (h : BoxS w K s a1 c1 a2 c2 a3 c3 a4 c4) : K < w.heap.size := (Array.getElem?_eq_some_iff.1 h).1
theorem BoxS.below (h : BoxS w K s a1 c1 a2 c2 a3 c3 a4 c4) (hb : Below w.heap.size w w') : BoxS w' K s a1 c1 a2 c2 a3 c3 a4 c4 := (hb.block K h.lt).trans h
theorem BoxS.fr {B N : Nat} (h : BoxS w K s a1 c1 a2 c2 a3 c3 a4 c4) (hf : Fr B N w w') (hK : K ≠ N) : BoxS w' K s a1 c1 a2 c2 a3 c3 a4 c4 := (hf.block K h.lt hK (Or.inr (ornot (show w.heap[K]? = some (.cells _ 35 (0, 0)) from h) ostmt_ne))).trans h
theorem BoxS.cells (h : BoxS w K s a1 c1 a2 c2 a3 c3 a4 c4) : StCells w s K 0 a1 c1 a2 c2 a3 c3 a4 c4 := by
  have hk : w.heap[K]? = some (.cells _ 35 (0, 0)) := h
  exact ⟨by rw [Lib.cell_of_heap hk]; rfl, by rw [Lib.cell_of_heap hk]; rfl, by rw [Lib.cell_of_heap hk]; rfl, by rw [Lib.cell_of_heap hk]; rfl, by rw [Lib.cell_of_heap hk]; rfl, by rw [Lib.cell_of_heap hk]; rfl, by rw [Lib.cell_of_heap hk]; rfl, by rw [Lib.cell_of_heap hk]; rfl, by rw [Lib.cell_of_heap hk]; rfl, by rw [Lib.cell_of_heap hk]; rfl, by rw [Lib.cell_of_heap hk]; rfl, by rw [Lib.cell_of_heap hk]; rfl, by rw [Lib.cell_of_heap hk]; rfl⟩
end
theorem ofmt_any (n : Int) (h0 : 0 ≤ n) (h1 : n ≤ 9223372036854775807) (w : World) (ht : Tab w) : Calls Tryd.prog 55 #[.int .i64 n] w fun e w' => e = .returned (.string (ba (Go.Lib.itoa n))) ∧ Below w.heap.size w w' := format_any n (by omega) h1 w ht.pow
set_option maxHeartbeats 2000000 in
set_option maxRecDepth 100000 in
theorem oemit_any (a : Ex) (wa : W 12 a) (d : Nat) (hd : d ≤ 100) : OMt 73 (.mk 7 none8 0 a noE [] []) d := by
  intro a1 c1 a2 c2 a3 c3 a4 c4 w0 N l w ht hb0 hW hl hK
  have hbx := below_box w (stO (.mk 7 none8 0 a noE [] []) a1 c1 a2 c2 a3 c3 a4 c4)
  have hb1 := hb0.trans (hbx.mono hb0.size)
  have hz := hb1.size
  have HA := Lib.hid (oexprText_any wa (by decide) a1 c1 _ (ht.below hb1) (hK.a.below hb1))
  have HW := Lib.hid (fun w2 (hb : Below _ _ w2) => (hW.later hbx).later hb)
  have HZ := Lib.hid (fun w2 (hb : Below (w.alloc (stO (.mk 7 none8 0 a noE [] []) a1 c1 a2 c2 a3 c3 a4 c4)).heap.size (w.alloc (stO (.mk 7 none8 0 a noE [] []) a1 c1 a2 c2 a3 c3 a4 c4)) w2) => Nat.le_trans hz hb.size)
  have HF := Lib.hid (fun w2 (hb : Below _ _ w2) => (Fr.of (B := w0.heap.size) (N := N) hbx).trans (Fr.of hb))
  have HX := Lib.hid (oba_list (tx a))
  rw [otxS_7] at hl ⊢
  have HT : Hid (ind d ++ (joinS [⟨#[101, 109, 105, 116, 32]⟩, ba (tx a), ⟨#[59]⟩] ++ [10]) = ind d ++ (kEmit ++ 32 :: (tx a ++ eos))) := by
    show _ = _
    unfold joinS
    simp [HX.out, kEmit, eos]
  have HL := Lib.hid hl
  generalize ind d ++ (kEmit ++ 32 :: (tx a ++ eos)) = t at HT HL ⊢
  generalize ba (tx a) = T at HA HX HT
  unfold exV at HA
  simp only [ostC_mk, ostO_mk, List.length_nil, onoE_op, onoE_n, onoE_s, onoE_args] at *
  clear hbx hb1 ht hK hl hz hW hb0 wa
  go_enter Tryd.func73, Tryd.ntmps73
  go_wp2_with fail
  refine HA.out.mono ?_; rintro e w2 ⟨rfl, hb2⟩
  have HC := Lib.hid (oline_to [⟨#[101, 109, 105, 116, 32]⟩, T, ⟨#[59]⟩] t 3 (by omega) (by simp) (HZ.out w2 hb2) (HW.out w2 hb2) HT.out HL.out)
  have HF2 := Lib.hid (HF.out w2 hb2)
  clear hb2
  go_wp2_with fail
  refine HC.out.mono ?_; rintro e w3 ⟨rfl, hW3, hF3⟩
  have HW3 := Lib.hid hW3
  have HF3 := Lib.hid (HF2.out.trans hF3)
  clear hW3 hF3
  go_wp2_with fail
  go_end0
  exact ⟨rfl, HW3.out, HF3.out⟩
set_option maxHeartbeats 2000000 in
set_option maxRecDepth 100000 in
theorem oremove_any (a : Ex) (wa : W 12 a) (d : Nat) (hd : d ≤ 100) : OMt 70 (.mk 4 none8 0 a noE [] []) d := by
  intro a1 c1 a2 c2 a3 c3 a4 c4 w0 N l w ht hb0 hW hl hK
  have hbx := below_box w (stO (.mk 4 none8 0 a noE [] []) a1 c1 a2 c2 a3 c3 a4 c4)
  have hb1 := hb0.trans (hbx.mono hb0.size)
  have hz := hb1.size
  have HA := Lib.hid (oexprText_any wa (by decide) a1 c1 _ (ht.below hb1) (hK.a.below hb1))
  have HW := Lib.hid (fun w2 (hb : Below _ _ w2) => (hW.later hbx).later hb)
  have HZ := Lib.hid (fun w2 (hb : Below (w.alloc (stO (.mk 4 none8 0 a noE [] []) a1 c1 a2 c2 a3 c3 a4 c4)).heap.size (w.alloc (stO (.mk 4 none8 0 a noE [] []) a1 c1 a2 c2 a3 c3 a4 c4)) w2) => Nat.le_trans hz hb.size)
  have HF := Lib.hid (fun w2 (hb : Below _ _ w2) => (Fr.of (B := w0.heap.size) (N := N) hbx).trans (Fr.of hb))
  have HX := Lib.hid (oba_list (tx a))
  rw [otxS_4] at hl ⊢
  have HT : Hid (ind d ++ (joinS [⟨#[100, 101, 108, 101, 116, 101, 32]⟩, ba (tx a), ⟨#[59]⟩] ++ [10]) = ind d ++ (kDel ++ 32 :: (tx a ++ eos))) := by
    show _ = _
    unfold joinS
    simp [HX.out, kDel, eos]
  have HL := Lib.hid hl
  generalize ind d ++ (kDel ++ 32 :: (tx a ++ eos)) = t at HT HL ⊢
  generalize ba (tx a) = T at HA HX HT
  unfold exV at HA
  simp only [ostC_mk, ostO_mk, List.length_nil, onoE_op, onoE_n, onoE_s, onoE_args] at *
  clear hbx hb1 ht hK hl hz hW hb0 wa
  go_enter Tryd.func70, Tryd.ntmps70
  go_wp2_with fail
  refine HA.out.mono ?_; rintro e w2 ⟨rfl, hb2⟩
  have HC := Lib.hid (oline_to [⟨#[100, 101, 108, 101, 116, 101, 32]⟩, T, ⟨#[59]⟩] t 3 (by omega) (by simp) (HZ.out w2 hb2) (HW.out w2 hb2) HT.out HL.out)
  have HF2 := Lib.hid (HF.out w2 hb2)
  clear hb2
  go_wp2_with fail
  refine HC.out.mono ?_; rintro e w3 ⟨rfl, hW3, hF3⟩
  have HW3 := Lib.hid hW3
  have HF3 := Lib.hid (HF2.out.trans hF3)
  clear hW3 hF3
  go_wp2_with fail
  go_end0
  exact ⟨rfl, HW3.out, HF3.out⟩
set_option maxHeartbeats 2000000 in
set_option maxRecDepth 100000 in
theorem oabort_any (m : Int) (h0 : 0 ≤ m) (h1 : m ≤ 999) (d : Nat) (hd : d ≤ 100) : OMt 74 (.mk 8 none8 m noE noE [] []) d := by
  intro a1 c1 a2 c2 a3 c3 a4 c4 w0 N l w ht hb0 hW hl hK
  have hbx := below_box w (stO (.mk 8 none8 m noE noE [] []) a1 c1 a2 c2 a3 c3 a4 c4)
  have hb1 := hb0.trans (hbx.mono hb0.size)
  have hz := hb1.size
  have HA := Lib.hid (ofmt_any m (by omega) (by omega) _ (ht.below hb1))
  have HW := Lib.hid (fun w2 (hb : Below _ _ w2) => (hW.later hbx).later hb)
  have HZ := Lib.hid (fun w2 (hb : Below (w.alloc (stO (.mk 8 none8 m noE noE [] []) a1 c1 a2 c2 a3 c3 a4 c4)).heap.size (w.alloc (stO (.mk 8 none8 m noE noE [] []) a1 c1 a2 c2 a3 c3 a4 c4)) w2) => Nat.le_trans hz hb.size)
  have HF := Lib.hid (fun w2 (hb : Below _ _ w2) => (Fr.of (B := w0.heap.size) (N := N) hbx).trans (Fr.of hb))
  have HX := Lib.hid (oba_list (Go.Lib.itoa m))
  rw [otxS_8] at hl ⊢
  have HT : Hid (ind d ++ (joinS [⟨#[97, 98, 111, 114, 116, 32]⟩, ba (Go.Lib.itoa m), ⟨#[59]⟩] ++ [10]) = ind d ++ (kAbort ++ 32 :: (Go.Lib.itoa m ++ eos))) := by
    show _ = _
    unfold joinS
    simp [HX.out, kAbort, eos]
  have HL := Lib.hid hl
  generalize ind d ++ (kAbort ++ 32 :: (Go.Lib.itoa m ++ eos)) = t at HT HL ⊢
  generalize ba (Go.Lib.itoa m) = T at HA HX HT
  simp only [ostC_mk, ostO_mk, List.length_nil, onoE_op, onoE_n, onoE_s, onoE_args] at *
  clear hbx hb1 ht hK hl hz hW hb0
  go_enter Tryd.func74, Tryd.ntmps74
  go_wp2_with fail
  refine HA.out.mono ?_; rintro e w2 ⟨rfl, hb2⟩
  have HC := Lib.hid (oline_to [⟨#[97, 98, 111, 114, 116, 32]⟩, T, ⟨#[59]⟩] t 3 (by omega) (by simp) (HZ.out w2 hb2) (HW.out w2 hb2) HT.out HL.out)
  have HF2 := Lib.hid (HF.out w2 hb2)
  clear hb2
  go_wp2_with fail
  refine HC.out.mono ?_; rintro e w3 ⟨rfl, hW3, hF3⟩
  have HW3 := Lib.hid hW3
  have HF3 := Lib.hid (HF2.out.trans hF3)
  clear hW3 hF3
  go_wp2_with fail
  go_end0
  exact ⟨rfl, HW3.out, HF3.out⟩
set_option maxHeartbeats 2000000 in
set_option maxRecDepth 100000 in
theorem olet_any (nm : ByteArray) (a : Ex) (_hn : nam nm = true) (wa : W 12 a) (d : Nat) (hd : d ≤ 100) : OMt 67 (.mk 1 nm 0 a noE [] []) d := by
  intro a1 c1 a2 c2 a3 c3 a4 c4 w0 N l w ht hb0 hW hl hK
  have hbx := below_2 (below_box w (stO (.mk 1 nm 0 a noE [] []) a1 c1 a2 c2 a3 c3 a4 c4)) (L.below_drew _)
  have hb1 := hb0.trans (hbx.mono hb0.size)
  have hz := hb1.size
  have hne : w.heap.size ≠ N := by have := hW.lt; omega
  have HBx := Lib.hid ((BoxS.new w (.mk 1 nm 0 a noE [] []) a1 c1 a2 c2 a3 c3 a4 c4).below (L.below_drew _))
  have HNe := Lib.hid hne
  have HA := Lib.hid (oexprText_any wa (by decide) a1 c1 _ (ht.below hb1) (hK.a.below hb1))
  have HW := Lib.hid (fun w2 (hb : Below _ _ w2) => (hW.later hbx).later hb)
  have HZ := Lib.hid (fun w2 (hb : Below (w.alloc (stO (.mk 1 nm 0 a noE [] []) a1 c1 a2 c2 a3 c3 a4 c4)).drew.heap.size (w.alloc (stO (.mk 1 nm 0 a noE [] []) a1 c1 a2 c2 a3 c3 a4 c4)).drew w2) => Nat.le_trans hz hb.size)
  have HF := Lib.hid (fun w2 (hb : Below _ _ w2) => (Fr.of (B := w0.heap.size) (N := N) hbx).trans (Fr.of hb))
  have HX := Lib.hid (oba_list (tx a))
  rw [otxS_1] at hl ⊢
  have HT : Hid (ind d ++ (joinS [⟨#[108, 101, 116, 32]⟩, nm, ⟨#[32, 61, 32]⟩, ba (tx a), ⟨#[59]⟩] ++ [10]) = ind d ++ (kLet ++ 32 :: (str nm ++ 32 :: 61 :: 32 :: (tx a ++ eos)))) := by
    show _ = _
    unfold joinS
    simp [HX.out, kLet, eos, str]
  have HL := Lib.hid hl
  generalize ind d ++ (kLet ++ 32 :: (str nm ++ 32 :: 61 :: 32 :: (tx a ++ eos))) = t at HT HL ⊢
  generalize ba (tx a) = T at HA HX HT
  unfold exV at HA
  simp only [ostC_mk, ostO_mk, List.length_nil, onoE_op, onoE_n, onoE_s, onoE_args] at *
  clear hbx hb1 ht hK hl hz hW hb0 wa hne _hn
  go_enter Tryd.func67, Tryd.ntmps67
  go_wp2_with fail
  go_region_held3 (fun w' => w'.cell? ⟨w.heap.size, 1, none⟩ = some (.string nm) ∧ w'.cell? ⟨w.heap.size, 3, none⟩ = some (.int .i64 a.op) ∧ w'.cell? ⟨w.heap.size, 4, none⟩ = some (.int .i64 a.n) ∧ w'.cell? ⟨w.heap.size, 5, none⟩ = some (.string a.s) ∧ w'.cell? ⟨w.heap.size, 6, none⟩ = some (.slice a1 a.args.length c1)) (first | exact ⟨i1, i3, i4, i5, i6⟩ | exact ⟨j1, j3, j4, j5, j6⟩ | exact ⟨(HAl.out _).k1, (HAl.out _).k3, (HAl.out _).k4, (HAl.out _).k5, (HAl.out _).k6⟩ | go_keep | (refine ⟨?_, ?_, ?_, ?_, ?_⟩ <;> go_simp))
    (first
      | (go_at_call 25; (with_reducible refine HA.out.mono ?_); rintro e w2 ⟨rfl, hb2⟩; have HB2 := Lib.hid hb2; have HBz := Lib.hid (HBx.out.below hb2); have HAl := Lib.hid (fun o => (HBz.out.below (below_box w2 o)).cells); have i1 := HBz.out.cells.k1; have i3 := HBz.out.cells.k3; have i4 := HBz.out.cells.k4; have i5 := HBz.out.cells.k5; have i6 := HBz.out.cells.k6; simp only [Nat.zero_add] at i1 i3 i4 i5 i6; have HC := Lib.hid (oline_to [⟨#[108, 101, 116, 32]⟩, nm, ⟨#[32, 61, 32]⟩, T, ⟨#[59]⟩] t 5 (by omega) (by simp) (HZ.out w2 HB2.out) (HW.out w2 HB2.out) HT.out HL.out); clear hb2)
      | (go_at_call 28; refine HC.out.mono ?_; rintro e w3 ⟨rfl, hW3, hF3⟩; have HW3 := Lib.hid hW3; have HF3 := Lib.hid ((HF.out w2 HB2.out).trans hF3); have HBj := Lib.hid (HBz.out.fr hF3 HNe.out); have j1 := HBj.out.cells.k1; have j3 := HBj.out.cells.k3; have j4 := HBj.out.cells.k4; have j5 := HBj.out.cells.k5; have j6 := HBj.out.cells.k6; simp only [Nat.zero_add] at j1 j3 j4 j5 j6; clear hW3 hF3))
  go_wp2_with fail
  go_end0
  exact ⟨rfl, HW3.out, HF3.out⟩
set_option maxHeartbeats 2000000 in
set_option maxRecDepth 100000 in
theorem oset_any (nm : ByteArray) (a : Ex) (_hn : nam nm = true) (wa : W 12 a) (d : Nat) (hd : d ≤ 100) : OMt 68 (.mk 2 nm 0 a noE [] []) d := by
  intro a1 c1 a2 c2 a3 c3 a4 c4 w0 N l w ht hb0 hW hl hK
  have hbx := below_2 (below_box w (stO (.mk 2 nm 0 a noE [] []) a1 c1 a2 c2 a3 c3 a4 c4)) (L.below_drew _)
  have hb1 := hb0.trans (hbx.mono hb0.size)
  have hz := hb1.size
  have hne : w.heap.size ≠ N := by have := hW.lt; omega
  have HBx := Lib.hid ((BoxS.new w (.mk 2 nm 0 a noE [] []) a1 c1 a2 c2 a3 c3 a4 c4).below (L.below_drew _))
  have HNe := Lib.hid hne
  have HA := Lib.hid (oexprText_any wa (by decide) a1 c1 _ (ht.below hb1) (hK.a.below hb1))
  have HW := Lib.hid (fun w2 (hb : Below _ _ w2) => (hW.later hbx).later hb)
  have HZ := Lib.hid (fun w2 (hb : Below (w.alloc (stO (.mk 2 nm 0 a noE [] []) a1 c1 a2 c2 a3 c3 a4 c4)).drew.heap.size (w.alloc (stO (.mk 2 nm 0 a noE [] []) a1 c1 a2 c2 a3 c3 a4 c4)).drew w2) => Nat.le_trans hz hb.size)
  have HF := Lib.hid (fun w2 (hb : Below _ _ w2) => (Fr.of (B := w0.heap.size) (N := N) hbx).trans (Fr.of hb))
  have HX := Lib.hid (oba_list (tx a))
  rw [otxS_2] at hl ⊢
  have HT : Hid (ind d ++ (joinS [nm, ⟨#[32, 61, 32]⟩, ba (tx a), ⟨#[59]⟩] ++ [10]) = ind d ++ (str nm ++ 32 :: 61 :: 32 :: (tx a ++ eos))) := by
    show _ = _
    unfold joinS
    simp [HX.out, eos, str]
  have HL := Lib.hid hl
  generalize ind d ++ (str nm ++ 32 :: 61 :: 32 :: (tx a ++ eos)) = t at HT HL ⊢
  generalize ba (tx a) = T at HA HX HT
  unfold exV at HA
  simp only [ostC_mk, ostO_mk, List.length_nil, onoE_op, onoE_n, onoE_s, onoE_args] at *
  clear hbx hb1 ht hK hl hz hW hb0 wa hne _hn
  go_enter Tryd.func68, Tryd.ntmps68
  go_wp2_with fail
  go_region_held3 (fun w' => w'.cell? ⟨w.heap.size, 1, none⟩ = some (.string nm) ∧ w'.cell? ⟨w.heap.size, 3, none⟩ = some (.int .i64 a.op) ∧ w'.cell? ⟨w.heap.size, 4, none⟩ = some (.int .i64 a.n) ∧ w'.cell? ⟨w.heap.size, 5, none⟩ = some (.string a.s) ∧ w'.cell? ⟨w.heap.size, 6, none⟩ = some (.slice a1 a.args.length c1)) (first | exact ⟨i1, i3, i4, i5, i6⟩ | exact ⟨j1, j3, j4, j5, j6⟩ | exact ⟨(HAl.out _).k1, (HAl.out _).k3, (HAl.out _).k4, (HAl.out _).k5, (HAl.out _).k6⟩ | go_keep | (refine ⟨?_, ?_, ?_, ?_, ?_⟩ <;> go_simp))
    (first
      | (go_at_call 25; (with_reducible refine HA.out.mono ?_); rintro e w2 ⟨rfl, hb2⟩; have HB2 := Lib.hid hb2; have HBz := Lib.hid (HBx.out.below hb2); have HAl := Lib.hid (fun o => (HBz.out.below (below_box w2 o)).cells); have i1 := HBz.out.cells.k1; have i3 := HBz.out.cells.k3; have i4 := HBz.out.cells.k4; have i5 := HBz.out.cells.k5; have i6 := HBz.out.cells.k6; simp only [Nat.zero_add] at i1 i3 i4 i5 i6; have HC := Lib.hid (oline_to [nm, ⟨#[32, 61, 32]⟩, T, ⟨#[59]⟩] t 4 (by omega) (by simp) (HZ.out w2 HB2.out) (HW.out w2 HB2.out) HT.out HL.out); clear hb2)
      | (go_at_call 28; refine HC.out.mono ?_; rintro e w3 ⟨rfl, hW3, hF3⟩; have HW3 := Lib.hid hW3; have HF3 := Lib.hid ((HF.out w2 HB2.out).trans hF3); have HBj := Lib.hid (HBz.out.fr hF3 HNe.out); have j1 := HBj.out.cells.k1; have j3 := HBj.out.cells.k3; have j4 := HBj.out.cells.k4; have j5 := HBj.out.cells.k5; have j6 := HBj.out.cells.k6; simp only [Nat.zero_add] at j1 j3 j4 j5 j6; clear hW3 hF3))
  go_wp2_with fail
  go_end0
  exact ⟨rfl, HW3.out, HF3.out⟩
set_option maxHeartbeats 2000000 in
set_option maxRecDepth 100000 in
theorem oput_any (a b : Ex) (wa : W 12 a) (wb : W 12 b) (d : Nat) (hd : d ≤ 100) : OMt 69 (.mk 3 none8 0 a b [] []) d := by
  intro a1 c1 a2 c2 a3 c3 a4 c4 w0 N l w ht hb0 hW hl hK
  have hbx := below_2 (below_box w (stO (.mk 3 none8 0 a b [] []) a1 c1 a2 c2 a3 c3 a4 c4)) (L.below_drew _)
  have hb1 := hb0.trans (hbx.mono hb0.size)
  have hz := hb1.size
  have hne : w.heap.size ≠ N := by have := hW.lt; omega
  have HBx := Lib.hid ((BoxS.new w (.mk 3 none8 0 a b [] []) a1 c1 a2 c2 a3 c3 a4 c4).below (L.below_drew _))
  have HNe := Lib.hid hne
  have HA := Lib.hid (oexprText_any wa (by decide) a1 c1 _ (ht.below hb1) (hK.a.below hb1))
  have HY := Lib.hid (fun w2 (hb : Below (w.alloc (stO (.mk 3 none8 0 a b [] []) a1 c1 a2 c2 a3 c3 a4 c4)).drew.heap.size (w.alloc (stO (.mk 3 none8 0 a b [] []) a1 c1 a2 c2 a3 c3 a4 c4)).drew w2) => oexprText_any wb (by decide) a2 c2 w2 ((ht.below hb1).below hb) ((hK.b.below hb1).below hb))
  have HW := Lib.hid (fun w2 (hb : Below _ _ w2) => (hW.later hbx).later hb)
  have HZ := Lib.hid (fun w2 (hb : Below (w.alloc (stO (.mk 3 none8 0 a b [] []) a1 c1 a2 c2 a3 c3 a4 c4)).drew.heap.size (w.alloc (stO (.mk 3 none8 0 a b [] []) a1 c1 a2 c2 a3 c3 a4 c4)).drew w2) => Nat.le_trans hz hb.size)
  have HF := Lib.hid (fun w2 (hb : Below _ _ w2) => (Fr.of (B := w0.heap.size) (N := N) hbx).trans (Fr.of hb))
  have HX := Lib.hid (oba_list (tx a))
  have HXb := Lib.hid (oba_list (tx b))
  rw [otxS_3] at hl ⊢
  have HT : Hid (ind d ++ (joinS [⟨#[112, 117, 116, 32]⟩, ba (tx a), ⟨#[32, 61, 32]⟩, ba (tx b), ⟨#[59]⟩] ++ [10]) = ind d ++ (kPut ++ 32 :: (tx a ++ 32 :: 61 :: 32 :: (tx b ++ eos)))) := by
    show _ = _
    unfold joinS
    simp [HX.out, HXb.out, kPut, eos]
  have HL := Lib.hid hl
  generalize ind d ++ (kPut ++ 32 :: (tx a ++ 32 :: 61 :: 32 :: (tx b ++ eos))) = t at HT HL ⊢
  generalize ba (tx a) = T at HA HX HT
  generalize ba (tx b) = U at HY HXb HT
  unfold exV at HY
  unfold exV at HA
  simp only [ostC_mk, ostO_mk, List.length_nil] at *
  clear hbx hb1 ht hK hl hz hW hb0 wa hne wb
  go_enter Tryd.func69, Tryd.ntmps69
  go_wp2_with fail
  go_region_held3 (fun w' => w'.cell? ⟨w.heap.size, 3, none⟩ = some (.int .i64 a.op) ∧ w'.cell? ⟨w.heap.size, 4, none⟩ = some (.int .i64 a.n) ∧ w'.cell? ⟨w.heap.size, 5, none⟩ = some (.string a.s) ∧ w'.cell? ⟨w.heap.size, 6, none⟩ = some (.slice a1 a.args.length c1) ∧ w'.cell? ⟨w.heap.size, 7, none⟩ = some (.int .i64 b.op) ∧ w'.cell? ⟨w.heap.size, 8, none⟩ = some (.int .i64 b.n) ∧ w'.cell? ⟨w.heap.size, 9, none⟩ = some (.string b.s) ∧ w'.cell? ⟨w.heap.size, 10, none⟩ = some (.slice a2 b.args.length c2)) (first | exact ⟨h3, h4, h5, h6, h7, h8, h9, h10⟩ | exact ⟨i3, i4, i5, i6, i7, i8, i9, i10⟩ | exact ⟨j3, j4, j5, j6, j7, j8, j9, j10⟩ | exact ⟨(HAl.out _).k3, (HAl.out _).k4, (HAl.out _).k5, (HAl.out _).k6, (HAl.out _).k7, (HAl.out _).k8, (HAl.out _).k9, (HAl.out _).k10⟩ | go_keep | (refine ⟨?_, ?_, ?_, ?_, ?_, ?_, ?_, ?_⟩ <;> go_simp))
    (first
      | (go_at_call 25; (with_reducible refine HA.out.mono ?_); rintro e w1 ⟨rfl, hb1⟩; have HB1 := Lib.hid hb1; have HBy := Lib.hid (HBx.out.below hb1); have h3 := HBy.out.cells.k3; have h4 := HBy.out.cells.k4; have h5 := HBy.out.cells.k5; have h6 := HBy.out.cells.k6; have h7 := HBy.out.cells.k7; have h8 := HBy.out.cells.k8; have h9 := HBy.out.cells.k9; have h10 := HBy.out.cells.k10; simp only [Nat.zero_add] at h3 h4 h5 h6 h7 h8 h9 h10; clear hb1)
      | (go_at_call 25; (with_reducible refine (HY.out _ HB1.out).mono ?_); rintro e w2 ⟨rfl, hb2⟩; have HB2 := Lib.hid (below_2 HB1.out hb2); have HBz := Lib.hid (HBy.out.below hb2); have HAl := Lib.hid (fun o => (HBz.out.below (below_box w2 o)).cells); have i3 := HBz.out.cells.k3; have i4 := HBz.out.cells.k4; have i5 := HBz.out.cells.k5; have i6 := HBz.out.cells.k6; have i7 := HBz.out.cells.k7; have i8 := HBz.out.cells.k8; have i9 := HBz.out.cells.k9; have i10 := HBz.out.cells.k10; simp only [Nat.zero_add] at i3 i4 i5 i6 i7 i8 i9 i10; have HC := Lib.hid (oline_to [⟨#[112, 117, 116, 32]⟩, T, ⟨#[32, 61, 32]⟩, U, ⟨#[59]⟩] t 5 (by omega) (by simp) (HZ.out w2 HB2.out) (HW.out w2 HB2.out) HT.out HL.out); clear hb2)
      | (go_at_call 28; refine HC.out.mono ?_; rintro e w3 ⟨rfl, hW3, hF3⟩; have HW3 := Lib.hid hW3; have HF3 := Lib.hid ((HF.out w2 HB2.out).trans hF3); have HBj := Lib.hid (HBz.out.fr hF3 HNe.out); have j3 := HBj.out.cells.k3; have j4 := HBj.out.cells.k4; have j5 := HBj.out.cells.k5; have j6 := HBj.out.cells.k6; have j7 := HBj.out.cells.k7; have j8 := HBj.out.cells.k8; have j9 := HBj.out.cells.k9; have j10 := HBj.out.cells.k10; simp only [Nat.zero_add] at j3 j4 j5 j6 j7 j8 j9 j10; clear hW3 hF3))
  go_wp2_with fail
  go_end0
  exact ⟨rfl, HW3.out, HF3.out⟩
end Go.Proofs.YtbmdadhbkdkgmaaDoor.P
