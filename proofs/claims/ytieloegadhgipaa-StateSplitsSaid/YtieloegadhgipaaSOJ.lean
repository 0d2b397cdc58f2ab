/-
  What the program's own Encode of layer 6 returns: its contract. A row of bytes that a conversion of a string has made bears the run-time's mark behind its last cell: strings are appended to it.
-/
import Derived.Test.YtieloegadhgipaaSOI
import Derived.Test.YtieloegadhgipaaVals
import Derived.Lib.AppendStr
import Derived.Laws.IdiomStrings
namespace Go.Proofs.Ytieloegadhgipaa.S
open Go.RowKit
open Go.Proofs.Ytieloegadhgipaa.V (ret_bool ret_int ret_string below_2 below_box below_box2 size_len)
open Go.Lib (strCells strCells_length strCells_oneCell)

/-! ### a row of bytes that is the call's own, none of whose cells is marked -/

/-- no cell below n lies in the marked range -/
def Clear (fz : Nat × Nat) (n : Nat) : Prop := ∀ k, k < n → (decide (fz.1 ≤ k) && decide (k < fz.2)) = false
/-- the slice v, of n bytes, lies in a block of its own from B on; its cells are xs and, behind them, spare ones, all free -/
def Row8 (w : World) (B : Nat) (v : Value) (n : Nat) (xs : List Value) : Prop :=
  xs.length = n ∧ ∃ g cap cur fz, v = .slice (some ⟨g, 0, none⟩) n cap ∧ B ≤ g ∧ w.heap[g]? = some (.cells cur 5 fz) ∧ Clear fz cap ∧ n ≤ cap ∧ cap ≤ maxLen ∧ cur.size = cap ∧ cur.toList.take n = xs
theorem store_free (P : Program) (g o : Nat) (t : TypeId) (fz : Nat × Nat) : ∀ (vs : List Value) (i : Nat) (cur : Array Value) (w : World), w.heap[g]? = some (.cells cur t fz) → Clear fz cur.size → o + i + vs.length ≤ cur.size → (∀ v ∈ vs, v.oneCell' = true) →
    (storeCells ⟨g, o, none⟩ vs i).run P w = .ok () (w.setRow g (cur.toList.take (o + i) ++ vs ++ cur.toList.drop (o + i + vs.length)).toArray) := by
  intro vs
  induction vs with
  | nil =>
    intro i cur w hg _ _ _
    rw [List.append_nil, List.length_nil, Nat.add_zero, List.take_append_drop, Array.toArray_toList, setRow_self w g cur t fz hg]
    rfl
  | cons v vs ih =>
    intro i cur w hg hfz hl h1
    rw [List.length_cons] at hl
    have hi : o + i < cur.size := by omega
    have hadd : (⟨g, o, none⟩ : Addr).add i = ⟨g, o + i, none⟩ := Addr.add_lit _ _ _
    have hcell : w.cell? ⟨g, o + i, none⟩ = some cur[o + i] := by
      rw [cell_of_row w g (o + i) cur t fz hg]
      exact Array.getElem?_eq_getElem hi
    have hfro : w.frozen? ⟨g, o + i, none⟩ = false := by
      have := hfz (o + i) hi
      simp only [World.frozen?, hg]
      exact this
    have hst : (store ((⟨g, o, none⟩ : Addr).add i) v).run P w = .ok () (w.setRow g (cur.setIfInBounds (o + i) v)) := by
      rw [hadd, run_store P w _ v _ (h1 v List.mem_cons_self), hcell]
      simp [hfro, setCell_eq_setRow w g (o + i) cur t fz v hg]
    have e2 := ih (i + 1) (cur.setIfInBounds (o + i) v) (w.setRow g (cur.setIfInBounds (o + i) v)) (setRow_heap w g cur _ t fz hg) (by simpa using hfz) (by simp; omega) fun x hx => h1 x (List.mem_cons_of_mem _ hx)
    have e3 := list_seg_step cur.toList (o + i) v vs (by simp; omega)
    simp only [storeCells, Sem.run_bind, hst, Result.andThen_ok, e2, setRow_setRow]
    congr 3
    simpa [Array.toList_setIfInBounds, Nat.add_assoc] using e3
theorem Row8.own {w : World} {B n : Nat} {v : Value} {xs : List Value} (h : w.ownsRow B 5 1 v n xs) (hn : v ≠ .slice none 0 0) : Row8 w B v n xs := by
  refine ⟨by have := h.1; omega, ?_⟩
  rcases h.2 with ⟨h0, _⟩ | ⟨g, cap, cur, hv, hb, hg, hnc, hcm, hcs, ht⟩
  · exact absurd h0 hn
  · exact ⟨g, cap, cur, (0, 0), hv, hb, hg, fun k _ => by simp, hnc, hcm, by omega, by rw [Nat.mul_one] at ht; exact ht⟩
theorem info_byte : (Try.prog.info? 5).map (fun i => (i.zero, i.size, i.bytes)) = some (some (.int .u8 0), 1, 1) := by kernel_rfl
/-- a string's bytes appended to such a row -/
theorem run_append_row8 (w : World) (B : Nat) (ty : TypeId) (v : Value) (n : Nat) (xs : List Value) (h : Row8 w B v n xs) (s : ByteArray) (hsz : n + s.size ≤ 140737488355328) (hB : B ≤ w.heap.size) :
    ∃ v' w', (Builtin.append_ #[64, 9] ty #[v, .string s]).run Try.prog w = .ok v' w' ∧ Row8 w' B v' (n + s.size) (xs ++ strCells s) ∧ w.grownBy w' v.ownBlock := by
  obtain ⟨i, hi, hz, hsize, hby⟩ := info_parts info_byte
  obtain ⟨hxl, g, cap, cur, fz, rfl, hbg, hg, hfz, hnc, hcm, hcs, ht⟩ := h
  have hlen : (xs ++ strCells s).length = n + s.size := by rw [List.length_append, hxl, strCells_length]
  by_cases hroom : n + s.size ≤ cap
  · have hst := store_free Try.prog g n 5 fz (strCells s) 0 cur w hg (by rw [hcs]; exact hfz) (by rw [strCells_length]; omega) (strCells_oneCell s)
    rw [Nat.add_zero, strCells_length, ht] at hst
    have hr : (Builtin.append_ #[64, 9] ty #[.slice (some ⟨g, 0, none⟩) n cap, .string s]).run Try.prog w = .ok (.slice (some ⟨g, 0, none⟩) (n + s.size) cap) (w.setRow g (xs ++ strCells s ++ cur.toList.drop (n + s.size)).toArray) := by
      have hf := Lib.run_firstCells_string (P := Try.prog) w 1 s
      simp [Builtin.append_, run_underlying Try.underlying64, run_underlying Try.underlying9, sizeOf, typeInfo, hi, hsize, Builtin.lenOf, hroom, hf, Addr.add_lit, hst]
    refine ⟨_, _, hr, ⟨hlen, g, cap, _, fz, rfl, hbg, setRow_heap w g cur _ _ fz hg, hfz, hroom, hcm, ?_, ?_⟩, ⟨rfl, rfl, rfl, by simp, fun k _ hk => setRow_other w g k _ (fun e => hk (by simp [Value.ownBlock, e]))⟩⟩
    · simp only [List.size_toArray, List.length_append, hxl, strCells_length, List.length_drop, Array.length_toList]
      omega
    · rw [List.toList_toArray, ← hlen]
      exact List.take_left
  · have hr := Lib.run_append_grow_string (P := Try.prog) w 64 9 ty 5 i (.int .u8 0) Try.underlying64 Try.underlying9 hi hz ⟨g, 0, none⟩ n cap xs (by rw [hsize]; omega)
      (fun j u hu => by
        have hj : j < n := by rw [← hxl]; exact (List.getElem?_eq_some_iff.1 hu).1
        rw [Addr.add_lit, Nat.zero_add, cell_of_row w g j cur _ fz hg, ← Array.getElem?_toList, ← hu, ← ht, List.getElem?_take, if_pos hj])
      s (by omega) (by omega) (by rw [hby]; exact growslice_fits (by omega) (by omega))
    have hge := grownCap_ge w (n + s.size) cap 5
    have hle := grownCap_le_maxLen w (n + s.size) cap 5 (by unfold maxLen; omega)
    refine ⟨_, _, hr, ⟨hlen, w.heap.size, _, _, (0, 0), rfl, hB, heap_alloc_new w.drew _, fun k _ => by simp, hge, hle, ?_, ?_⟩, ⟨rfl, rfl, rfl, by simp, fun k hk _ => Below.heap_alloc w.drew _ k hk⟩⟩
    · have hz1 : (Value.int IntKind.u8 0).cells.size = 1 := rfl
      simp only [Array.size_append, List.size_toArray, hxl, strCells_length, size_zeroCells, hz1]
      omega
    · simp only [Array.toList_append]
      rw [← hlen]
      exact List.take_left
theorem wpList_append_row8 {w : World} {ops : Array Oper} {rest : List Oper} {o : Oper} {a : Act} {Q : Exit → Act → World → Prop} (hgd : o.guard = none) (sl x : Operand)
    (ho : o.op = .call { callee := .builtin .append, args := #[sl, x], argTypes := #[64, 9] })
    (B : Nat) (v : Value) (n : Nat) (xs : List Value) (hs : a.eval sl = v) (hrow : Row8 w B v n xs) (s : ByteArray) (hx : a.eval x = .string s) (hsz : n + s.size ≤ 140737488355328) (hB : B ≤ w.heap.size)
    (h : ∀ v' w', Row8 w' B v' (n + s.size) (xs ++ strCells s) → w.grownBy w' v.ownBlock → wpList Try.prog ops Q rest (a.put o.dst v') w') : wpList Try.prog ops Q (o :: rest) a w := by
  refine wpList_plain hgd fun K hK => ?_
  obtain ⟨v', w', hr, h2, h3⟩ := run_append_row8 w B o.type v n xs hrow s hsz hB
  unfold Oper.wp execOp
  simp only [ho, resolve, invoke, builtin, Sem.run_bind, Sem.run_pure, Result.andThen_ok, List.map_toArray, List.map_cons, List.map_nil, hs, hx, hr]
  exact hK _ _ (h v' w' h2 h3)
theorem Row8.ge {w : World} {B n : Nat} {v : Value} {xs : List Value} (h : Row8 w B v n xs) : ∀ g, v.ownBlock = some g → B ≤ g ∧ g < w.heap.size := by
  obtain ⟨_, g, cap, cur, fz, rfl, hb, hg, _⟩ := h
  intro k hk
  cases hk
  exact ⟨hb, (Array.getElem?_eq_some_iff.1 hg).1⟩
theorem Row8.below {w w' : World} {B n : Nat} {v : Value} {xs : List Value} (h : Row8 w B v n xs) (hb : Below w.heap.size w w') : Row8 w' B v n xs := by
  obtain ⟨h0, g, cap, cur, fz, hv, hB, hg, r⟩ := h
  exact ⟨h0, g, cap, cur, fz, hv, hB, (hb.block g (Array.getElem?_eq_some_iff.1 hg).1).trans hg, r⟩
/-- the conversion of a string lays such a row -/
theorem conv_row8 (w : World) (s : ByteArray) (hs : s.size ≤ 140737488355328) : ∃ v w', (convert 9 64 (.string s)).run Try.prog w = .ok v w' ∧ Row8 w' w.heap.size v s.size (strCells s) ∧ Below w.heap.size w w' := by
  have hge := grownCap_ge w s.size 0 5
  have hle := grownCap_le_maxLen w s.size 0 5 (by unfold maxLen; omega)
  refine ⟨_, _, run_bytes_of_string (P := Try.prog) w 9 64 5 s Try.underlying9 Try.underlying64 Try.underlying5, ⟨strCells_length s, w.heap.size, _, _, _, rfl, Nat.le_refl _, heap_alloc_new w.drew _, ?_, hge, hle, ?_, ?_⟩, ?_⟩
  · intro k hk
    have : (bytesRow s (grownCap w s.size 0 5)).size = grownCap w s.size 0 5 := by
      have e : s.data.size = s.size := rfl
      simp [bytesRow, e]; omega
    rw [this]
    simp; omega
  · have e : s.data.size = s.size := rfl
    simp [bytesRow, e]; omega
  · have e : s.size = (strCells s).length := (strCells_length s).symm
    have h1 : (bytesRow s (grownCap w s.size 0 5)).toList = strCells s ++ (Array.replicate (grownCap w s.size 0 5 - s.size) (Value.int .u8 0)).toList := by
      simp [bytesRow, strCells]
    rw [h1]
    conv => lhs; arg 1; rw [e]
    exact List.take_left
  · exact ⟨rfl, rfl, rfl, by simp, fun k hk => Below.heap_alloc w.drew _ k hk⟩
/-- and back -/
theorem back_row8 {w : World} {B : Nat} {v : Value} {s : ByteArray} (h : Row8 w B v s.size (strCells s)) : (convert 64 9 v).run Try.prog w = .ok (.string s) w := by
  obtain ⟨_, g, cap, cur, fz, rfl, hb, hg, _, hnc, _, hcs, ht⟩ := h
  have e : s.size = s.data.toList.length := size_len s
  have hr := run_convert_bytes_back (P := Try.prog) w 64 9 5 ⟨g, 0, none⟩ cap s.data.toList Try.underlying64 Try.underlying5 Try.underlying9 (fun j hj => by
    rw [Addr.add_lit, Nat.zero_add, cell_of_row w g j cur _ fz hg, ← Array.getElem?_toList]
    have h1 : (cur.toList.take s.size)[j]? = (strCells s)[j]? := by rw [ht]
    rw [List.getElem?_take, if_pos (by omega)] at h1
    rw [h1, strCells, List.getElem?_map, List.getElem?_eq_getElem hj]
    rfl)
  rw [e, hr]
theorem str_append (s t : ByteArray) : strCells (s ++ t) = strCells s ++ strCells t := by
  unfold strCells
  rw [append_list, List.map_append]
end Go.Proofs.Ytieloegadhgipaa.S
