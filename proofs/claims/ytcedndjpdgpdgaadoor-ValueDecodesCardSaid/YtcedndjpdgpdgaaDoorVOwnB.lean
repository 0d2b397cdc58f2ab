/-
  What the program's own quoted returns, and a row of bytes that begins as a literal's own.
-/
import Derived.Test.YtcedndjpdgpdgaaDoorVOwnA
import Derived.Test.YtcedndjpdgpdgaaDoorVLawsD
import Derived.Test.YtcedndjpdgpdgaaDoorFormat
import Derived.ArgAppend
import Derived.Lib.SlBytesConst
namespace Go.Proofs.YtcedndjpdgpdgaaDoor.V
open Go.RowKit
open Go.Lib (byteCells)

theorem info8 : (Tryd.prog.info? 5).map (fun i => (i.zero, i.size, i.bytes)) = some (some (.int .u8 0), 1, 1) := by kernel_rfl
/-- the text so far -/
def soFar (s : ByteArray) (k : Nat) : List UInt8 := 34 :: (s.data.toList.take k).flatMap esc
theorem soFar_next {s : ByteArray} {k : Nat} (hk : k < s.size) :
    (spec s[k] = true → byteCells (soFar s (k + 1)) = byteCells (soFar s k) ++ [.int .u8 92] ++ [.int .u8 (s[k].toNat : Int)] ∧ (soFar s (k + 1)).length = (soFar s k).length + 1 + 1) ∧
    (spec s[k] = false → byteCells (soFar s (k + 1)) = byteCells (soFar s k) ++ [.int .u8 (s[k].toNat : Int)] ∧ (soFar s (k + 1)).length = (soFar s k).length + 1) := by
  have e34 : (34 : UInt8).toNat = 34 := rfl
  have e92 : (92 : UInt8).toNat = 92 := rfl
  have key : (s[k] = 34 ∨ s[k] = 92) ↔ spec s[k] = true := by
    rw [spec_iff, ← UInt8.toNat_inj, ← UInt8.toNat_inj, e34, e92]
  have et : soFar s (k + 1) = soFar s k ++ esc s[k] := by
    unfold soFar
    rw [take_snoc s k hk, List.flatMap_append]
    simp
  rw [et]
  constructor
  · intro h
    rw [show esc s[k] = [92, s[k]] by unfold esc; rw [if_pos (key.2 h)]]
    exact ⟨by simp [byteCells], by simp⟩
  · intro h
    rw [show esc s[k] = [s[k]] by unfold esc; rw [if_neg (fun x => by rw [key.1 x] at h; cases h)]]
    exact ⟨by simp [byteCells], by simp⟩
theorem soFar_le (s : ByteArray) (k : Nat) : (soFar s k).length ≤ 2 * s.size + 1 := by
  unfold soFar
  rw [List.length_cons]
  have h1 := esc_length (s.data.toList.take k)
  have h2 : (s.data.toList.take k).length ≤ s.size := by rw [List.length_take, size_len]; omega
  omega
theorem soFar_pos (s : ByteArray) (k : Nat) : 0 < (soFar s k).length := by
  unfold soFar; rw [List.length_cons]; omega
theorem soFar_end (s : ByteArray) : soFar s s.size ++ [34] = quote s.data.toList := by
  unfold soFar quote
  rw [take_all]; rfl
theorem below_app {B : Nat} {w1 wr w2 : World} {o : Obj} {v : Value} (hb : Below B w1 wr) (hB : B ≤ wr.heap.size) (hg : (wr.alloc o).grownBy w2 v.ownBlock) (hv : ∀ g, v.ownBlock = some g → B ≤ g) : Below B w1 w2 :=
  (hb.alloc hB o).grown hg (by simp; omega) hv
theorem own_ge {w : World} {B n : Nat} {e : TypeId} {v : Value} {xs : List Value} (h : w.ownsRow B e 1 v n xs) : ∀ g, v.ownBlock = some g → B ≤ g := by
  intro g hg
  rcases h.2 with ⟨rfl, _⟩ | ⟨g', cap, cur, rfl, hb, _⟩
  · cases hg
  · cases hg; exact hb
/-- a row of bytes that the call owns, or a literal's own row, which is full and of which the end may be marked -/
def RowM (w : World) (B : Nat) (v : Value) (n : Nat) (xs : List Value) : Prop :=
  w.ownsRow B 5 1 v n xs ∨ (xs.length = n ∧ ∃ g cs fz, v = .slice (some ⟨g, 0, none⟩) n n ∧ B ≤ g ∧ w.heap[g]? = some (.cells cs 5 fz) ∧ cs.toList = xs)
theorem RowM.alloc {w : World} {B n : Nat} {v : Value} {xs : List Value} (h : RowM w B v n xs) (o : Obj) : RowM (w.alloc o) B v n xs := by
  rcases h with h | ⟨h1, g, cs, fz, h2, h3, h4, h5⟩
  · exact Or.inl (h.alloc o)
  · refine Or.inr ⟨h1, g, cs, fz, h2, h3, ?_, h5⟩
    show (w.heap.push o)[g]? = _
    have hlt : g < w.heap.size := (Array.getElem?_eq_some_iff.1 h4).1
    rw [Array.getElem?_push_lt hlt, ← h4, Array.getElem?_eq_getElem hlt]
theorem RowM.ge {w : World} {B n : Nat} {v : Value} {xs : List Value} (h : RowM w B v n xs) : ∀ g, v.ownBlock = some g → B ≤ g := by
  rcases h with h | ⟨_, g, cs, fz, rfl, h3, _⟩
  · exact own_ge h
  · intro k hk; cases hk; exact h3
theorem RowM.form {w : World} {B n : Nat} {v : Value} {xs : List Value} (h : RowM w B v n xs) (hn : 0 < n) : ∃ g cap, v = .slice (some ⟨g, 0, none⟩) n cap := by
  rcases h with h | ⟨_, g, cs, fz, rfl, _⟩
  · exact W.row_form h hn
  · exact ⟨g, n, rfl⟩
theorem RowM.text {w : World} {B g n cap : Nat} {l : List UInt8} (h : RowM w B (.slice (some ⟨g, 0, none⟩) n cap) n (byteCells l)) (hl : l.length = n) :
    (convert 64 9 (.slice (some ⟨g, 0, none⟩) n cap)).run Tryd.prog w = .ok (.string ⟨l.toArray⟩) w := by
  rcases h with h | ⟨_, g', cs, fz, hv, _, hg, hcs⟩
  · exact W.bytes_back h hl
  · cases hv
    subst hl
    refine run_convert_bytes_back (P := Tryd.prog) _ 64 9 5 _ _ l Tryd.underlying64 Tryd.underlying5 Tryd.underlying9 ?_
    intro j hj
    rw [Addr.add_lit, cell_of_row w g (0 + j) cs _ fz hg, ← Array.getElem?_toList, hcs]
    simp [byteCells, hj]
theorem RowM.lit (w : World) (b : UInt8) (fz : Nat × Nat) : RowM (w.alloc (.cells #[.int .u8 (b.toNat : Int)] 5 fz)) w.heap.size (.slice (some ⟨w.heap.size, 0, none⟩) 1 1) 1 [.int .u8 (b.toNat : Int)] :=
  Or.inr ⟨rfl, w.heap.size, _, fz, rfl, Nat.le_refl _, by show (w.heap.push _)[w.heap.size]? = _; simp, rfl⟩
theorem wpList_append_rowM {w : World} {ops : Array Oper} {rest : List Oper} {o : Oper} {a : Act} {Q : Exit → Act → World → Prop} (hgd : o.guard = none) (s x : Operand)
    (ho : o.op = .call { callee := .builtin .append, args := #[s, x], argTypes := #[64, 64] })
    (base : Nat) (i : TypeInfo) (hi : Tryd.prog.info? 5 = some i) (hz : i.zero = some (.int .u8 0)) (hsize : i.size = 1) (hby : i.bytes = 1)
    (v : Value) (n : Nat) (xs : List Value) (hs : a.eval s = v) (hown : RowM w base v n xs)
    (ad : Addr) (m c : Nat) (news : List Value) (hx : a.eval x = .slice (some ad) m c) (hl : news.length = m) (hm : 0 < m) (hnews : ∀ j u, news[j]? = some u → w.cell? (ad.add j) = some u) (h1 : ∀ u ∈ news, u.oneCell' = true)
    (hbytes : n + m ≤ 140737488355328) (hbase : base ≤ w.heap.size)
    (h : ∀ v' w', w'.ownsRow base 5 1 v' (n + m) (xs ++ news) → w.grownBy w' v.ownBlock → wpList Tryd.prog ops Q rest (a.put o.dst v') w') : wpList Tryd.prog ops Q (o :: rest) a w := by
  have hml : n + m ≤ maxLen := by unfold maxLen; omega
  rcases hown with hown | ⟨h2, g, cs, fz, rfl, h3, h4, h5⟩
  · exact wpList_append_own w hgd s x 64 ho base 5 i (.int .u8 0) 1 1 Tryd.underlying64 hi hz hsize hby rfl (by decide) v n xs hs hown ad m c news hx (by omega) hnews h1 hml (by omega) hbase fun v' w' g1 g2 _ => h v' w' g1 g2
  · refine wpList_append_grows w hgd s x 64 ho 5 i (.int .u8 0) 1 1 Tryd.underlying64 hi hz hsize hby rfl (by decide) (some ⟨g, 0, none⟩) n n xs hs (fun h => by cases h) (by omega) ?_ ad m c news hx (by omega) hnews h1 (by omega) hml (by omega) fun v' w' g1 g2 => h v' w' (Joins.ownsRow_le g1 hbase) ⟨g2.os, g2.tape, g2.output, g2.size, fun k hk _ => g2.block k hk (by simp)⟩
    intro b hb j u hu
    cases hb
    rw [Addr.add_lit, cell_of_row w g (0 + j) cs _ fz h4, ← Array.getElem?_toList, h5, Nat.zero_add]
    exact hu
theorem quote_row {s : ByteArray} {w : World} {B : Nat} {v : Value} (h : RowM w B v (soFar s s.size).length (byteCells (soFar s s.size))) :
    ∃ g cap t, v = .slice (some ⟨g, 0, none⟩) (soFar s s.size).length cap ∧ t.size ≤ 2 * s.size + 1 ∧ Hid (t ++ ⟨#[34]⟩ = ByteArray.mk (quote s.data.toList).toArray) ∧
      (convert 64 9 (.slice (some ⟨g, 0, none⟩) (soFar s s.size).length cap)).run Tryd.prog w = .ok (.string t) w := by
  obtain ⟨g, cap, rfl⟩ := h.form (soFar_pos s s.size)
  refine ⟨g, cap, ⟨(soFar s s.size).toArray⟩, rfl, ?_, ?_, h.text rfl⟩
  · rw [size_len]; exact soFar_le s s.size
  · show _ = _
    refine bytes_eq ?_
    rw [append_list, ← soFar_end]
set_option maxHeartbeats 2000000 in
set_option maxRecDepth 100000 in
theorem oquoted_any (s : ByteArray) (hs : s.size ≤ 1000000) (w : World) :
    Calls Tryd.prog 37 #[.string s] w fun e w' => e = .returned (.string ⟨(quote s.data.toList).toArray⟩) ∧ Below w.heap.size w w' := by
  obtain ⟨i0, hi, hz0, hz1, hz2⟩ := info_parts info8
  have HS := Lib.hid ospec_any
  have kc := fun (w : World) (C : Array Value) (n c : Nat) => Lib.run_convert_bytes_const (P := Tryd.prog) w 64 5 C n c Tryd.underlying64 Tryd.underlying5
  have hO1 : RowM (w.alloc (.cells #[.int .u8 34] 5 (1, 2))) w.heap.size (.slice (some ⟨w.heap.size, 0, none⟩) 1 1) (soFar s 0).length (byteCells (soFar s 0)) := RowM.lit w 34 (1, 2)
  go_enter Tryd.func37, Tryd.ntmps37
  go_wp2
  go_loopw [3, 9] (fun v i wr => ∃ k : Nat, k ≤ s.size ∧ i = .int .i64 k ∧ Hid (RowM wr w.heap.size v (soFar s k).length (byteCells (soFar s k))) ∧ Below w.heap.size w wr) (fun _ i _ => s.size - (intOf i).toNat)
  case atStart => exact ⟨0, Nat.zero_le _, rfl, hO1, below_box w _⟩
  case round =>
    obtain ⟨k, hk, rfl, HO, hb⟩ := hrel
    have hl := soFar_le s k
    have hzr := hb.size
    by_cases hlt : k < s.size
    · obtain ⟨n1, n2⟩ := soFar_next hlt
      have HX := Lib.hid (HS.out s[k])
      cases hsp : spec s[k]
      · have E1 := Lib.hid (n2 hsp).1
        have E2 := Lib.hid (n2 hsp).2
        rw [hsp] at HX
        clear n1 n2 hsp
        go_wp2_with fail
        refine (HX.out _).mono ?_; rintro e w1 ⟨rfl, he⟩; obtain rfl : wr = w1 := he.symm
        go_wp2_with ((at_builtin; refine wpList_append_rowM rfl _ _ rfl w.heap.size i0 hi hz0 hz1 hz2 _ _ _ rfl (HO.out.alloc _) ⟨wr.heap.size, 0, none⟩ 1 1 [_] rfl rfl (by decide) (cell_one_new _ _ _) (by intro u hu; simp at hu; subst hu; rfl) (by omega) (by simp; omega) ?_; intro v1 w2 hown1 hgrow1; have hb2 := below_app hb (by omega) hgrow1 HO.out.ge))
        all_goals first
          | (exfalso; omega)
          | (go_roundw
             case rel => exact ⟨k + 1, by omega, by go_num, (by unfold Hid; rw [E2.out, E1.out]; exact Or.inl (by simpa using hown1)), hb2⟩
             case measure => simp [intOf]; omega)
      · have E1 := Lib.hid (n1 hsp).1
        have E2 := Lib.hid (n1 hsp).2
        rw [hsp] at HX
        clear n1 n2 hsp
        go_wp2_with fail
        refine (HX.out _).mono ?_; rintro e w1 ⟨rfl, he⟩; obtain rfl : wr = w1 := he.symm
        go_wp2_with (first
          | (at_builtin; refine wpList_append_rowM rfl _ _ rfl w.heap.size i0 hi hz0 hz1 hz2 _ _ _ rfl (HO.out.alloc _) ⟨wr.heap.size, 0, none⟩ 1 1 [.int .u8 92] rfl rfl (by decide) (cell_one_new _ _ _) (by intro u hu; simp at hu; subst hu; rfl) (by omega) (by simp; omega) ?_; intro v1 w2 hown1 hgrow1; have hb2 := below_app hb (by omega) hgrow1 HO.out.ge; have hz2w := hb2.size)
          | (at_builtin; refine wpList_append_own _ rfl _ _ 64 rfl w.heap.size 5 i0 (.int .u8 0) 1 1 Tryd.underlying64 hi hz0 hz1 hz2 rfl (by decide) _ _ _ rfl (hown1.alloc _) ⟨w2.heap.size, 0, none⟩ 1 1 [_] rfl rfl (cell_one_new _ _ _) (by intro u hu; simp at hu; subst hu; rfl) (by unfold maxLen; omega) (by omega) (by simp; omega) ?_; intro v2 w3 hown2 hgrow2 _; have hb3 := below_app hb2 (by omega) hgrow2 (own_ge hown1)))
        all_goals first
          | (exfalso; omega)
          | (go_roundw
             case rel => exact ⟨k + 1, by omega, by go_num, (by unfold Hid; rw [E2.out, E1.out]; exact Or.inl (by simpa using hown2)), hb3⟩
             case measure => simp [intOf]; omega)
    · obtain rfl : s.size = k := by omega
      obtain ⟨g, cap, t, rfl, hts, ht, hconv⟩ := quote_row HO.out
      go_wp2_with fail
      go_ret
      exact ⟨ret_string ht.out, hb⟩
end Go.Proofs.YtcedndjpdgpdgaaDoor.V
