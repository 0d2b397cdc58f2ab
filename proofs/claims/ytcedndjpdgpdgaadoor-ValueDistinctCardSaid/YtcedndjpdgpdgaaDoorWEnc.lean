/-
  What the encoders return, of the program and of the reference: contracts, one a function.
-/
import Derived.Test.YtcedndjpdgpdgaaDoorWPlain
import Derived.Test.YtcedndjpdgpdgaaDoorShelf
import Derived.WalkKit
import Derived.LoopTactic
import Derived.OwnWalk
import Derived.ArgAppend
import Derived.Lib.Walk
import Derived.Lib.Varint
import Derived.Lib.VarintMem
import Derived.Lib.Zigzag
import Derived.Lib.Strings
import Derived.Lib.IndexBytes
import Derived.Lib.Hide
import Derived.Laws.IdiomStrings
namespace Go.Proofs.YtcedndjpdgpdgaaDoor.W
open Go.RowKit
open Go.Lib (uvarint zigzag unzigzag byteCells)

theorem info5 : (Tryd.prog.info? 5).map (fun i => (i.zero, i.size, i.bytes)) = some (some (.int .u8 0), 1, 1) := by kernel_rfl

theorem ownsRow_base {w : World} {base base' : Nat} {e : TypeId} {size : Nat} {v : Value} {n : Nat} {xs : List Value} (h : w.ownsRow base e size v n xs) (hb : base' ≤ base) : w.ownsRow base' e size v n xs := by
  refine ⟨h.1, ?_⟩
  rcases h.2 with h2 | ⟨g, cap, cur, hv, hg, r⟩
  · exact Or.inl h2
  · exact Or.inr ⟨g, cap, cur, hv, by omega, r⟩
theorem below_grown {w w1 : World} {o : Obj} (h : (w.alloc o).grownBy w1 none) : Below w.heap.size w w1 :=
  ((Below.refl _ _).alloc (Nat.le_refl _) _).grown h (by simp) (fun _ h => by cases h)
/-- extended: the list, copied, and the byte behind it. -/
theorem extended_nil (b : Int) (w : World) :
    Calls Tryd.prog 71 #[.slice none 0 0, .int .u8 b] w fun e w' => ∃ v', e = .returned v' ∧ w'.ownsRow w.heap.size 5 1 v' 1 [.int .u8 b] ∧ Below w.heap.size w w' := by
  obtain ⟨i0, hi, hz0, hz1, hz2⟩ := info_parts info5
  go_enter Tryd.func71, Tryd.ntmps71
  go_wp2_with (at_builtin; refine wpList_append_grows _ rfl (.tmp 10) (.tmp 12) 64 rfl 5 i0 (.int .u8 0) 1 1 Tryd.underlying64 hi hz0 hz1 hz2 rfl (by decide) none 0 0 [] rfl (fun _ => ⟨rfl, rfl⟩) rfl (fun _ h => by cases h) ⟨w.heap.size, 0, none⟩ 1 1 [.int .u8 b] rfl rfl ?c1 ?c2 (by omega) (by decide) (by decide) ?_)
  case c1 =>
    intro j u hj
    match j, hj with
    | 0, hj => simp at hj; subst hj; simp [Addr.add]
  case c2 => intro u hu; simp at hu; subst hu; rfl
  intro v' w1 hown' hgrow
  go_wp2
  go_ret
  exact ⟨v', rfl, ownsRow_base hown' (by simp), below_grown hgrow⟩
theorem extended_some (g n cap : Nat) (xs : List Value) (b : Int) (w : World) (base : Nat) (hown : w.ownsRow base 5 1 (.slice (some ⟨g, 0, none⟩) n cap) n xs) (hn : n ≤ 1000) :
    Calls Tryd.prog 71 #[.slice (some ⟨g, 0, none⟩) n cap, .int .u8 b] w fun e w' => ∃ v', e = .returned v' ∧ w'.ownsRow w.heap.size 5 1 v' (n + 1) (xs ++ [.int .u8 b]) ∧ Below w.heap.size w w' := by
  obtain ⟨i0, hi, hz0, hz1, hz2⟩ := info_parts info5
  have hc : n ≤ cap := by
    rcases hown.2 with ⟨h, _⟩ | ⟨g', cap', cur, h, _, _, h2, _⟩
    · cases h
    · cases h; exact h2
  have HO := Lib.hid (hown.alloc (.cells #[.int .u8 b] 5))
  have HL := Lib.hid hown.1
  clear hown
  go_enter Tryd.func71, Tryd.ntmps71
  go_wp2_with (at_builtin; refine wpList_append_grows _ rfl (.tmp 10) (.tmp 12) 64 rfl 5 i0 (.int .u8 0) 1 1 Tryd.underlying64 hi hz0 hz1 hz2 rfl (by decide) (some ⟨g, 0, none⟩) n n xs rfl (fun h => by cases h) HL.out ?c3 ⟨w.heap.size, 0, none⟩ 1 1 [.int .u8 b] rfl rfl ?c1 ?c2 (by omega) ?c5 ?c6 ?_)
  case c3 =>
    intro a ha j u hu
    cases ha
    exact HO.out.cells (g := g) rfl j u hu
  case c1 =>
    intro j u hj
    match j, hj with
    | 0, hj => simp at hj; subst hj; simp [Addr.add]
  case c2 => intro u hu; simp at hu; subst hu; rfl
  case c5 => unfold maxLen; omega
  case c6 => omega
  intro v' w1 hown' hgrow
  go_wp2
  go_ret
  exact ⟨v', rfl, ownsRow_base hown' (by simp), below_grown hgrow⟩
theorem extended_any (v : Value) (n : Nat) (xs : List Value) (b : Int) (w : World) (base : Nat) (hown : w.ownsRow base 5 1 v n xs) (hn : n ≤ 1000) :
    Calls Tryd.prog 71 #[v, .int .u8 b] w fun e w' => ∃ v', e = .returned v' ∧ w'.ownsRow w.heap.size 5 1 v' (n + 1) (xs ++ [.int .u8 b]) ∧ Below w.heap.size w w' := by
  have h0 := hown
  rcases hown.2 with ⟨rfl, rfl⟩ | ⟨g, cap, cur, rfl, _⟩
  · have hx : xs = [] := List.eq_nil_of_length_eq_zero (by simpa using hown.1)
    subst hx
    exact extended_nil b w
  · exact extended_some g n cap xs b w base h0 hn
/-- What a row of bytes reads as, as a text. -/
theorem bytes_back {w : World} {base g n cap : Nat} {l : List UInt8} (hown : w.ownsRow base 5 1 (.slice (some ⟨g, 0, none⟩) n cap) n (byteCells l)) (hl : l.length = n) :
    (convert 64 9 (.slice (some ⟨g, 0, none⟩) n cap)).run Tryd.prog w = .ok (.string ⟨l.toArray⟩) w := by
  subst hl
  refine run_convert_bytes_back (P := Tryd.prog) _ 64 9 5 _ _ l Tryd.underlying64 Tryd.underlying5 Tryd.underlying9 ?_
  intro j hj
  refine hown.cells (g := g) rfl j _ ?_
  simp [byteCells, hj]
theorem row_form {w : World} {base n : Nat} {v : Value} {xs : List Value} (h : w.ownsRow base 5 1 v n xs) (hn : 0 < n) : ∃ g cap, v = .slice (some ⟨g, 0, none⟩) n cap := by
  rcases h.2 with ⟨_, h0⟩ | ⟨g, cap, cur, hv, _⟩
  · omega
  · exact ⟨g, cap, hv⟩
theorem or_byte {y : Nat} : bits .or .u8 ((y : Int) % 256) 128 = ((y % 128 + 128 : Nat) : Int) := by
  rw [Lib.u8_or128_any _ (by omega) (by omega)]
  omega
theorem row_next {x y : Nat} {pre : List UInt8} {v : Value} {w wr w1 : World} (h128 : 128 ≤ y) (hs : uvarint x = pre ++ uvarint y) (hb : Below w.heap.size w wr)
    (ho : w1.ownsRow wr.heap.size 5 1 v (pre.length + 1) (byteCells pre ++ [Value.int IntKind.u8 ((y : Int) % 128 + 128)])) :
    uvarint x = (pre ++ [(y % 128 + 128).toUInt8]) ++ uvarint (y / 128) ∧
      w1.ownsRow w.heap.size 5 1 v (pre ++ [(y % 128 + 128).toUInt8]).length (byteCells (pre ++ [(y % 128 + 128).toUInt8])) := by
  refine ⟨by rw [hs, Lib.uvarint_big h128]; simp, ?_⟩
  have ec : ((y % 128 + 128 : Nat) : Int) = (y : Int) % 128 + 128 := by omega
  rw [Lib.byteCells_snoc pre (by omega), List.length_append, List.length_singleton, ec]
  exact ownsRow_base ho hb.size
theorem row_last {x y B : Nat} {pre : List UInt8} {v : Value} {w1 : World} (h128 : ¬ 128 ≤ y) (hs : uvarint x = pre ++ uvarint y)
    (ho : w1.ownsRow B 5 1 v (pre.length + 1) (byteCells pre ++ [Value.int IntKind.u8 (y : Int)])) :
    ∃ g cap t, v = .slice (some ⟨g, 0, none⟩) (pre.length + 1) cap ∧ Hid (t = ByteArray.mk (uvarint x).toArray) ∧
      (convert 64 9 (.slice (some ⟨g, 0, none⟩) (pre.length + 1) cap)).run Tryd.prog w1 = .ok (.string t) w1 := by
  obtain ⟨g, cap, rfl⟩ := row_form ho (by omega)
  have e : uvarint x = pre ++ [y.toUInt8] := by rw [hs, Lib.uvarint_small (by omega)]
  refine ⟨g, cap, _, rfl, rfl, ?_⟩
  refine bytes_back (base := B) ?_ (by rw [e]; simp)
  rw [e, Lib.byteCells_snoc pre (by omega)]
  exact ho
theorem ret_string {a b : ByteArray} (h : a = b) : Ending.returned (.string a) = Ending.returned (.string b) := by rw [h]
theorem below_2 {w w1 w2 : World} (h : Below w.heap.size w w1) (h2 : Below w1.heap.size w1 w2) : Below w.heap.size w w2 := h.trans (h2.mono h.size)
set_option maxRecDepth 100000 in
theorem uint_any (x : Nat) (hx : x < 18446744073709551616) (w : World) :
    Calls Tryd.prog 45 #[.int .u64 x] w fun e w' => e = .returned (.string ⟨(uvarint x).toArray⟩) ∧ Below w.heap.size w w' := by
  have hlen := Lib.uvarint_length64 hx
  go_enter Tryd.func45, Tryd.ntmps45
  go_wp2
  go_loopw [0, 3] (fun vx vb wr => ∃ (y : Nat) (pre : List UInt8), vx = .int .u64 y ∧ y ≤ x ∧ Hid (uvarint x = pre ++ uvarint y) ∧ Hid (wr.ownsRow w.heap.size 5 1 vb pre.length (byteCells pre)) ∧ Below w.heap.size w wr)
    (fun vx _ _ => (intOf vx).toNat)
  case atStart => exact ⟨x, [], rfl, Nat.le_refl _, rfl, World.ownsRow_nil _ _ _ _, Below.refl _ _⟩
  case round =>
    obtain ⟨y, pre, rfl, hy, HS, HO, hb⟩ := hrel
    have hpl : pre.length ≤ 10 := by
      have h2 := congrArg List.length HS.out
      rw [List.length_append] at h2
      omega
    have hwb := hb.size
    by_cases h128 : 128 ≤ y
    · have hor := or_byte (y := y)
      go_wp2_with (go_at_call 71; refine (extended_any _ _ _ _ _ _ HO.out (by omega)).mono ?_; rintro e w1 ⟨v', rfl, hown', hb'⟩)
      have hn := row_next h128 HS.out hb hown'
      have HN1 := Lib.hid hn.1
      have HN2 := Lib.hid hn.2
      clear hn hown'
      go_roundw
      case rel => exact ⟨y / 128, _, by go_num, by omega, HN1, HN2, below_2 hb hb'⟩
      case measure => simp [intOf]; omega
    · go_wp2_with (go_at_call 71; refine (extended_any _ _ _ _ _ _ HO.out (by omega)).mono ?_; rintro e w1 ⟨v', rfl, hown', hb'⟩; obtain ⟨g, cap, t, rfl, ht, hconv⟩ := row_last h128 HS.out hown'; clear hown')
      go_ret
      exact ⟨ret_string ht.out, below_2 hb hb'⟩

/-! ### the reference's varint -/

theorem byte_back (z : Nat) (hz : z < 256) (wr : World) : ∃ c : ByteArray, c.data.toList = [z.toUInt8] ∧
    (convert 64 9 (.slice (some ⟨wr.heap.size, 0, none⟩) 1 1)).run Tryd.prog (wr.alloc (.cells #[.int .u8 (z : Int)] 5)) = .ok (.string c) (wr.alloc (.cells #[.int .u8 (z : Int)] 5)) := by
  refine ⟨⟨#[z.toUInt8]⟩, rfl, run_convert_bytes_back (P := Tryd.prog) _ 64 9 5 _ 1 [z.toUInt8] Tryd.underlying64 Tryd.underlying5 Tryd.underlying9 ?_⟩
  intro j hj
  have hj0 : j = 0 := by simpa using hj
  subst hj0
  rw [show ([z.toUInt8][0]'hj).toNat = z from u8_small hz]
  rw [show (Addr.add ⟨wr.heap.size, 0, none⟩ 0) = ⟨wr.heap.size, 0, none⟩ from rfl, World.cell?_alloc_at _ _ _ _ (by simp)]
  simp
theorem append_list (c t : ByteArray) : (c ++ t).data.toList = c.data.toList ++ t.data.toList := by simp
theorem size_len (s : ByteArray) : s.size = s.data.toList.length := by simp
theorem text_more {x y : Nat} {t c : ByteArray} (h128 : 128 ≤ y) (hc : c.data.toList = [(y % 128 + 128).toUInt8]) (h : t.data.toList ++ uvarint y = uvarint x) :
    (t ++ c).data.toList ++ uvarint (y / 128) = uvarint x := by
  rw [← h, append_list, hc, Lib.uvarint_big h128]
  simp
theorem text_last {x y : Nat} {t c : ByteArray} (h128 : ¬ 128 ≤ y) (hc : c.data.toList = [y.toUInt8]) (h : t.data.toList ++ uvarint y = uvarint x) :
    t ++ c = ⟨(uvarint x).toArray⟩ := by
  refine WideShapes.bytes_inj ?_
  rw [← h, append_list, hc, Lib.uvarint_small (by omega)]
set_option maxRecDepth 100000 in
theorem ruint_any (x : Nat) (hx : x < 18446744073709551616) (w : World) :
    Calls Tryd.prog 48 #[.int .u64 x] w fun e w' => e = .returned (.string ⟨(uvarint x).toArray⟩) ∧ Below w.heap.size w w' := by
  have hlen := Lib.uvarint_length64 hx
  go_enter Tryd.func48, Tryd.ntmps48
  go_wp2
  go_loopw [0, 3] (fun vx vb wr => ∃ (y : Nat) (t : ByteArray), vx = .int .u64 y ∧ y ≤ x ∧ Hid (t.data.toList ++ uvarint y = uvarint x) ∧ vb = .string t ∧ Below w.heap.size w wr)
    (fun vx _ _ => (intOf vx).toNat)
  case atStart => exact ⟨x, ⟨#[]⟩, rfl, Nat.le_refl _, rfl, rfl, Below.refl _ _⟩
  case round =>
    obtain ⟨y, t, rfl, hy, HS, rfl, hb⟩ := hrel
    have hpl : t.size ≤ 10 := by
      have h2 := congrArg List.length HS.out
      rw [List.length_append, ← size_len] at h2
      omega
    have hwb := hb.size
    by_cases h128 : 128 ≤ y
    · obtain ⟨c, hc, hback⟩ := byte_back (y % 128 + 128) (by omega) wr
      rw [show ((y % 128 + 128 : Nat) : Int) = (y : Int) % 128 + 128 by omega] at hback
      have HN := Lib.hid (text_more h128 hc HS.out)
      have hcs : c.size ≤ 1 := by rw [size_len, hc]; exact Nat.le_refl _
      clear hc
      go_wp2
      go_roundw
      case rel => exact ⟨y / 128, t ++ c, by go_num, by omega, HN, rfl, hb.alloc hb.size _⟩
      case measure => simp [intOf]; omega
    · obtain ⟨c, hc, hback⟩ := byte_back y (by omega) wr
      have HN := Lib.hid (text_last h128 hc HS.out)
      have hcs : c.size ≤ 1 := by rw [size_len, hc]; exact Nat.le_refl _
      clear hc
      go_wp2
      go_ret
      exact ⟨ret_string HN.out, hb.alloc hb.size _⟩
end Go.Proofs.YtcedndjpdgpdgaaDoor.W
