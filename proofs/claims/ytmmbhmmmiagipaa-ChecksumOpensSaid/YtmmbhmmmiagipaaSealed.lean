/-
  The law on sealed strings, walked.
-/
import Derived.Test.YtmmbhmmmiagipaaDiffs
namespace Go.Proofs.Ytmmbhmmmiagipaa
open Go.RowKit

/-! ### one byte turned -/

theorem set_split {l : List UInt8} {i : Nat} (h : i < l.length) (x : UInt8) : l.set i x = l.take i ++ [x] ++ l.drop (i + 1) := by
  rw [List.set_eq_take_append_cons_drop, if_pos h, List.append_assoc]
  rfl
theorem crc_set {l : List UInt8} {i : Nat} (h : i < l.length) {x : UInt8} (hx : l[i] ≠ x) : crc (l.set i x) ≠ crc l := by
  have e : l = l.take i ++ [l[i]] ++ l.drop (i + 1) := by
    have := set_split h l[i]
    rw [List.set_getElem_self] at this
    exact this
  intro he
  rw [set_split h x] at he
  rw [e] at he
  rw [← e] at he
  exact upd_differs 0 (by decide) (l.take i) (l.drop (i + 1)) l[i] x hx (by rw [← e]; exact he.symm)
theorem trail_inj {l k : List UInt8} (h : trail l = trail k) : crc l = crc k := little4_inj (crc_lt l) (crc_lt k) h
/-- What was sealed, one byte turned, is not sealed. -/
theorem turned {S : List UInt8} {i : Nat} {x : UInt8} (h : i < (S ++ trail S).length) (hx : (S ++ trail S)[i] ≠ x) :
    ((S ++ trail S).set i x).drop S.length ≠ trail (((S ++ trail S).set i x).take S.length) := by
  have hl : (S ++ trail S).take S.length = S := List.take_left
  have hr : (S ++ trail S).drop S.length = trail S := List.drop_left
  rw [List.take_set, List.drop_set, hl, hr]
  by_cases hi : i < S.length
  · rw [if_pos hi]
    intro he
    have hx2 : S[i] ≠ x := by
      rw [List.getElem_append_left hi] at hx
      exact hx
    exact crc_set hi hx2 (trail_inj he).symm
  · rw [if_neg hi, List.set_eq_of_length_le (l := S) (by omega)]
    intro he
    have hlen : i - S.length < (trail S).length := by rw [List.length_append] at h; omega
    have hx2 : (trail S)[i - S.length] ≠ x := by
      rw [List.getElem_append_right (by omega)] at hx
      exact hx
    have h3 := List.getElem?_set_self (l := trail S) (i := i - S.length) (a := x) hlen
    rw [he, List.getElem?_eq_getElem hlen] at h3
    exact hx2 (by simpa using h3)
theorem sealed_ahead (s : ByteArray) : ahead (sealed s) s.size = s := WideShapes.bytes_inj (by rw [ahead_list, sealed_list, size_len, List.take_left])
theorem sealed_behind (s : ByteArray) : behind (sealed s) s.size = ⟨(trail (ahead (sealed s) s.size).data.toList).toArray⟩ := by
  rw [sealed_ahead]
  refine WideShapes.bytes_inj ?_
  rw [behind_list, sealed_list, size_len, List.drop_left]
theorem open_sealed (s : ByteArray) (hs : s.size ≤ 190000000000000) (w : World) :
    Calls Try.prog 10 #[.string (sealed s)] w fun e w' => e = .returned (.tuple #[.string s, .int .i64 0]) ∧ Below w.heap.size w w' := by
  have h := open_good (sealed s) s.size (sealed_size s) (by rw [sealed_size]; omega) (sealed_behind s) w
  rw [sealed_ahead] at h
  exact h
/-- the sealed string with its byte i turned -/
def other (s : ByteArray) (i : Nat) (x : UInt8) : ByteArray := ahead (sealed s) i ++ ⟨#[x]⟩ ++ behind (sealed s) (i + 1)
theorem other_list (s : ByteArray) {i : Nat} (x : UInt8) (hi : i < (sealed s).size) : (other s i x).data.toList = (s.data.toList ++ trail s.data.toList).set i x := by
  unfold other
  rw [append_list, append_list, ahead_list, behind_list, sealed_list]
  rw [size_len, sealed_list] at hi
  rw [set_split hi]
theorem other_size (s : ByteArray) {i : Nat} (x : UInt8) (hi : i < (sealed s).size) : (other s i x).size = s.size + 4 := by
  rw [size_len, other_list s x hi, List.length_set, List.length_append, trail_length, ← size_len]
theorem open_other (s : ByteArray) (hs : s.size ≤ 190000000000000) {i : Nat} {x : UInt8} (hi : i < (sealed s).size) (hx : (sealed s)[i] ≠ x) (w : World) :
    Calls Try.prog 10 #[.string (other s i x)] w fun e w' => e = .returned (.tuple #[.string ⟨#[]⟩, .int .i64 14]) ∧ Below w.heap.size w w' := by
  refine open_bad (other s i x) s.size (other_size s x hi) (by rw [other_size s x hi]; omega) ?_ w
  intro he
  have h2 := congrArg (fun y : ByteArray => y.data.toList) he
  simp only [behind_list, ahead_list, other_list s x hi] at h2
  rw [size_len s] at h2
  exact turned (x := x) (by rw [size_len, sealed_list] at hi; exact hi) hx h2
theorem index_run (t : ByteArray) (i : Nat) (h : i < t.size) (W : World) : (Instr.index 9 (.string t) (.int .i64 (i : Int))).run Try.prog W = .ok (.int .u8 (t[i].toNat : Int)) W := by
  have h2 := run_index_string (P := Try.prog) W 9 t .i64 (i : Int) Try.underlying9
  rw [dif_pos ⟨by omega, by omega⟩] at h2
  simp only [Int.toNat_natCast] at h2
  exact h2
theorem turn_byte (b : UInt8) (g : Nat) (hg : g < 256) (h0 : g ≠ 0) : ∃ x : UInt8, bits .xor .u8 (b.toNat : Int) (g : Int) = (x.toNat : Int) ∧ b ≠ x := by
  have hb := byte_lt b
  have hx : b.toNat ^^^ g < 256 := Nat.xor_lt_two_pow (n := 8) hb hg
  refine ⟨(b.toNat ^^^ g).toUInt8, ?_, ?_⟩
  · rw [small_byte hx]; exact u8_xor_nat _ _ hb hg
  · intro e
    have e2 := congrArg UInt8.toNat e
    rw [small_byte hx] at e2
    have e3 : b.toNat ^^^ 0 = b.toNat ^^^ g := by rw [Nat.xor_zero]; exact e2
    exact h0 (xor_left e3).symm

/-! ### the walk -/

set_option maxRecDepth 100000 in
theorem opens_same (s t : ByteArray) (hs : s.size ≤ 190000000000000) (ht : t.size = s.size + 4) (n : Nat) (w : World)
    (c1 : ∀ w, Calls Try.prog 9 #[.string s] w fun e w' => e = .returned (.string t) ∧ Below w.heap.size w w')
    (c2 : ∀ w, Calls Try.prog 10 #[.string t] w fun e w' => e = .returned (.tuple #[.string s, .int .i64 0]) ∧ Below w.heap.size w w')
    (r0 : ∀ W, (Instr.slice 9 (.string t) none (some (.int .i64 (s.size : Int))) none).run Try.prog W = .ok (.string s) W) :
    Calls Try.prog 3 #[.string s, .int .u16 (n : Int), .int .u8 0] w fun e w' => e = .returned (.bool true) ∧ Below w.heap.size w w' := by
  have C1 := Lib.hid c1
  have C2 := Lib.hid c2
  have hne : ((t.size : Int) != (s.size : Int) + 4) = false := by rw [ht]; simp
  clear c1 c2 ht
  go_enter Try.func3, Try.ntmps3
  go_wp2_with fail
  refine (C1.out _).mono ?_; rintro e w1 ⟨rfl, hb1⟩
  go_wp2_with fail
  refine (C2.out _).mono ?_; rintro e w2 ⟨rfl, hb2⟩
  go_wp2_with (go_at_call 11; refine (lives_any _).mono ?_; rintro e w9 ⟨rfl, hb9⟩)
  go_ret
  exact ⟨rfl, below_2 (below_2 hb1 hb2) hb9⟩
set_option maxRecDepth 100000 in
set_option maxHeartbeats 1000000 in
theorem opens_turned (s t p c q : ByteArray) (hs : s.size ≤ 190000000000000) (ht : t.size = s.size + 4) (n g i b x : Nat) (hn : n < 65536) (hg : g < 256) (hg0 : 0 < g) (hi : i < t.size)
    (zp : p.size ≤ 190000000000004) (zc : c.size ≤ 1) (zq : q.size ≤ 190000000000004) (hmod : (n : Int) % (t.size : Int) = (i : Int)) (hxor : bits .xor .u8 (b : Int) (g : Int) = (x : Int)) (w : World)
    (c1 : ∀ w, Calls Try.prog 9 #[.string s] w fun e w' => e = .returned (.string t) ∧ Below w.heap.size w w')
    (c2 : ∀ w, Calls Try.prog 10 #[.string t] w fun e w' => e = .returned (.tuple #[.string s, .int .i64 0]) ∧ Below w.heap.size w w')
    (c3 : ∀ w, Calls Try.prog 10 #[.string (p ++ c ++ q)] w fun e w' => e = .returned (.tuple #[.string ⟨#[]⟩, .int .i64 14]) ∧ Below w.heap.size w w')
    (r0 : ∀ W, (Instr.slice 9 (.string t) none (some (.int .i64 (s.size : Int))) none).run Try.prog W = .ok (.string s) W)
    (r1 : ∀ W, (Instr.slice 9 (.string t) none (some (.int .i64 (i : Int))) none).run Try.prog W = .ok (.string p) W)
    (r2 : ∀ W, (Instr.index 9 (.string t) (.int .i64 (i : Int))).run Try.prog W = .ok (.int .u8 (b : Int)) W)
    (r3 : ∀ W, (Instr.slice 9 (.string t) (some (.int .i64 ((i : Int) + 1))) none none).run Try.prog W = .ok (.string q) W)
    (r4 : ∀ (W : World) (B : Nat), W.cell? ⟨B, 0, none⟩ = some (.int .u8 (x : Int)) → (convert 28 9 (.slice (some ⟨B, 0, none⟩) 1 1)).run Try.prog W = .ok (.string c) W) :
    Calls Try.prog 3 #[.string s, .int .u16 (n : Int), .int .u8 (g : Int)] w fun e w' => e = .returned (.bool true) ∧ Below w.heap.size w w' := by
  have C1 := Lib.hid c1
  have C2 := Lib.hid c2
  have C3 := Lib.hid c3
  have R1 := Lib.hid r1
  have R2 := Lib.hid r2
  have R3 := Lib.hid r3
  have R4 := Lib.hid r4
  have HM := Lib.hid hmod
  have HX := Lib.hid hxor
  have hne : ((t.size : Int) != (s.size : Int) + 4) = false := by rw [ht]; simp
  have hg2 : ((g : Int) == 0) = false := beq_eq_false_iff_ne.2 (by omega)
  have ht1 : 1 ≤ t.size := by omega
  have ht2 : t.size ≤ 190000000000004 := by omega
  clear c1 c2 c3 ht r1 r2 r3 r4 hmod hxor
  go_enter Try.func3, Try.ntmps3
  go_wp2_with fail
  refine (C1.out _).mono ?_; rintro e w1 ⟨rfl, hb1⟩
  go_wp2_with fail
  refine (C2.out _).mono ?_; rintro e w2 ⟨rfl, hb2⟩
  go_wp2_with fail
  rw [HM.out]
  clear hne hg2 r0
  have r1 := R1.out
  have r2 := R2.out
  have r3 := R3.out
  have r4 := R4.out
  have hxor := HX.out
  have hbw := below_2 hb1 hb2
  clear hb1 hb2
  have hwb := hbw.size
  go_cut [11] (fun va wx => va = .string (p ++ c ++ q) ∧ Below w.heap.size w wx)
  case first =>
    go_region
    all_goals
      try go_wp2_with fail
      go_meet
      case rel => exact ⟨rfl, (hbw.alloc hwb _).drew⟩
  case rest =>
    clear hbw r1 r2 r3 r4 hxor hwb
    obtain ⟨rfl, hbw⟩ := hcut
    go_wp2_with fail
    refine (C3.out _).mono ?_; rintro e w3 ⟨rfl, hb3⟩
    go_wp2_with (go_at_call 11; refine (lives_any _).mono ?_; rintro e w9 ⟨rfl, hb9⟩)
    go_ret
    exact ⟨rfl, below_2 (below_2 hbw hb3) hb9⟩
theorem opens_walk (s : ByteArray) (hs : s.size ≤ 190000000000000) (n g : Nat) (hn : n < 65536) (hg : g < 256) (w : World) :
    Calls Try.prog 3 #[.string s, .int .u16 (n : Int), .int .u8 (g : Int)] w fun e w' => e = .returned (.bool true) ∧ Below w.heap.size w w' := by
  have hz := sealed_size s
  have c1 : ∀ w, Calls Try.prog 9 #[.string s] w fun e w' => e = .returned (.string (sealed s)) ∧ Below w.heap.size w w' := seal_any s (by omega)
  have c2 := open_sealed s hs
  have r0 : ∀ W, (Instr.slice 9 (.string (sealed s)) none (some (.int .i64 (s.size : Int))) none).run Try.prog W = .ok (.string s) W := fun W => by
    have h := ahead_run (sealed s) s.size (by omega) W
    rw [sealed_ahead] at h
    exact h
  by_cases h0 : g = 0
  · subst h0
    exact opens_same s (sealed s) hs hz n w c1 c2 r0
  · have hi : n % (sealed s).size < (sealed s).size := Nat.mod_lt _ (by omega)
    obtain ⟨i, hie⟩ : ∃ i, i = n % (sealed s).size := ⟨_, rfl⟩
    rw [← hie] at hi
    obtain ⟨x, hx1, hx2⟩ := turn_byte (sealed s)[i] g hg h0
    refine opens_turned s (sealed s) (ahead (sealed s) i) ⟨#[x]⟩ (behind (sealed s) (i + 1)) hs hz n g i (sealed s)[i].toNat x.toNat hn hg (by omega) hi ?_ (Nat.le_refl 1) ?_ (by rw [hie]; rfl) hx1 w c1 c2 (open_other s hs hi hx2) r0
      (ahead_run (sealed s) i (by omega)) (index_run (sealed s) i hi) (fun W => ?_) (one_run x)
    · rw [size_len, ahead_list, List.length_take, ← size_len]; omega
    · rw [size_len, behind_list, List.length_drop, ← size_len]; omega
    · have h := behind_run (sealed s) (i + 1) (by omega) W
      exact h
end Go.Proofs.Ytmmbhmmmiagipaa
