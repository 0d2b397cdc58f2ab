/-
  What TakeUint, TakeInt and TakeBool return, of the program and of the reference: one contract a function, for every text and every offset.
-/
import Derived.Test.YtcedndjpdgpdgaaDoorWRefTake
namespace Go.Proofs.YtcedndjpdgpdgaaDoor.W
open Go.RowKit
open Go.Lib (unzigzag)

theorem R_is {l : List UInt8} {a : Nat} (ha : a ≤ l.length) : R a (du 0 0 (l.drop a)) = .returned (.tuple #[.int .u64 (tV l a), .int .i64 (tN l a), .int .i64 (tE l a)]) := by
  have ho : outside l a = false := by
    unfold outside
    exact decide_eq_false (by omega)
  have h := tE_in ho
  have hf : from_ l a = l.drop a := rfl
  rw [hf] at h
  unfold R tN
  rw [h.1, h.2, hf]
  by_cases hz : (du 0 0 (l.drop a)).2.2 = 0
  · rw [if_pos hz, if_pos (by omega)]
  · rw [if_neg hz, if_neg (by omega)]
theorem take_any (s : ByteArray) (at_ : Int) (h0 : -9223372036854775808 ≤ at_) (h1 : at_ ≤ 9223372036854775807) (hs : s.size ≤ 9223372036854775807) (w : World) :
    Calls Tryd.prog 51 #[.string s, .int .i64 at_] w fun e w' => e = .returned (.tuple #[.int .u64 (tV s.data.toList at_), .int .i64 (tN s.data.toList at_), .int .i64 (tE s.data.toList at_)]) ∧ w = w' := by
  cases ho : outside s.data.toList at_
  · have hb := outside_false ho
    rw [← size_len] at hb
    obtain ⟨a, rfl⟩ := Int.eq_ofNat_of_zero_le hb.1
    rw [← R_is (by rw [← size_len]; omega)]
    exact take_in s a hs (by omega) w
  · have h := tE_out ho
    rw [h.1, h.2.1, h.2.2]
    exact take_out s at_ h0 h1 ho w
theorem rtake_any (s : ByteArray) (at_ : Int) (h0 : -9223372036854775808 ≤ at_) (h1 : at_ ≤ 9223372036854775807) (hs : s.size ≤ 1000000) (w : World) :
    Calls Tryd.prog 54 #[.string s, .int .i64 at_] w fun e w' => e = .returned (.tuple #[.int .u64 (tV s.data.toList at_), .int .i64 (tN s.data.toList at_), .int .i64 (tE s.data.toList at_)]) ∧ w = w' := by
  cases ho : outside s.data.toList at_
  · have hb := outside_false ho
    rw [← size_len] at hb
    obtain ⟨a, rfl⟩ := Int.eq_ofNat_of_zero_le hb.1
    rw [← R_is (by rw [← size_len]; omega)]
    exact rtake_in s a hs (by omega) w
  · have h := tE_out ho
    rw [h.1, h.2.1, h.2.2]
    exact rtake_out s at_ h0 h1 ho w

/-- TakeInt: the value -/
def iV (l : List UInt8) (at_ : Int) : Int := unzigzag (tV l at_).toNat
theorem iV_err {l : List UInt8} {at_ : Int} (h : tE l at_ ≠ 0) : iV l at_ = 0 := by
  unfold iV
  rw [(t_err h).1]
  rfl
theorem unz_call (u : Int) (h0 : 0 ≤ u) (h1 : u < 18446744073709551616) (w : World) :
    Calls Tryd.prog 83 #[.int .u64 u] w fun e w' => e = .returned (.int .i64 (unzigzag u.toNat)) ∧ w = w' := by
  obtain ⟨n, rfl⟩ := Int.eq_ofNat_of_zero_le h0
  exact unzigzag_any n (by omega) w
theorem unf_call (u : Int) (h0 : 0 ≤ u) (h1 : u < 18446744073709551616) (w : World) :
    Calls Tryd.prog 76 #[.int .u64 u] w fun e w' => e = .returned (.int .i64 (unzigzag u.toNat)) ∧ w = w' := by
  obtain ⟨n, rfl⟩ := Int.eq_ofNat_of_zero_le h0
  exact unfold_any n (by omega) w
set_option maxRecDepth 100000 in
theorem takeInt_any (s : ByteArray) (at_ : Int) (h0 : -9223372036854775808 ≤ at_) (h1 : at_ ≤ 9223372036854775807) (hs : s.size ≤ 1000000) (w : World) :
    Calls Tryd.prog 74 #[.string s, .int .i64 at_] w fun e w' => e = .returned (.tuple #[.int .i64 (iV s.data.toList at_), .int .i64 (tN s.data.toList at_), .int .i64 (tE s.data.toList at_)]) ∧ w = w' := by
  have ht := take_any s at_ h0 h1 (by omega)
  have hu := unz_call (tV s.data.toList at_) (tV_bd _ _).1 (tV_bd _ _).2
  change ∀ w, Calls Tryd.prog 83 #[.int .u64 (tV s.data.toList at_)] w fun e w' => e = .returned (.int .i64 (iV s.data.toList at_)) ∧ w = w' at hu
  generalize tV s.data.toList at_ = v at ht hu
  generalize iV s.data.toList at_ = i at hu ⊢
  generalize tN s.data.toList at_ = n at ht ⊢
  generalize tE s.data.toList at_ = e at ht ⊢
  go_enter Tryd.func74, Tryd.ntmps74
  go_wp2_with fail
  refine (ht _).mono ?_; rintro e w' ⟨rfl, rfl⟩
  go_wp2_with (go_at_call 83; refine (hu _).mono ?_; rintro e w' ⟨rfl, rfl⟩)
  go_ret3
  exact ⟨rfl, rfl⟩
set_option maxRecDepth 100000 in
theorem rtakeInt_any (s : ByteArray) (at_ : Int) (h0 : -9223372036854775808 ≤ at_) (h1 : at_ ≤ 9223372036854775807) (hs : s.size ≤ 1000000) (w : World) :
    Calls Tryd.prog 55 #[.string s, .int .i64 at_] w fun e w' => e = .returned (.tuple #[.int .i64 (iV s.data.toList at_), .int .i64 (tN s.data.toList at_), .int .i64 (tE s.data.toList at_)]) ∧ w = w' := by
  have ht := rtake_any s at_ h0 h1 hs
  have hu := unf_call (tV s.data.toList at_) (tV_bd _ _).1 (tV_bd _ _).2
  change ∀ w, Calls Tryd.prog 76 #[.int .u64 (tV s.data.toList at_)] w fun e w' => e = .returned (.int .i64 (iV s.data.toList at_)) ∧ w = w' at hu
  by_cases he : tE s.data.toList at_ = 0
  · rw [he] at ht ⊢
    generalize tV s.data.toList at_ = v at ht hu
    generalize iV s.data.toList at_ = i at hu ⊢
    generalize tN s.data.toList at_ = n at ht ⊢
    clear he
    go_enter Tryd.func55, Tryd.ntmps55
    go_wp2_with fail
    refine (ht _).mono ?_; rintro e w' ⟨rfl, rfl⟩
    go_wp2_with (go_at_call 76; refine (hu _).mono ?_; rintro e w' ⟨rfl, rfl⟩)
    go_ret3
    exact ⟨rfl, rfl⟩
  · have h3 := t_err he
    rw [iV_err he]
    rw [h3.1, h3.2] at ht
    rw [h3.2]
    clear hu h3
    generalize tE s.data.toList at_ = e at ht he ⊢
    have hn : (e != 0) = true := bne_iff_ne.2 he
    clear he
    go_enter Tryd.func55, Tryd.ntmps55
    go_wp2_with fail
    refine (ht _).mono ?_; rintro e w' ⟨rfl, rfl⟩
    go_wp2
    go_ret3
    exact ⟨rfl, rfl⟩

/-! ### truth values -/
theorem b_out {l : List UInt8} {at_ : Int} (h : outside l at_ = true) : bV l at_ = false ∧ bN l at_ = 0 ∧ bE l at_ = 1 := by
  have he : bE l at_ = 1 := by unfold bE; rw [h]; rfl
  refine ⟨by unfold bV; rw [h]; rfl, by unfold bN; rw [he]; rfl, he⟩
theorem in_false {l : List UInt8} {a : Nat} (ha : a ≤ l.length) : outside l a = false := by
  unfold outside
  exact decide_eq_false (by omega)
theorem b_end {l : List UInt8} {a : Nat} (ha : a = l.length) : bV l a = false ∧ bN l a = 0 ∧ bE l a = 6 := by
  have ho : outside l a = false := in_false (by omega)
  have hd : from_ l a = [] := by
    unfold from_
    rw [Int.toNat_natCast]
    exact List.drop_of_length_le (by omega)
  have he : bE l a = 6 := by unfold bE; rw [ho, hd]; rfl
  refine ⟨by unfold bV; rw [hd]; simp, by unfold bN; rw [he]; rfl, he⟩
theorem b_in {s : ByteArray} {a : Nat} (ha : a < s.size) : bV s.data.toList a = (s[a] == 1) ∧ bE s.data.toList a = if 1 < s[a].toNat then 5 else 0 := by
  have ho : outside s.data.toList a = false := in_false (by rw [← size_len]; omega)
  have hd : from_ s.data.toList a = s[a] :: s.data.toList.drop (a + 1) := drop_cons ha
  refine ⟨?_, by unfold bE; rw [ho, hd]; rfl⟩
  unfold bV
  rw [ho, hd]
  simp
theorem b_bad {s : ByteArray} {a : Nat} (ha : a < s.size) (h : 1 < s[a].toNat) : bV s.data.toList a = false ∧ bN s.data.toList a = 0 ∧ bE s.data.toList a = 5 := by
  have hb := b_in ha
  rw [if_pos h] at hb
  refine ⟨?_, by unfold bN; rw [hb.2]; rfl, hb.2⟩
  rw [hb.1]
  refine beq_eq_false_iff_ne.2 fun e => ?_
  rw [e] at h
  exact absurd h (by decide)
theorem b_ok {s : ByteArray} {a : Nat} (ha : a < s.size) (h : ¬ 1 < s[a].toNat) : bV s.data.toList a = ((s[a].toNat : Int) == 1) ∧ bN s.data.toList a = (a : Int) + 1 ∧ bE s.data.toList a = 0 := by
  have hb := b_in ha
  rw [if_neg h] at hb
  refine ⟨?_, by unfold bN; rw [hb.2]; rfl, hb.2⟩
  rw [hb.1, Bool.eq_iff_iff, beq_iff_eq, beq_iff_eq]
  constructor
  · intro e; rw [e]; rfl
  · intro e; exact UInt8.toNat_inj.1 (by simpa using (by omega : s[a].toNat = 1))
end Go.Proofs.YtcedndjpdgpdgaaDoor.W
