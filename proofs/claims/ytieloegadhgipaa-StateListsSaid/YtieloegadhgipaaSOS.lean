/-
  What the program's own Slice returns: its contract.
-/
import Derived.Test.YtieloegadhgipaaSOB
namespace Go.Proofs.Ytieloegadhgipaa.S
open Go.RowKit
open Go.Proofs.Ytieloegadhgipaa.V (ret_bool ret_int ret_string below_2 below_box below_box2 size_len)

theorem fitz_filter {xs : List P} (h : Fitz xs) (f : P → Bool) : Fitz (xs.filter f) :=
  ⟨Nat.le_trans (List.length_filter_le f xs) h.len, fun p hp => h.sz p (List.mem_filter.1 hp).1⟩
set_option maxHeartbeats 4000000 in
set_option maxRecDepth 100000 in
theorem oslice_any (a : Option Addr) (c : Nat) (xs : List P) (f t : ByteArray) (hz : Fitz xs) (hf : f.size ≤ 9223372036854775807) (ht : t.size ≤ 9223372036854775807) (w : World) (hA : Prs w a xs) :
    Calls Try.prog 23 #[.slice a xs.length c, .agg #[.string f, .string t]] w fun e w' => GivesL e w' (sliP f t xs) ∧ Below w.heap.size w w' := by
  have hbx := below_box w (.cells #[.string f, .string t] 35)
  have HBox := Lib.hid hbx
  have hx := hz.len
  have HR := Lib.hid (K.Has.box w f t)
  have HA := Lib.hid (hA.below hbx)
  have HC := Lib.hid (fun k => K.contains_any f t k hf ht)
  have HCP := Lib.hid (fun a1 c1 w1 (h : Sl w1 a1 c1 (sliP f t xs)) => copied_any a1 c1 (sliP f t xs) (fitz_filter hz _) w1 h.prs)
  have HSE : sliP f t xs = xs.filter (inR f t) := rfl
  rw [HSE] at HCP ⊢
  clear hA hbx hz HSE
  obtain ⟨n, hn⟩ : ∃ n, xs.length = n := ⟨_, rfl⟩
  have HL := Lib.hid hn
  rw [hn] at hx ⊢
  clear hn
  go_enter Try.func23, Try.ntmps23
  go_wp2
  go_loopw [5, 10] (fun vo vi wr => ∃ k : Nat, k ≤ n ∧ vi = .int .i64 k ∧ Hid (wr.ownsRow (w.heap.size + 1) 33 4 vo ((xs.take k).filter (inR f t)).length (pc ((xs.take k).filter (inR f t)))) ∧ Below (w.heap.size + 1) (w.alloc (.cells #[.string f, .string t] 35)) wr) (fun _ vi _ => n - (intOf vi).toNat)
  case atStart => exact ⟨0, Nat.zero_le _, rfl, World.ownsRow_nil _ _ _ _, Below.refl _ _⟩
  case round =>
    obtain ⟨k, hk, rfl, HO, hb⟩ := hrel
    have hzr := hb.size
    simp at hzr
    have hbb : Below (w.alloc (.cells #[.string f, .string t] 35)).heap.size (w.alloc (.cells #[.string f, .string t] 35)) wr := by simpa using hb
    by_cases hlt : k < n
    · have hlx : k < xs.length := by rw [HL.out]; exact hlt
      obtain ⟨b1, o1, rfl, hc⟩ := (HA.out.below hbb).open hlx
      obtain ⟨c0, c1, c2, c3⟩ := hc k hlx
      have hat := at_box wr xs[k]
      have HAT := Lib.hid hat
      obtain ⟨b0, b1', b2, b3⟩ := hat
      simp only [Nat.zero_add] at b0 b1' b2 b3
      obtain ⟨g0, g1⟩ := (HR.out.below hb (Nat.lt_succ_self _)).alloc (by omega) (.cells #[.string xs[k].key, .int .i64 xs[k].k, .int .i64 xs[k].n, .string xs[k].s] 33)
      have hl : ((xs.take k).filter (inR f t)).length ≤ k := Nat.le_trans (List.length_filter_le _ _) (by rw [List.length_take]; omega)
      obtain ⟨n1, n2⟩ := filter_next (f := inR f t) hlx
      have hC := HC.out xs[k].key
      have HB1 := Lib.hid (hb.alloc (by omega) (.cells #[.string xs[k].key, .int .i64 xs[k].k, .int .i64 xs[k].n, .string xs[k].s] 33))
      have HO1 := Lib.hid (HO.out.alloc (.cells #[.string xs[k].key, .int .i64 xs[k].k, .int .i64 xs[k].n, .string xs[k].s] 33))
      clear hbb
      cases hq : inR f t xs[k]
      · have HN := Lib.hid (n2 hq)
        rw [show K.cont f.data.toList t.data.toList xs[k].key.data.toList = false from hq] at hC
        have HCC := Lib.hid hC
        generalize xs[k] = p at c0 c1 c2 c3 b0 b1' b2 b3 g0 g1 HCC HAT HB1 HO1
        clear n1 n2 hc hq hC hb
        go_wp2_with fail
        refine (HCC.out _).mono ?_; rintro e w4 ⟨rfl, hb4⟩
        have HB4 := Lib.hid (HB1.out.trans (hb4.mono (by simp; omega)))
        have HO4 := Lib.hid (own_belowO HO1.out hb4)
        go_wp2_with fail
        go_roundw
        case rel => exact ⟨k + 1, by omega, by go_num, (by unfold Hid; rw [HN.out]; exact HO4.out), HB4.out⟩
        case measure => simp [intOf]; omega
      · have HN := Lib.hid (n1 hq)
        rw [show K.cont f.data.toList t.data.toList xs[k].key.data.toList = true from hq] at hC
        have HCC := Lib.hid hC
        generalize xs[k] = p at c0 c1 c2 c3 b0 b1' b2 b3 g0 g1 HCC HAT HB1 HO1 HN
        clear n1 n2 hc hq hC hb
        go_wp2_with fail
        refine (HCC.out _).mono ?_; rintro e w4 ⟨rfl, hb4⟩
        have hB4 := HB1.out.trans (hb4.mono (by simp; omega))
        have HO4 := Lib.hid (own_belowO HO1.out hb4)
        have hz4 := hB4.size
        simp at hz4
        obtain ⟨d0, d1, d2, d3⟩ := HAT.out.below hb4 HAT.out.lt
        simp only [Nat.zero_add] at d0 d1 d2 d3
        clear g0 g1 b0 b1' b2 b3
        go_wp2_with (at_builtin; refine wpList_append_pair rfl (.tmp 18) (.tmp 20) rfl (w.heap.size + 1) u5 ((xs.take k).filter (inR f t)) rfl p HO4.out rfl (by omega) (by omega) ?_; intro v1 w5 hown1 hgrow1; have hb5 := below_app hB4 (by omega) hgrow1 (own_ge HO4.out))
        go_roundw
        case rel => exact ⟨k + 1, by omega, by go_num, (by unfold Hid; rw [HN.out]; exact hown1), hb5⟩
        case measure => simp [intOf]; omega
    · obtain rfl : n = k := by omega
      have hown := HO.out
      rw [List.take_of_length_le (by rw [HL.out]; exact Nat.le_refl _)] at hown
      obtain ⟨a2, c2, rfl, hS2⟩ := own_sl hown
      have HCC := Lib.hid (HCP.out a2 c2 wr hS2)
      have HBB := Lib.hid (below_2 HBox.out hbb)
      clear hown hS2 HO hb hbb HCP
      go_wp2_with fail
      refine HCC.out.mono ?_; rintro e w4 ⟨⟨a3, c3, rfl, hS3⟩, hb4⟩
      have HS3 := Lib.hid hS3
      clear hS3
      go_wp2_with fail
      go_ret
      exact ⟨⟨a3, c3, rfl, HS3.out⟩, below_2 HBB.out hb4⟩
end Go.Proofs.Ytieloegadhgipaa.S
