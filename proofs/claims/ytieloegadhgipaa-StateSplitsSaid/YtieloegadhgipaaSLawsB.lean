/-
  The laws on the encodings of layer 6, walked: what Encode and Decode return, and round trips.
-/
import Derived.Test.YtieloegadhgipaaSLawsA
namespace Go.Proofs.Ytieloegadhgipaa.S
open Go.RowKit
open Go.Proofs.Ytieloegadhgipaa.V (ret_bool ret_int ret_string below_2 below_box below_box2 size_len bytes_eq append_list)
open Go.Proofs.Ytieloegadhgipaa.W (xV xN xE cV cN)

theorem ofPr_of (p : P) : ofPr p.pr = p := rfl
theorem map_prs (xs : List P) : (prs xs).map ofPr = xs := by
  unfold prs
  rw [List.map_map]
  exact List.map_id xs
theorem rds_okl (s : ByteArray) : ∀ (n : Nat) (a : Int), Okl s (rds s.data.toList n a).1
  | 0, _ => fun p hp => by cases hp
  | n + 1, a => by
    have ih := rds_okl s n (V.ds s.data.toList (xN s.data.toList a 24)).2.1
    have hsl := size_len s
    rw [rds]
    split
    · exact fun p hp => by cases hp
    · split
      · exact fun p hp => by cases hp
      · split
        · exact fun p hp => by cases hp
        · intro p hp
          rcases List.mem_cons.1 hp with rfl | hp
          · have h1 := xV_len (l := s.data.toList) (a := a) (m := 24)
            obtain ⟨h2, h3, h4⟩ := ds_held s.data.toList (xN s.data.toList a 24)
            exact ⟨by show (xV s.data.toList a 24).length ≤ _; omega, by show (V.ds s.data.toList (xN s.data.toList a 24)).1.s.length ≤ _; omega, h3, h4⟩
          · exact ih p hp
theorem decs_okl (s : ByteArray) (a : Int) : Okl s (decs s.data.toList a).1 := by
  unfold decs
  split
  · exact fun p hp => by cases hp
  · split
    · exact fun p hp => by cases hp
    · split
      · exact rds_okl s _ _
      · exact fun p hp => by cases hp
theorem decs_fits (s : ByteArray) (hs : s.size ≤ 1000000000000) (a : Int) : Fits ((decs s.data.toList a).1.map ofPr) := (decs_okl s a).fits hs (by have := decs_len (s := s.data.toList) (a := a); rw [← size_len] at this; exact this)
set_option maxHeartbeats 4000000 in
set_option maxRecDepth 100000 in
theorem codes_walk (O : Own) (a : Option Addr) (c : Nat) (xs : List P) (s : ByteArray) (t : Int) (hf : Fits xs) (he : (encs (prs xs)).length ≤ 1000000000000) (hs : s.size ≤ 1000000000000) (h0 : -9223372036854775808 ≤ t) (h1 : t ≤ 9223372036854775807) (w : World) (hA : Sl w a c xs) :
    Calls Try.prog 6 #[.slice a xs.length c, .string s, .int .i64 t] w fun e w' => e = .returned (.bool true) ∧ Below w.heap.size w w' := by
  have HA := Lib.hid hA
  have p1 := fun w => O.dec s hs t h0 h1 w
  have p2 := fun w => rdecs_any s hs t h0 h1 w
  have p3 := fun w hA => O.enc a c xs hf he w hA
  have p4 := fun w (hA : Sl w a c xs) => renc_any a c xs hf he w hA.prs
  have PE := Lib.hid (examples_any O)
  have hl := (decs_fits s hs t).len
  unfold GivesD at p1 p2
  generalize (decs s.data.toList t).1.map ofPr = zs at p1 p2 hl
  generalize (decs s.data.toList t).2.1 = N at p1 p2
  generalize (decs s.data.toList t).2.2 = E at p1 p2
  generalize ByteArray.mk (encs (prs xs)).toArray = S at p3 p4
  generalize xs.length = n at p3 p4 ⊢
  have P1 := Lib.hid p1
  have P2 := Lib.hid p2
  have P3 := Lib.hid p3
  have P4 := Lib.hid p4
  have L := Lib.hid hl
  clear hA hf he hs h0 h1 O p1 p2 p3 p4 hl
  go_enter Try.func6, Try.ntmps6
  go_wp2_with fail
  refine (P1.out _).mono ?_; rintro e w1 ⟨⟨a1, c1, rfl, hS1⟩, hb1⟩
  have HA1 := Lib.hid (HA.out.below hb1)
  have H1 := Lib.hid hb1
  have HS1 := Lib.hid hS1
  clear hb1 hS1
  go_wp2_with fail
  refine (P2.out _).mono ?_; rintro e w2 ⟨⟨a2, c2, rfl, hS2⟩, hb2⟩
  have HA2 := Lib.hid (HA1.out.below hb2)
  have H2 := Lib.hid (below_2 H1.out hb2)
  have HS2 := Lib.hid hS2
  have HS1 := Lib.hid (HS1.out.below hb2)
  clear hb2 hS2 HA1 H1
  go_wp2_with fail
  refine (P3.out _ HA2.out).mono ?_; rintro e w3 ⟨rfl, hb3⟩
  have HA3 := Lib.hid (HA2.out.below hb3)
  have H3 := Lib.hid (below_2 H2.out hb3)
  have HS1 := Lib.hid (HS1.out.below hb3)
  have HS2 := Lib.hid (HS2.out.below hb3)
  clear hb3 HA2 H2
  go_wp2_with fail
  refine (P4.out _ HA3.out).mono ?_; rintro e w4 ⟨rfl, hb4⟩
  have H4 := Lib.hid (below_2 H3.out hb4)
  have HS1 := Lib.hid (HS1.out.below hb4)
  have HS2 := Lib.hid (HS2.out.below hb4)
  clear hb4 HA3 H3
  go_wp2_with fail
  refine (rsame_any a1 a2 c1 c2 zs zs L.out _ HS1.out.prs HS2.out.prs).mono ?_; rintro e w5 ⟨he, hb5⟩
  rw [same_self] at he
  subst he
  have H5 := Lib.hid (below_2 H4.out hb5)
  clear hb5 HS1 HS2 H4
  go_wp2_with fail
  refine (PE.out _).mono ?_; rintro e w6 ⟨rfl, hb6⟩
  go_wp2_with fail
  go_ret
  exact ⟨rfl, below_2 H5.out hb6⟩

/-! ### round trips -/

set_option maxHeartbeats 4000000 in
set_option maxRecDepth 100000 in
theorem trips_walk (O : Own) (a : Option Addr) (c : Nat) (xs : List P) (p q : ByteArray) (hf : Fits xs) (hx : xs.length ≤ 2147483647) (hz : p.size + (encs (prs xs)).length + q.size ≤ 1000000000000) (w : World) (hA : Sl w a c xs) :
    Calls Try.prog 7 #[.slice a xs.length c, .string p, .string q] w fun e w' => e = .returned (.bool true) ∧ Below w.heap.size w w' := by
  have HA := Lib.hid hA
  have p1 := fun w hA => O.enc a c xs hf (by omega) w hA
  have p3 := fun w hA => O.valid a c xs hf w hA
  have PE := Lib.hid (examples_any O)
  have hts : (p ++ ByteArray.mk (encs (prs xs)).toArray ++ q).size ≤ 1000000000000 := by
    simp only [ByteArray.size_append]
    have : (ByteArray.mk (encs (prs xs)).toArray).size = (encs (prs xs)).length := size_len _
    omega
  have hes : (ByteArray.mk (encs (prs xs)).toArray).size = (encs (prs xs)).length := size_len _
  have p2 := fun w => O.dec (p ++ ByteArray.mk (encs (prs xs)).toArray ++ q) hts p.size (by omega) (by omega) w
  have hft := decs_fits (p ++ ByteArray.mk (encs (prs xs)).toArray ++ q) hts p.size
  have p4 := fun a1 c1 w hS => O.valid a1 c1 _ hft w hS
  have hdv := decs_valid (s := (p ++ ByteArray.mk (encs (prs xs)).toArray ++ q).data.toList) (a := p.size)
  rw [prs_ofPr] at p4
  unfold GivesD at p2
  have hl := hft.len
  have LX := Lib.hid hf.len
  cases hv : vs (prs xs)
  · rw [hv] at p3
    by_cases e0 : (decs (p ++ ByteArray.mk (encs (prs xs)).toArray ++ q).data.toList p.size).2.2 = 0
    · rw [hdv e0] at p4
      rw [e0] at p2
      generalize (decs (p ++ ByteArray.mk (encs (prs xs)).toArray ++ q).data.toList p.size).1.map ofPr = zs at p2 p4 hl
      generalize (decs (p ++ ByteArray.mk (encs (prs xs)).toArray ++ q).data.toList p.size).2.1 = N at p2
      generalize ByteArray.mk (encs (prs xs)).toArray = S at p1 p2 hts hes
      generalize xs.length = n at p1 p3 ⊢
      have P1 := Lib.hid p1
      have P2 := Lib.hid p2
      have P3 := Lib.hid p3
      have P4 := Lib.hid p4
      simp only [ByteArray.size_append] at hts
      clear hA hf hx hz O p1 p2 p3 p4 hl hv hft hdv e0 hes
      go_enter Try.func7, Try.ntmps7
      go_wp2_with fail
      refine (P1.out _ HA.out).mono ?_; rintro e w1 ⟨rfl, hb1⟩
      have HA1 := Lib.hid (HA.out.below hb1)
      have H1 := Lib.hid hb1
      clear hb1
      go_wp2_with fail
      refine (P2.out _).mono ?_; rintro e w2 ⟨⟨a2, c2, rfl, hS2⟩, hb2⟩
      have HA2 := Lib.hid (HA1.out.below hb2)
      have H2 := Lib.hid (below_2 H1.out hb2)
      have HS2 := Lib.hid hS2
      clear hb2 hS2 HA1 H1
      go_wp2_with fail
      refine (P3.out _ HA2.out).mono ?_; rintro e w3 ⟨rfl, hb3⟩
      have HS2 := Lib.hid (HS2.out.below hb3)
      have H3 := Lib.hid (below_2 H2.out hb3)
      clear hb3 HA2 H2
      go_wp2_with fail
      refine (P4.out _ _ _ HS2.out).mono ?_; rintro e w4 ⟨rfl, hb4⟩
      have H4 := Lib.hid (below_2 H3.out hb4)
      clear hb4 HS2 H3
      go_wp2_with fail
      refine (PE.out _).mono ?_; rintro e w6 ⟨rfl, hb6⟩
      go_wp2_with fail
      go_ret
      exact ⟨rfl, below_2 H4.out hb6⟩
    · have bE : ((decs (p ++ ByteArray.mk (encs (prs xs)).toArray ++ q).data.toList p.size).2.2 != 0) = true := bne_iff_ne.2 e0
      generalize (decs (p ++ ByteArray.mk (encs (prs xs)).toArray ++ q).data.toList p.size).1.map ofPr = zs at p2
      generalize (decs (p ++ ByteArray.mk (encs (prs xs)).toArray ++ q).data.toList p.size).2.1 = N at p2
      generalize (decs (p ++ ByteArray.mk (encs (prs xs)).toArray ++ q).data.toList p.size).2.2 = E at p2 bE
      generalize ByteArray.mk (encs (prs xs)).toArray = S at p1 p2 hts hes
      generalize xs.length = n at p1 p3 ⊢
      have P1 := Lib.hid p1
      have P2 := Lib.hid p2
      have P3 := Lib.hid p3
      simp only [ByteArray.size_append] at hts
      clear hA hf hx hz O p1 p2 p3 p4 hl hv hft hdv e0 hes
      go_enter Try.func7, Try.ntmps7
      go_wp2_with fail
      refine (P1.out _ HA.out).mono ?_; rintro e w1 ⟨rfl, hb1⟩
      have HA1 := Lib.hid (HA.out.below hb1)
      have H1 := Lib.hid hb1
      clear hb1
      go_wp2_with fail
      refine (P2.out _).mono ?_; rintro e w2 ⟨⟨a2, c2, rfl, hS2⟩, hb2⟩
      have HA2 := Lib.hid (HA1.out.below hb2)
      have H2 := Lib.hid (below_2 H1.out hb2)
      clear hb2 hS2 HA1 H1
      go_wp2_with fail
      refine (P3.out _ HA2.out).mono ?_; rintro e w3 ⟨rfl, hb3⟩
      have H3 := Lib.hid (below_2 H2.out hb3)
      clear hb3 HA2 H2
      go_wp2_with fail
      refine (PE.out _).mono ?_; rintro e w6 ⟨rfl, hb6⟩
      go_wp2_with fail
      go_ret
      exact ⟨rfl, below_2 H3.out hb6⟩
  · rw [hv] at p3
    have hD : decs (p ++ ByteArray.mk (encs (prs xs)).toArray ++ q).data.toList p.size = (prs xs, ((p.size + (ByteArray.mk (encs (prs xs)).toArray).size : Nat) : Int), 0) := by
      have h1 := decs_encs p.data.toList q.data.toList hv (fun y hy => by obtain ⟨k, hk, rfl⟩ := of_prs hy; exact hf.num _ (List.getElem_mem hk)) (by rw [prs_len]; exact hx)
      rw [append_list, append_list, List.append_assoc, hes]
      rw [← size_len] at h1
      exact h1
    rw [hD] at p2
    simp only [map_prs] at p2
    generalize ByteArray.mk (encs (prs xs)).toArray = S at p1 p2 hts hes
    have P1 := Lib.hid p1
    have P2 := Lib.hid p2
    have P3 := Lib.hid p3
    have PS := Lib.hid (fun (a1 : Option Addr) (c1 : Nat) (w : World) (h1 : Sl w a1 c1 xs) (h2 : Sl w a c xs) => rsame_any a1 a c1 c xs xs LX.out w h1.prs h2.prs)
    rw [same_self] at PS
    generalize xs.length = n at P1 P2 P3 PS ⊢
    simp only [ByteArray.size_append] at hts
    clear hA hf hx hz O p1 p2 p3 p4 hl hv hft hdv hes hD
    go_enter Try.func7, Try.ntmps7
    go_wp2_with fail
    refine (P1.out _ HA.out).mono ?_; rintro e w1 ⟨rfl, hb1⟩
    have HA1 := Lib.hid (HA.out.below hb1)
    have H1 := Lib.hid hb1
    clear hb1
    go_wp2_with fail
    refine (P2.out _).mono ?_; rintro e w2 ⟨⟨a2, c2, rfl, hS2⟩, hb2⟩
    have HA2 := Lib.hid (HA1.out.below hb2)
    have H2 := Lib.hid (below_2 H1.out hb2)
    have HS2 := Lib.hid hS2
    clear hb2 hS2 HA1 H1
    go_wp2_with fail
    refine (P3.out _ HA2.out).mono ?_; rintro e w3 ⟨rfl, hb3⟩
    have HA3 := Lib.hid (HA2.out.below hb3)
    have HS2 := Lib.hid (HS2.out.below hb3)
    have H3 := Lib.hid (below_2 H2.out hb3)
    clear hb3 HA2 H2
    go_wp2_with fail
    refine (PS.out _ _ _ HS2.out HA3.out).mono ?_; rintro e w4 ⟨rfl, hb4⟩
    have H4 := Lib.hid (below_2 H3.out hb4)
    clear hb4 HS2 H3 HA3
    go_wp2_with fail
    refine (PE.out _).mono ?_; rintro e w6 ⟨rfl, hb6⟩
    go_wp2_with fail
    go_ret
    exact ⟨rfl, below_2 H4.out hb6⟩
end Go.Proofs.Ytieloegadhgipaa.S
