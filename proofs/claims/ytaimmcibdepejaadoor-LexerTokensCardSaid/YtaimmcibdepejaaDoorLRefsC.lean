/-
  What the reference of layer 7 returns: literal, Word: contracts, one a function.
-/
import Derived.Test.YtaimmcibdepejaaDoorLRefsB
namespace Go.Proofs.YtaimmcibdepejaaDoor.L
open Go.RowKit

/-- a literal's rest read: the text, where it ends, the error -/
def GivesX (e : Ending) (s : ByteArray) (r : Str × Str × Int) : Prop :=
  ∃ E : Int, e = .returned (.tuple #[.string ⟨r.1.toArray⟩, .int .i64 E, .int .i64 r.2.2]) ∧ (r.2.2 = 0 → E = ((s.size - r.2.1.length : Nat) : Int))
theorem GivesX.err {e : Ending} {s : ByteArray} {r : Str × Str × Int} {x : Int} {E : Int} (h : r = ([], [], x)) (hx : x ≠ 0) (he : e = .returned (.tuple #[.string ⟨#[]⟩, .int .i64 E, .int .i64 x])) : GivesX e s r := by
  subst h; exact ⟨E, he, fun h => absurd h hx⟩
theorem GivesX.ok {e : Ending} {s T : ByteArray} {r : Str × Str × Int} {k : Nat} (h : r = (T.data.toList, s.data.toList.drop k, 0)) (hk : k ≤ s.size) (he : e = .returned (.tuple #[.string T, .int .i64 (k : Int), .int .i64 0])) : GivesX e s r := by
  subst h
  refine ⟨k, he, fun _ => ?_⟩
  show (k : Int) = ((s.size - (s.data.toList.drop k).length : Nat) : Int)
  rw [List.length_drop, ← size_len]
  omega
set_option maxHeartbeats 2000000 in
set_option maxRecDepth 100000 in
theorem literal_any (s : ByteArray) (hs : s.size ≤ 9223372036854775800) (k0 : Nat) (h0 : k0 < s.size) (w : World) :
    Calls Tryd.prog 57 #[.string s, .int .i64 (k0 : Int)] w fun e w' => GivesX e s (litr [] (s.data.toList.drop (k0 + 1))) ∧ w' = w := by
  obtain ⟨R, hR⟩ : ∃ R, litr [] (s.data.toList.drop (k0 + 1)) = R := ⟨_, rfl⟩
  rw [hR]
  have HR := Lib.hid hR
  clear hR
  go_enter Tryd.func57, Tryd.ntmps57
  go_wp2
  go_loopw [1, 7] (fun s1 s7 wr => ∃ (k : Nat) (T : ByteArray), k0 < k ∧ k ≤ s.size ∧ s1 = .int .i64 k ∧ s7 = .string T ∧ T.size ≤ 64 ∧ wr = w ∧ Hid (litr T.data.toList (s.data.toList.drop k) = R)) (fun s1 _ _ => s.size - (intOf s1).toNat)
  case atStart => exact ⟨k0 + 1, ⟨#[]⟩, by omega, h0, by go_num, rfl, by decide, rfl, HR⟩
  case round =>
    obtain ⟨k, T, hk0, hk, rfl, rfl, hT, rfl, HK⟩ := hrel
    by_cases hlt : k < s.size
    · have hdk := drop_get s k hlt
      have HK1 : Hid (litr T.data.toList (s[k] :: s.data.toList.drop (k + 1)) = R) := by show _ = _; rw [← hdk]; exact HK.out
      have hTl := size_len T
      by_cases h34 : s[k].toNat = 34
      · have HV : Hid (R = (T.data.toList, s.data.toList.drop (k + 1), 0)) := by show _ = _; rw [← HK1.out, litr_q h34]
        have b1 : ((s[k].toNat : Int) == 34) = true := beq_iff_eq.2 (by omega)
        clear h34 hdk hTl
        go_wp2_with fail
        go_ret3
        exact ⟨GivesX.ok (k := k + 1) HV.out (by omega) (by rw [Int.natCast_add]; rfl), rfl⟩
      · have b1 : ((s[k].toNat : Int) == 34) = false := beq_eq_false_iff_ne.2 (by omega)
        by_cases h92 : s[k].toNat = 92
        · have b2 : ((s[k].toNat : Int) == 92) = true := beq_iff_eq.2 (by omega)
          by_cases hl2 : k + 1 < s.size
          · have hdk2 := drop_get s (k + 1) hl2
            rw [hdk2] at HK1
            by_cases hq : s[k + 1].toNat = 34 ∨ s[k + 1].toNat = 92
            · by_cases h64 : T.size = 64
              · have HV : Hid (R = ([], [], 2)) := by show _ = _; rw [← HK1.out, litr_el h92 hq (by rw [← hTl]; exact h64)]
                rcases hq with hq | hq
                · have b3 : ((s[k + 1].toNat : Int) != 34) = false := by rw [bne_eq_false_iff_eq]; omega
                  clear h34 h92 hdk hdk2 hq hTl HK1
                  go_wp2_with fail
                  go_ret3
                  exact ⟨GivesX.err HV.out (by decide) rfl, rfl⟩
                · have b3 : ((s[k + 1].toNat : Int) != 34) = true := bne_iff_ne.2 (by omega)
                  have b4 : ((s[k + 1].toNat : Int) != 92) = false := by rw [bne_eq_false_iff_eq]; omega
                  clear h34 h92 hdk hdk2 hq hTl HK1
                  go_wp2_with fail
                  go_ret3
                  exact ⟨GivesX.err HV.out (by decide) rfl, rfl⟩
              · obtain ⟨d, hd, hd2, hsl⟩ := slice_one s (k + 1) hl2
                simp only [Int.natCast_add, Int.natCast_one] at hsl
                have HN : Hid (litr (T ++ d).data.toList (s.data.toList.drop (k + 1 + 1)) = R) := by
                  show _ = _
                  rw [append_list, hd, ← litr_e h92 hq (by rw [← hTl]; exact h64)]; exact HK1.out
                have hz : (T ++ d).size ≤ 64 := by rw [ByteArray.size_append, hd2]; omega
                have bz : ((T.size : Int) == 64) = false := beq_eq_false_iff_ne.2 (by omega)
                rcases hq with hq | hq
                · have b3 : ((s[k + 1].toNat : Int) != 34) = false := by rw [bne_eq_false_iff_eq]; omega
                  clear h34 h92 hdk hdk2 hq hTl HK1 hd
                  go_wp2_with fail
                  go_roundw
                  case rel => exact ⟨k + 1 + 1, _, by omega, by omega, by go_num, rfl, hz, by first | rfl | trivial, HN⟩
                  case measure => simp [intOf]; omega
                · have b3 : ((s[k + 1].toNat : Int) != 34) = true := bne_iff_ne.2 (by omega)
                  have b4 : ((s[k + 1].toNat : Int) != 92) = false := by rw [bne_eq_false_iff_eq]; omega
                  clear h34 h92 hdk hdk2 hq hTl HK1 hd
                  go_wp2_with fail
                  go_roundw
                  case rel => exact ⟨k + 1 + 1, _, by omega, by omega, by go_num, rfl, hz, by first | rfl | trivial, HN⟩
                  case measure => simp [intOf]; omega
            · have HV : Hid (R = ([], [], 5)) := by show _ = _; rw [← HK1.out, litr_es h92 hq]
              have b3 : ((s[k + 1].toNat : Int) != 34) = true := bne_iff_ne.2 (by omega)
              have b4 : ((s[k + 1].toNat : Int) != 92) = true := bne_iff_ne.2 (by omega)
              clear h34 h92 hdk hdk2 hq hTl HK1
              go_wp2_with fail
              go_ret3
              exact ⟨GivesX.err HV.out (by decide) rfl, rfl⟩
          · have hke : k + 1 = s.size := by omega
            have HV : Hid (R = ([], [], 6)) := by
              show _ = _
              rw [← HK1.out, hke, drop_all, litr_e0 h92]
            have bl : ((k : Int) + 1 == (s.size : Int)) = true := beq_iff_eq.2 (by omega)
            clear h34 h92 hdk hTl HK1 hke
            go_wp2_with fail
            go_ret3
            exact ⟨GivesX.err HV.out (by decide) rfl, rfl⟩
        · have b2 : ((s[k].toNat : Int) == 92) = false := beq_eq_false_iff_ne.2 (by omega)
          cases hp : prt s[k]
          · have HV : Hid (R = ([], [], 5)) := by show _ = _; rw [← HK1.out, litr_ps h34 h92 hp]
            rcases prt_not hp with h | h
            · have b3 : decide ((s[k].toNat : Int) < 32) = true := decide_eq_true h
              clear h34 h92 hdk hTl HK1 hp h
              go_wp2_with fail
              go_ret3
              exact ⟨GivesX.err HV.out (by decide) rfl, rfl⟩
            · have b3 : decide ((s[k].toNat : Int) < 32) = false := decide_eq_false (by omega)
              have b4 : decide (126 < (s[k].toNat : Int)) = true := decide_eq_true h
              clear h34 h92 hdk hTl HK1 hp h
              go_wp2_with fail
              go_ret3
              exact ⟨GivesX.err HV.out (by decide) rfl, rfl⟩
          · have hpp := prt_iff.1 hp
            have b3 : decide ((s[k].toNat : Int) < 32) = false := decide_eq_false (by omega)
            have b4 : decide (126 < (s[k].toNat : Int)) = false := decide_eq_false (by omega)
            by_cases h64 : T.size = 64
            · have HV : Hid (R = ([], [], 2)) := by show _ = _; rw [← HK1.out, litr_pl h34 h92 hp (by rw [← hTl]; exact h64)]
              clear h34 h92 hdk hTl HK1 hp hpp
              go_wp2_with fail
              go_ret3
              exact ⟨GivesX.err HV.out (by decide) rfl, rfl⟩
            · obtain ⟨d, hd, hd2, hsl⟩ := slice_one s k hlt
              have HN : Hid (litr (T ++ d).data.toList (s.data.toList.drop (k + 1)) = R) := by
                show _ = _
                rw [append_list, hd, ← litr_p h34 h92 hp (by rw [← hTl]; exact h64)]; exact HK1.out
              have hz : (T ++ d).size ≤ 64 := by rw [ByteArray.size_append, hd2]; omega
              have bz : ((T.size : Int) == 64) = false := beq_eq_false_iff_ne.2 (by omega)
              clear h34 h92 hdk hTl HK1 hp hpp hd
              go_wp2_with fail
              go_roundw
              case rel => exact ⟨k + 1, _, by omega, by omega, by go_num, rfl, hz, by first | rfl | trivial, HN⟩
              case measure => simp [intOf]; omega
    · obtain rfl : k = s.size := by omega
      have HV : Hid (R = ([], [], 6)) := by show _ = _; rw [← HK.out, drop_all, litr_0]
      go_wp2_with fail
      go_ret3
      exact ⟨GivesX.err HV.out (by decide) rfl, rfl⟩
end Go.Proofs.YtaimmcibdepejaaDoor.L
