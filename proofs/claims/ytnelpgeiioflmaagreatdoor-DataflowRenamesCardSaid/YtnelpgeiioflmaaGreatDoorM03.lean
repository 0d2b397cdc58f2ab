/-
  What the reference of layer 7 returns: literal, Word: contracts, one a function.
  Lists of tokens in memory.
  What the program's own functions of layer 7 return: IsName, Quote, leadingMark.
  Trees in memory: expressions and statements of layer 8, and what is asked of their sizes.
  Trees in memory: statements, parameters and procedures of layer 8.
-/
import Derived.Test.YtnelpgeiioflmaaGreatDoorM01
import Derived.OwnWalk
import Derived.Laws.AppendOwnNone
import Derived.Deep.AppendLies
import Derived.Laws.MakeOwn
import Derived.Test.YtnelpgeiioflmaaGreatDoorSAFacts
namespace Go.Proofs.YtnelpgeiioflmaaGreatDoor.L
open Go.RowKit

def GivesX (e : Ending) (s : ByteArray) (r : Str × Str × Int) : Prop :=
  ∃ E : Int, e = .returned (.tuple #[.string ⟨r.1.toArray⟩, .int .i64 E, .int .i64 r.2.2]) ∧ (r.2.2 = 0 → E = ((s.size - r.2.1.length : Nat) : Int))
theorem GivesX.ok {e : Ending} {s T : ByteArray} {r : Str × Str × Int} {k : Nat} (h : r = (T.data.toList, s.data.toList.drop k, 0)) (hk : k ≤ s.size) (he : e = .returned (.tuple #[.string T, .int .i64 (k : Int), .int .i64 0])) : GivesX e s r := by
  subst h
  refine ⟨k, he, fun _ => ?_⟩
  show (k : Int) = ((s.size - (s.data.toList.drop k).length : Nat) : Int)
  rw [List.length_drop, ← size_len]
  omega
end Go.Proofs.YtnelpgeiioflmaaGreatDoor.L
namespace Go.Proofs.YtnelpgeiioflmaaGreatDoor.L
open Go.RowKit

structure T where
  k : Int
  t : ByteArray
  n : Int
  line : Int
structure At (w : World) (b o : Nat) (p : T) : Prop where
  key : w.cell? ⟨b, o, none⟩ = some (.int .i64 p.k)
  kind : w.cell? ⟨b, o + 1, none⟩ = some (.string p.t)
  num : w.cell? ⟨b, o + 2, none⟩ = some (.int .i64 p.n)
  str : w.cell? ⟨b, o + 3, none⟩ = some (.int .i64 p.line)
def Tks (w : World) (a : Option Addr) (xs : List T) : Prop :=
  xs = [] ∨ ∃ b o, a = some ⟨b, o, none⟩ ∧ ∀ j (h : j < xs.length), At w b (o + j * 4) xs[j]
theorem Tks.nil (w : World) (a : Option Addr) : Tks w a [] := Or.inl rfl
theorem At.grown {W : World} {b o : Nat} {p : T} (h : At W b o p) : (∀ (d : Nat) (os : Array Obj), (Sort.grow (redrawn W d) os).cell? ⟨b, o, none⟩ = some (.int .i64 p.k)) ∧ (∀ (d : Nat) (os : Array Obj), (Sort.grow (redrawn W d) os).cell? ⟨b, o + 1, none⟩ = some (.string p.t)) ∧
    (∀ (d : Nat) (os : Array Obj), (Sort.grow (redrawn W d) os).cell? ⟨b, o + 2, none⟩ = some (.int .i64 p.n)) ∧ (∀ (d : Nat) (os : Array Obj), (Sort.grow (redrawn W d) os).cell? ⟨b, o + 3, none⟩ = some (.int .i64 p.line)) :=
  ⟨fun d os => cell_regrown h.key d os, fun d os => cell_regrown h.kind d os, fun d os => cell_regrown h.num d os, fun d os => cell_regrown h.str d os⟩
theorem below_app {B : Nat} {w1 wr w2 : World} {o : Obj} {v : Value} (hb : Below B w1 wr) (hB : B ≤ wr.heap.size) (hg : (wr.alloc o).grownBy w2 v.ownBlock) (hv : ∀ g, v.ownBlock = some g → B ≤ g) : Below B w1 w2 :=
  (hb.alloc hB o).grown hg (by simp; omega) hv
theorem own_ge {w : World} {B n size : Nat} {e : TypeId} {v : Value} {xs : List Value} (h : w.ownsRow B e size v n xs) : ∀ g, v.ownBlock = some g → B ≤ g := by
  intro g hg
  rcases h.2 with ⟨rfl, _⟩ | ⟨g', cap, cur, rfl, hb, _⟩
  · cases hg
  · cases hg; exact hb
end Go.Proofs.YtnelpgeiioflmaaGreatDoor.L
namespace Go.Proofs.YtnelpgeiioflmaaGreatDoor.L
open Go.RowKit

theorem lead_all {l : Str} (h : l.all part = true) : l.takeWhile part = l := by
  have := (take_sep (w := l) (r := []) h (fun c z e => by cases e)).1
  rwa [List.append_nil] at this
theorem name_lead {s : ByteArray} (h : 0 < s.size) (h1 : s.size ≤ 16) (h2 : letter s[0] = true) (h3 : s.data.toList.takeWhile part = s.data.toList) : isName s.data.toList = !isKw s.data.toList :=
  name_kw h h1 h2 (by unfold wl; rw [List.drop_zero, h3, size_len])
theorem name_off {s : ByteArray} (h3 : ¬ s.data.toList.takeWhile part = s.data.toList) : isName s.data.toList = false := by
  refine name_part fun h => h3 ?_
  unfold wl at h
  rw [List.drop_zero, size_len] at h
  exact lead_all (all_take.1 h)
theorem empty_of {s : ByteArray} : s.toList.isEmpty = decide (s.size = 0) := by
  rw [Lib.toList_data, Bool.eq_iff_iff, List.isEmpty_iff, decide_eq_true_iff, size_len, List.length_eq_zero_iff]
set_option maxHeartbeats 1000000 in
set_option maxRecDepth 100000 in
theorem oname_any (s : ByteArray) (w : World) :
    Calls Tryz.prog 96 #[.string s] w fun e w' => e = .returned (.bool (isName s.data.toList)) ∧ Below w.heap.size w w' := by
  by_cases h0 : 0 < s.size
  · have he : s.toList.isEmpty = false := by rw [empty_of]; exact decide_eq_false (by omega)
    by_cases h16 : s.size ≤ 16
    · have h1 := fun w => oletter_any (s[0].toNat : Int) w
      rw [ltr_of] at h1
      have hb := byte_lt s[0]
      cases hl : letter s[0]
      · have HV := Lib.hid (name_head h0 hl)
        rw [hl] at h1
        have H1 := Lib.hid h1
        clear h1 hl
        go_enter Tryz.func96, Tryz.ntmps96
        go_wp2_with fail
        refine (H1.out _).mono ?_; rintro e w1 ⟨rfl, rfl⟩
        go_wp2_with fail
        go_ret
        exact ⟨ret_bool HV.out.symm, Below.refl _ _⟩
      · rw [hl] at h1
        have H1 := Lib.hid h1
        have HW := Lib.hid (olead_any s)
        obtain ⟨d, hd⟩ : ∃ d : ByteArray, d = ⟨(s.data.toList.takeWhile part).toArray⟩ := ⟨_, rfl⟩
        have hdl : d.data.toList = s.data.toList.takeWhile part := by rw [hd]
        rw [← hd] at HW
        have hq : (d.toList == s.toList) = decide (s.data.toList.takeWhile part = s.data.toList) := by rw [eql_eq, hdl]
        by_cases hw : s.data.toList.takeWhile part = s.data.toList
        · have HV := Lib.hid (name_lead h0 h16 hl hw)
          rw [decide_eq_true hw] at hq
          have HK := Lib.hid (oisKw_any s)
          generalize isKw s.data.toList = K at HK HV
          clear h1 hl hw hd hdl
          cases K
          all_goals
            go_enter Tryz.func96, Tryz.ntmps96
            go_wp2_with fail
            refine (H1.out _).mono ?_; rintro e w1 ⟨rfl, rfl⟩
            go_wp2_with fail
            refine (HW.out _).mono ?_; rintro e w2 ⟨rfl, hb2⟩
            go_wp2_with fail
            refine (HK.out _).mono ?_; rintro e w3 ⟨rfl, rfl⟩
            go_wp2_with fail
            go_ret
            exact ⟨ret_bool (by rw [HV.out]; rfl), hb2⟩
        · have HV := Lib.hid (name_off hw)
          rw [decide_eq_false hw] at hq
          clear h1 hl hw hd hdl
          go_enter Tryz.func96, Tryz.ntmps96
          go_wp2_with fail
          refine (H1.out _).mono ?_; rintro e w1 ⟨rfl, rfl⟩
          go_wp2_with fail
          refine (HW.out _).mono ?_; rintro e w2 ⟨rfl, hb2⟩
          go_wp2_with fail
          go_ret
          exact ⟨ret_bool HV.out.symm, hb2⟩
    · have HV := Lib.hid (name_long h16)
      go_enter Tryz.func96, Tryz.ntmps96
      go_wp2_with fail
      go_ret
      exact ⟨ret_bool HV.out.symm, Below.refl _ _⟩
  · have HV := Lib.hid (name_short h0)
    have he : s.toList.isEmpty = true := by rw [empty_of]; exact decide_eq_true (by omega)
    go_enter Tryz.func96, Tryz.ntmps96
    go_wp2_with fail
    go_ret
    exact ⟨ret_bool HV.out.symm, Below.refl _ _⟩

/-! ### rows of bytes -/

def bc (l : Str) : List Value := l.map fun b => .int .u8 (b.toNat : Int)
theorem bc_app (a b : Str) : bc (a ++ b) = bc a ++ bc b := List.map_append
theorem info8 : (Tryz.prog.info? 5).map (fun i => (i.zero, i.size, i.bytes)) = some (some (.int .u8 0), 1, 1) := by kernel_rfl
def Own8 (w : World) (B : Nat) (v : Value) (l : Str) : Prop := w.ownsRow B 5 1 v l.length (bc l)
theorem Own8.back {w : World} {B : Nat} {v : Value} {l : Str} (h : Own8 w B v l) : (convert 114 9 v).run Tryz.prog w = .ok (.string ⟨l.toArray⟩) w := by
  rcases h.2 with ⟨rfl, h0⟩ | ⟨g, cap, cur, rfl, _⟩
  · have : l = [] := List.length_eq_zero_iff.1 h0
    subst this
    exact run_convert_bytes_nil (P := Tryz.prog) w 114 5 Tryz.underlying114 Tryz.underlying5 0 0 9 Tryz.underlying9
  · refine run_convert_bytes_back (P := Tryz.prog) _ 114 9 5 _ _ l Tryz.underlying114 Tryz.underlying5 Tryz.underlying9 ?_
    intro j hj
    refine World.ownsRow.cells h (g := g) rfl j _ ?_
    simp [bc, hj]
theorem Own8.alloc {w : World} {B : Nat} {v : Value} {l : Str} (h : Own8 w B v l) (o : Obj) : Own8 (w.alloc o) B v l := World.ownsRow.alloc h o
theorem Own8.ge {w : World} {B : Nat} {v : Value} {l : Str} (h : Own8 w B v l) : ∀ g, v.ownBlock = some g → B ≤ g := own_ge h
theorem Own8.lit (w : World) (c : UInt8) : Own8 (w.alloc (.cells #[.int .u8 (c.toNat : Int)] 5)) w.heap.size (.slice (some ⟨w.heap.size, 0, none⟩) 1 1) [c] := World.ownsRow_lit w _ 1 (Nat.le_refl _) (by decide) rfl
theorem cell_one (w : World) (v : Value) (t : TypeId) : ∀ j u, [v][j]? = some u → (w.alloc (.cells #[v] t)).cell? ((⟨w.heap.size, 0, none⟩ : Addr).add j) = some u := by
  intro j u hu
  have hj : j < 1 := (List.getElem?_eq_some_iff.1 hu).1
  obtain rfl : j = 0 := by omega
  rw [Addr.add_lit, Nat.zero_add]
  have h1 : (w.alloc (.cells #[v] t)).heap[w.heap.size]? = some (.cells #[v] t) := by
    show (w.heap.push _)[w.heap.size]? = _
    simp
  rw [cell_of_row _ _ _ _ _ _ h1, ← Array.getElem?_toList]
  exact hu
theorem wpList_append_byte {w : World} {ops : Array Oper} {rest : List Oper} {o : Oper} {a : Act} {Q : Exit → Act → World → Prop} (hgd : o.guard = none) (s x : Operand)
    (ho : o.op = .call { callee := .builtin .append, args := #[s, x], argTypes := #[114, 114] })
    (base : Nat) (v : Value) (l : Str) (hs : a.eval s = v) (z : Int) (hown : Own8 w base v l)
    (g : Nat) (hx : a.eval x = .slice (some ⟨g, 0, none⟩) 1 1) (hg : g = w.heap.size) (hn : l.length ≤ 100000000000000) (hbase : base ≤ w.heap.size) (c : UInt8) (hz : z = (c.toNat : Int))
    (h : ∀ v' w', Own8 w' base v' (l ++ [c]) → (w.alloc (.cells #[.int .u8 z] 5)).grownBy w' v.ownBlock → wpList Tryz.prog ops Q rest (a.put o.dst v') w') :
    wpList Tryz.prog ops Q (o :: rest) a (w.alloc (.cells #[.int .u8 z] 5)) := by
  subst hg hz
  obtain ⟨i0, hi, hz0, hz1, hz2⟩ := info_parts info8
  refine wpList_append_own _ hgd s x 114 ho base 5 i0 (.int .u8 0) 1 1 Tryz.underlying114 hi hz0 hz1 hz2 rfl (by decide) v l.length (bc l) hs (hown.alloc _) ⟨w.heap.size, 0, none⟩ 1 1 [.int .u8 (c.toNat : Int)] hx rfl (cell_one _ _ _) (by intro u hu; simp at hu; subst hu; rfl) (by unfold maxLen; omega) (by omega) (by simp; omega) ?_
  intro v' w' h1 h2 _
  refine h v' w' ?_ h2
  unfold Own8
  rw [List.length_append, bc_app]
  exact h1

/-! ### Quote -/

theorem esc_next {s : ByteArray} {k : Nat} (h : k < s.size) :
    (spc s[k] = true → 34 :: esc (s.data.toList.take (k + 1)) = 34 :: esc (s.data.toList.take k) ++ [92] ++ [s[k]]) ∧ (spc s[k] = false → 34 :: esc (s.data.toList.take (k + 1)) = 34 :: esc (s.data.toList.take k) ++ [s[k]]) := by
  rw [take_snoc s k h, esc_app]
  constructor
  · intro hs
    rw [show esc [s[k]] = [92, s[k]] from by unfold esc; rw [if_pos (of_decide_eq_true hs)]; rfl]
    simp
  · intro hs
    rw [show esc [s[k]] = [s[k]] from by unfold esc; rw [if_neg (of_decide_eq_false hs)]; rfl]
    simp
theorem esc_le (s : ByteArray) (k : Nat) : (34 :: esc (s.data.toList.take k)).length ≤ 2 * s.size + 1 := by
  rw [List.length_cons]
  have h1 := esc_len (s.data.toList.take k)
  rw [List.length_take, ← size_len] at h1
  omega
set_option maxHeartbeats 2000000 in
set_option maxRecDepth 100000 in
theorem oquote_any (s : ByteArray) (w : World) :
    Calls Tryz.prog 137 #[.string s] w fun e w' => e = .returned (pairS (qt s.data.toList)) ∧ Below w.heap.size w w' := by
  by_cases h64 : 64 < s.size
  · have HV := Lib.hid (qt_long h64)
    go_enter Tryz.func137, Tryz.ntmps137
    go_wp2
    go_ret2
    exact ⟨by rw [HV.out]; rfl, Below.refl _ _⟩
  · have HP := Lib.hid oplain_any
    have HS := Lib.hid ospecial_any
    have HL := Lib.hid (Own8.lit w 34)
    go_enter Tryz.func137, Tryz.ntmps137
    go_wp2_with fail
    go_loopw [4, 12] (fun v i wr => ∃ k : Nat, k ≤ s.size ∧ i = .int .i64 k ∧ Hid (upto prt s k) ∧ Hid (Own8 wr w.heap.size v (34 :: esc (s.data.toList.take k))) ∧ Below w.heap.size w wr) (fun _ i _ => s.size - (intOf i).toNat)
    case atStart => exact ⟨0, Nat.zero_le _, rfl, fun j _ h => absurd h (Nat.not_lt_zero _), HL.out, below_box w _⟩
    case round =>
      obtain ⟨k, hk, rfl, HK, HO, hb⟩ := hrel
      have hzr := hb.size
      have hle := esc_le s k
      by_cases hlt : k < s.size
      · have hp := HP.out s[k]
        cases hok : prt s[k]
        · have HV := Lib.hid (qt_bad h64 (upto_not hlt hok))
          rw [hok] at hp
          have HP1 := Lib.hid hp
          clear hp hok
          go_wp2_with fail
          refine (HP1.out _).mono ?_; rintro e w1 ⟨rfl, rfl⟩
          go_wp2_with fail
          go_ret2
          exact ⟨by rw [HV.out]; rfl, hb⟩
        · rw [hok] at hp
          have HP1 := Lib.hid hp
          have HN : Hid (upto prt s (k + 1)) := by
            intro j h hj
            by_cases e : j = k
            · subst e; exact hok
            · exact HK.out j h (by omega)
          obtain ⟨n1, n2⟩ := esc_next hlt
          have hs := HS.out s[k]
          cases hsp : spc s[k]
          · rw [hsp] at hs
            have HS1 := Lib.hid hs
            have HE := Lib.hid (n2 hsp)
            clear hp hok hs hsp n1 n2
            go_wp2_with fail
            refine (HP1.out _).mono ?_; rintro e w1 ⟨rfl, he⟩; obtain rfl : wr = w1 := he.symm
            go_wp2_with fail
            refine (HS1.out _).mono ?_; rintro e w1 ⟨rfl, he⟩; obtain rfl : wr = w1 := he.symm
            go_wp2_with (at_builtin; refine wpList_append_byte rfl _ _ rfl w.heap.size u4 _ rfl _ HO.out wr.heap.size rfl rfl (by omega) (by omega) s[k] rfl ?_; intro v1 w2 hown1 hgrow1; have hb2 := below_app hb (by omega) hgrow1 HO.out.ge)
            go_roundw
            case rel => exact ⟨k + 1, by omega, by go_num, HN, (by unfold Hid; rw [HE.out]; exact hown1), hb2⟩
            case measure => simp [intOf]; omega
          · rw [hsp] at hs
            have HS1 := Lib.hid hs
            have HE := Lib.hid (n1 hsp)
            clear hp hok hs hsp n1 n2
            go_wp2_with fail
            refine (HP1.out _).mono ?_; rintro e w1 ⟨rfl, he⟩; obtain rfl : wr = w1 := he.symm
            go_wp2_with fail
            refine (HS1.out _).mono ?_; rintro e w1 ⟨rfl, he⟩; obtain rfl : wr = w1 := he.symm
            go_wp2_with (first
              | (at_builtin; refine wpList_append_byte rfl _ _ rfl w.heap.size u4 _ rfl _ HO.out wr.heap.size rfl rfl (by omega) (by omega) 92 rfl ?_; intro v1 w2 hown1 hgrow1; have hb2 := below_app hb (by omega) hgrow1 HO.out.ge; have hz2 := hb2.size)
              | (at_builtin; refine wpList_append_byte rfl _ _ rfl w.heap.size v1 _ rfl _ hown1 w2.heap.size rfl rfl (by rw [List.length_append]; simp only [List.length_cons, List.length_nil] at *; omega) (by omega) s[k] rfl ?_; intro v2 w3 hown2 hgrow2; have hb3 := below_app hb2 (by omega) hgrow2 hown1.ge))
            go_roundw
            case rel => exact ⟨k + 1, by omega, by go_num, HN, (by unfold Hid; rw [HE.out]; exact hown2), hb3⟩
            case measure => simp [intOf]; omega
      · obtain rfl : k = s.size := by omega
        have HV := Lib.hid (qt_ok h64 (upto_all HK.out))
        have HQ : Hid (34 :: (esc (s.data.toList.take s.size) ++ [34]) = quo s.data.toList) := by show _ = _; rw [size_len, List.take_length]; rfl
        go_wp2_with (at_builtin; refine wpList_append_byte rfl _ _ rfl w.heap.size u4 _ rfl _ HO.out wr.heap.size rfl rfl (by omega) (by omega) 34 rfl ?_; intro v1 w2 hown1 hgrow1; have hb2 := below_app hb (by omega) hgrow1 HO.out.ge; have hcv := hown1.back; have HB2 := Lib.hid hown1; clear hown1)
        go_ret2
        exact ⟨by rw [HV.out]; show _ = Ending.returned (.tuple #[.string ⟨(quo s.data.toList).toArray⟩, .int .i64 0]); rw [← HQ.out]; rfl, hb2⟩

/-! ### leadingMark -/

end Go.Proofs.YtnelpgeiioflmaaGreatDoor.L
namespace Go.Proofs.YtnelpgeiioflmaaGreatDoor.A
open Go.RowKit
open L (Str isName prt size_len below_2 below_box ret_bool ret_int eql_eq bytes_eq)

theorem Ex.ind {P : Ex → Prop} (h : ∀ o n s l, (∀ j (hj : j < l.length), P l[j]) → P (.mk o n s l)) : ∀ e, P e := by
  have key : (∀ e : Ex, P e) ∧ ∀ l : List Ex, ∀ j (hj : j < l.length), P l[j] := by
    refine ⟨fun e => ?_, fun l => ?_⟩
    · exact Ex.rec (motive_1 := P) (motive_2 := fun l => ∀ j (hj : j < l.length), P l[j]) h (fun j hj => by cases hj) (fun e l he hl j hj => by
        cases j with
        | zero => exact he
        | succ j => exact hl j (by simpa using hj)) e
    · exact Ex.rec_1 (motive_1 := P) (motive_2 := fun l => ∀ j (hj : j < l.length), P l[j]) h (fun j hj => by cases hj) (fun e l he hl j hj => by
        cases j with
        | zero => exact he
        | succ j => exact hl j (by simpa using hj)) l
  exact key.1
theorem St.ind {P : St → Prop} (h : ∀ o nm mx a b bd el, (∀ j (hj : j < bd.length), P bd[j]) → (∀ j (hj : j < el.length), P el[j]) → P (.mk o nm mx a b bd el)) : ∀ s, P s := by
  intro s
  exact St.rec (motive_1 := P) (motive_2 := fun l => ∀ j (hj : j < l.length), P l[j]) h (fun j hj => by cases hj) (fun e l he hl j hj => by
        cases j with
        | zero => exact he
        | succ j => exact hl j (by simpa using hj)) s

/-! ### expressions in memory -/

mutual
def ExAt (w : World) : Ex → Nat → Nat → Prop
  | .mk o n s l, b, i => w.cell? ⟨b, i, none⟩ = some (.int .i64 o) ∧ w.cell? ⟨b, i + 1, none⟩ = some (.int .i64 n) ∧ w.cell? ⟨b, i + 2, none⟩ = some (.string s) ∧
      ∃ a c, w.cell? ⟨b, i + 3, none⟩ = some (.slice a l.length c) ∧ (l = [] ∨ ∃ b2 i2, a = some ⟨b2, i2, none⟩ ∧ ExsAt w l b2 i2)
def ExsAt (w : World) : List Ex → Nat → Nat → Prop
  | [], _, _ => True
  | e :: r, b, i => ExAt w e b i ∧ ExsAt w r b (i + 4)
end
def Kids (w : World) (a : Option Addr) (l : List Ex) : Prop := l = [] ∨ ∃ b i, a = some ⟨b, i, none⟩ ∧ ExsAt w l b i
theorem ExsAt.get {w : World} : ∀ {l : List Ex} {b i : Nat}, ExsAt w l b i → ∀ j (h : j < l.length), ExAt w l[j] b (i + j * 4)
  | e :: r, b, i, h, 0, _ => by rw [ExsAt] at h; simpa using h.1
  | e :: r, b, i, h, j + 1, hj => by
    rw [ExsAt] at h
    have := ExsAt.get h.2 j (by simpa using hj)
    rw [show i + (j + 1) * 4 = i + 4 + j * 4 by omega]
    exact this
theorem ExAt.lt {w : World} {e : Ex} {b i : Nat} (h : ExAt w e b i) : b < w.heap.size := by
  obtain ⟨o, n, s, l⟩ := e
  rw [ExAt] at h
  exact block_lt_of_cell h.1
mutual
theorem ExAt.below {w w' : World} (hb : Below w.heap.size w w') : ∀ (e : Ex) {b i : Nat}, ExAt w e b i → ExAt w' e b i
  | .mk o n s l, b, i, h => by
    have hlt := h.lt
    rw [ExAt] at h ⊢
    obtain ⟨h0, h1, h2, a, c, h3, h4⟩ := h
    refine ⟨(hb.cell hlt).trans h0, (hb.cell hlt).trans h1, (hb.cell hlt).trans h2, a, c, (hb.cell hlt).trans h3, ?_⟩
    rcases h4 with h4 | ⟨b2, i2, ha, h5⟩
    · exact Or.inl h4
    · exact Or.inr ⟨b2, i2, ha, ExsAt.below hb l h5⟩
theorem ExsAt.below {w w' : World} (hb : Below w.heap.size w w') : ∀ (l : List Ex) {b i : Nat}, ExsAt w l b i → ExsAt w' l b i
  | [], _, _, _ => by rw [ExsAt]; trivial
  | e :: r, b, i, h => by
    rw [ExsAt] at h ⊢
    exact ⟨ExAt.below hb e h.1, ExsAt.below hb r h.2⟩
end
theorem Kids.below {w w' : World} {a : Option Addr} {l : List Ex} (h : Kids w a l) (hb : Below w.heap.size w w') : Kids w' a l := by
  rcases h with h | ⟨b, i, ha, h⟩
  · exact Or.inl h
  · exact Or.inr ⟨b, i, ha, h.below hb⟩
theorem Kids.open {w : World} {a : Option Addr} {l : List Ex} (h : Kids w a l) {k : Nat} (hk : k < l.length) : ∃ b i, a = some ⟨b, i, none⟩ ∧ ExAt w l[k] b (i + k * 4) := by
  rcases h with rfl | ⟨b, i, ha, h⟩
  · cases hk
  · exact ⟨b, i, ha, h.get k hk⟩
theorem ExAt.open {w : World} {e : Ex} {b i : Nat} (h : ExAt w e b i) : w.cell? ⟨b, i, none⟩ = some (.int .i64 e.op) ∧ w.cell? ⟨b, i + 1, none⟩ = some (.int .i64 e.n) ∧ w.cell? ⟨b, i + 2, none⟩ = some (.string e.s) ∧
    ∃ a c, w.cell? ⟨b, i + 3, none⟩ = some (.slice a e.args.length c) ∧ Kids w a e.args := by
  obtain ⟨o, n, s, l⟩ := e
  rw [ExAt] at h
  exact h
def exV (e : Ex) (a : Option Addr) (c : Nat) : Value := .agg #[.int .i64 e.op, .int .i64 e.n, .string e.s, .slice a e.args.length c]
def exO (e : Ex) (a : Option Addr) (c : Nat) : Obj := .cells #[.int .i64 e.op, .int .i64 e.n, .string e.s, .slice a e.args.length c] 42
theorem exO_cells (w : World) (e : Ex) (a : Option Addr) (c : Nat) : (w.alloc (exO e a c)).cell? ⟨w.heap.size, 0, none⟩ = some (.int .i64 e.op) ∧ (w.alloc (exO e a c)).cell? ⟨w.heap.size, 1, none⟩ = some (.int .i64 e.n) ∧
    (w.alloc (exO e a c)).cell? ⟨w.heap.size, 2, none⟩ = some (.string e.s) ∧ (w.alloc (exO e a c)).cell? ⟨w.heap.size, 3, none⟩ = some (.slice a e.args.length c) := by
  unfold exO
  exact ⟨by go_simp, by go_simp, by go_simp, by go_simp⟩
/-! ### sizes -/
mutual
def okE : Ex → Prop
  | .mk o n s l => (-9223372036854775808 ≤ o ∧ o ≤ 9223372036854775807) ∧ (-9223372036854775808 ≤ n ∧ n ≤ 9223372036854775807) ∧ s.size ≤ 1000000000000000 ∧ l.length ≤ 1000000000000000 ∧ okEs l
def okEs : List Ex → Prop
  | [] => True
  | e :: r => okE e ∧ okEs r
end
theorem okEs.get : ∀ {l : List Ex}, okEs l → ∀ j (h : j < l.length), okE l[j]
  | e :: r, h, 0, _ => by rw [okEs] at h; exact h.1
  | e :: r, h, j + 1, hj => by rw [okEs] at h; exact okEs.get h.2 j (by simpa using hj)
end Go.Proofs.YtnelpgeiioflmaaGreatDoor.A
namespace Go.Proofs.YtnelpgeiioflmaaGreatDoor.A
open Go.RowKit
open L (Str isName prt size_len below_2 below_box ret_bool ret_int)

mutual
def StAt (w : World) : St → Nat → Nat → Prop
  | .mk o nm mx a b bd el, blk, i => w.cell? ⟨blk, i, none⟩ = some (.int .i64 o) ∧ w.cell? ⟨blk, i + 1, none⟩ = some (.string nm) ∧ w.cell? ⟨blk, i + 2, none⟩ = some (.int .i64 mx) ∧ ExAt w a blk (i + 3) ∧ ExAt w b blk (i + 7) ∧
      (∃ ad c, w.cell? ⟨blk, i + 11, none⟩ = some (.slice ad bd.length c) ∧ (bd = [] ∨ ∃ b2 i2, ad = some ⟨b2, i2, none⟩ ∧ StsAt w bd b2 i2)) ∧
      (∃ ad c, w.cell? ⟨blk, i + 12, none⟩ = some (.slice ad el.length c) ∧ (el = [] ∨ ∃ b2 i2, ad = some ⟨b2, i2, none⟩ ∧ StsAt w el b2 i2))
def StsAt (w : World) : List St → Nat → Nat → Prop
  | [], _, _ => True
  | s :: r, b, i => StAt w s b i ∧ StsAt w r b (i + 13)
end
def Bodies (w : World) (a : Option Addr) (l : List St) : Prop := l = [] ∨ ∃ b i, a = some ⟨b, i, none⟩ ∧ StsAt w l b i
theorem StsAt.get {w : World} : ∀ {l : List St} {b i : Nat}, StsAt w l b i → ∀ j (h : j < l.length), StAt w l[j] b (i + j * 13)
  | e :: r, b, i, h, 0, _ => by rw [StsAt] at h; simpa using h.1
  | e :: r, b, i, h, j + 1, hj => by
    rw [StsAt] at h
    have := StsAt.get h.2 j (by simpa using hj)
    rw [show i + (j + 1) * 13 = i + 13 + j * 13 by omega]
    exact this
theorem StAt.lt {w : World} {s : St} {b i : Nat} (h : StAt w s b i) : b < w.heap.size := by
  obtain ⟨o, nm, mx, a, b, bd, el⟩ := s
  rw [StAt] at h
  exact block_lt_of_cell h.1
mutual
theorem StAt.below {w w' : World} (hb : Below w.heap.size w w') : ∀ (s : St) {b i : Nat}, StAt w s b i → StAt w' s b i
  | .mk o nm mx a b bd el, blk, i, h => by
    have hlt := h.lt
    rw [StAt] at h ⊢
    obtain ⟨h0, h1, h2, h3, h4, ⟨a5, c5, h5, g5⟩, ⟨a6, c6, h6, g6⟩⟩ := h
    refine ⟨(hb.cell hlt).trans h0, (hb.cell hlt).trans h1, (hb.cell hlt).trans h2, h3.below hb, h4.below hb, ⟨a5, c5, (hb.cell hlt).trans h5, ?_⟩, ⟨a6, c6, (hb.cell hlt).trans h6, ?_⟩⟩
    · rcases g5 with g | ⟨b2, i2, ha, g⟩
      · exact Or.inl g
      · exact Or.inr ⟨b2, i2, ha, StsAt.below hb bd g⟩
    · rcases g6 with g | ⟨b2, i2, ha, g⟩
      · exact Or.inl g
      · exact Or.inr ⟨b2, i2, ha, StsAt.below hb el g⟩
theorem StsAt.below {w w' : World} (hb : Below w.heap.size w w') : ∀ (l : List St) {b i : Nat}, StsAt w l b i → StsAt w' l b i
  | [], _, _, _ => by rw [StsAt]; trivial
  | e :: r, b, i, h => by
    rw [StsAt] at h ⊢
    exact ⟨StAt.below hb e h.1, StsAt.below hb r h.2⟩
end
theorem Bodies.below {w w' : World} {a : Option Addr} {l : List St} (h : Bodies w a l) (hb : Below w.heap.size w w') : Bodies w' a l := by
  rcases h with h | ⟨b, i, ha, h⟩
  · exact Or.inl h
  · exact Or.inr ⟨b, i, ha, h.below hb⟩
theorem Bodies.open {w : World} {a : Option Addr} {l : List St} (h : Bodies w a l) {k : Nat} (hk : k < l.length) : ∃ b i, a = some ⟨b, i, none⟩ ∧ StAt w l[k] b (i + k * 13) := by
  rcases h with rfl | ⟨b, i, ha, h⟩
  · cases hk
  · exact ⟨b, i, ha, h.get k hk⟩
structure StCells (w : World) (s : St) (b i : Nat) (a1 : Option Addr) (c1 : Nat) (a2 : Option Addr) (c2 : Nat) (a3 : Option Addr) (c3 : Nat) (a4 : Option Addr) (c4 : Nat) : Prop where
  k0 : w.cell? ⟨b, i, none⟩ = some (.int .i64 s.op)
  k1 : w.cell? ⟨b, i + 1, none⟩ = some (.string s.name)
  k2 : w.cell? ⟨b, i + 2, none⟩ = some (.int .i64 s.mx)
  k3 : w.cell? ⟨b, i + 3, none⟩ = some (.int .i64 s.a.op)
  k4 : w.cell? ⟨b, i + 4, none⟩ = some (.int .i64 s.a.n)
  k5 : w.cell? ⟨b, i + 5, none⟩ = some (.string s.a.s)
  k6 : w.cell? ⟨b, i + 6, none⟩ = some (.slice a1 s.a.args.length c1)
  k7 : w.cell? ⟨b, i + 7, none⟩ = some (.int .i64 s.b.op)
  k8 : w.cell? ⟨b, i + 8, none⟩ = some (.int .i64 s.b.n)
  k9 : w.cell? ⟨b, i + 9, none⟩ = some (.string s.b.s)
  k10 : w.cell? ⟨b, i + 10, none⟩ = some (.slice a2 s.b.args.length c2)
  k11 : w.cell? ⟨b, i + 11, none⟩ = some (.slice a3 s.body.length c3)
  k12 : w.cell? ⟨b, i + 12, none⟩ = some (.slice a4 s.els.length c4)
structure StKids (w : World) (s : St) (a1 a2 a3 a4 : Option Addr) : Prop where
  a : Kids w a1 s.a.args
  b : Kids w a2 s.b.args
  body : Bodies w a3 s.body
  els : Bodies w a4 s.els
theorem StKids.below {w w' : World} {s : St} {a1 a2 a3 a4 : Option Addr} (h : StKids w s a1 a2 a3 a4) (hb : Below w.heap.size w w') : StKids w' s a1 a2 a3 a4 := ⟨h.a.below hb, h.b.below hb, h.body.below hb, h.els.below hb⟩
theorem StAt.open {w : World} {s : St} {b i : Nat} (h : StAt w s b i) : ∃ a1 c1 a2 c2 a3 c3 a4 c4, StCells w s b i a1 c1 a2 c2 a3 c3 a4 c4 ∧ StKids w s a1 a2 a3 a4 := by
  obtain ⟨o, nm, mx, a, b', bd, el⟩ := s
  rw [StAt] at h
  obtain ⟨h0, h1, h2, h3, h4, ⟨a5, c5, h5, g5⟩, ⟨a6, c6, h6, g6⟩⟩ := h
  obtain ⟨x0, x1, x2, a1, c1, x3, x4⟩ := h3.open
  obtain ⟨y0, y1, y2, a2, c2, y3, y4⟩ := h4.open
  exact ⟨a1, c1, a2, c2, a5, c5, a6, c6, ⟨h0, h1, h2, x0, x1, x2, x3, y0, y1, y2, y3, h5, h6⟩, ⟨x4, y4, g5, g6⟩⟩
theorem StCells.below {w w' : World} {s : St} {b i : Nat} {a1 a2 a3 a4 : Option Addr} {c1 c2 c3 c4 : Nat} (h : StCells w s b i a1 c1 a2 c2 a3 c3 a4 c4) (hb : Below w.heap.size w w') : StCells w' s b i a1 c1 a2 c2 a3 c3 a4 c4 := by
  have hlt : b < w.heap.size := block_lt_of_cell h.k0
  exact ⟨(hb.cell hlt).trans h.k0, (hb.cell hlt).trans h.k1, (hb.cell hlt).trans h.k2, (hb.cell hlt).trans h.k3, (hb.cell hlt).trans h.k4, (hb.cell hlt).trans h.k5, (hb.cell hlt).trans h.k6, (hb.cell hlt).trans h.k7, (hb.cell hlt).trans h.k8, (hb.cell hlt).trans h.k9, (hb.cell hlt).trans h.k10, (hb.cell hlt).trans h.k11, (hb.cell hlt).trans h.k12⟩
mutual
def okS : St → Prop
  | .mk o nm mx a b bd el => (-9223372036854775808 ≤ o ∧ o ≤ 9223372036854775807) ∧ nm.size ≤ 1000000000000000 ∧ (-9223372036854775808 ≤ mx ∧ mx ≤ 9223372036854775807) ∧ okE a ∧ okE b ∧ bd.length ≤ 1000000000000000 ∧ okB bd ∧ el.length ≤ 1000000000000000 ∧ okB el
def okB : List St → Prop
  | [] => True
  | e :: r => okS e ∧ okB r
end
theorem okB.get : ∀ {l : List St}, okB l → ∀ j (h : j < l.length), okS l[j]
  | e :: r, h, 0, _ => by rw [okB] at h; exact h.1
  | e :: r, h, j + 1, hj => by rw [okB] at h; exact okB.get h.2 j (by simpa using hj)
structure OkS (s : St) : Prop where
  name : s.name.size ≤ 1000000000000000
  mx : -9223372036854775808 ≤ s.mx ∧ s.mx ≤ 9223372036854775807
  a : okE s.a
  b : okE s.b
  bodyLen : s.body.length ≤ 1000000000000000
  body : okB s.body
  elsLen : s.els.length ≤ 1000000000000000
  els : okB s.els
theorem okS_open {s : St} (h : okS s) : OkS s := by
  obtain ⟨o, nm, mx, a, b, bd, el⟩ := s
  rw [okS] at h
  obtain ⟨_, h1, h2, h3, h4, h5, h6, h7, h8⟩ := h
  exact ⟨h1, h2, h3, h4, h5, h6, h7, h8⟩
theorem body_ind {Q : List St → Prop} (step : ∀ l, (∀ j (h : j < l.length), Q (l[j]).body ∧ Q (l[j]).els) → Q l) : ∀ l, Q l := by
  have hs : ∀ s : St, Q s.body ∧ Q s.els := St.ind fun o nm mx a b bd el h1 h2 => ⟨step bd h1, step el h2⟩
  exact fun l => step l fun j h => hs l[j]

/-! ### parameters, procedures -/

def PmsAt (w : World) (a : Option Addr) (l : List Pm) : Prop := l = [] ∨ ∃ b i, a = some ⟨b, i, none⟩ ∧ ∀ j (h : j < l.length), w.cell? ⟨b, i + j * 2, none⟩ = some (.string l[j].name) ∧ w.cell? ⟨b, i + j * 2 + 1, none⟩ = some (.int .i64 l[j].ty)
theorem PmsAt.below {w w' : World} {a : Option Addr} {l : List Pm} (h : PmsAt w a l) (hb : Below w.heap.size w w') : PmsAt w' a l := by
  rcases h with h | ⟨b, i, ha, h⟩
  · exact Or.inl h
  · exact Or.inr ⟨b, i, ha, fun j hj => ⟨(hb.cell (block_lt_of_cell (h j hj).1)).trans (h j hj).1, (hb.cell (block_lt_of_cell (h j hj).2)).trans (h j hj).2⟩⟩
theorem PmsAt.open {w : World} {a : Option Addr} {l : List Pm} (h : PmsAt w a l) {k : Nat} (hk : k < l.length) : ∃ b i, a = some ⟨b, i, none⟩ ∧ ∀ j (h : j < l.length), w.cell? ⟨b, i + j * 2, none⟩ = some (.string l[j].name) ∧ w.cell? ⟨b, i + j * 2 + 1, none⟩ = some (.int .i64 l[j].ty) :=
  h.resolve_left (fun e => by rw [e] at hk; exact absurd hk (Nat.not_lt_zero _))
def prV (p : Pr) (a1 : Option Addr) (c1 : Nat) (a2 : Option Addr) (c2 : Nat) : Value := .agg #[.string p.name, .slice a1 p.params.length c1, .slice a2 p.body.length c2]
def prO (p : Pr) (a1 : Option Addr) (c1 : Nat) (a2 : Option Addr) (c2 : Nat) : Obj := .cells #[.string p.name, .slice a1 p.params.length c1, .slice a2 p.body.length c2] 25
structure PrIn (w : World) (p : Pr) (a1 a2 : Option Addr) : Prop where
  params : PmsAt w a1 p.params
  body : Bodies w a2 p.body
theorem PrIn.below {w w' : World} {p : Pr} {a1 a2 : Option Addr} (h : PrIn w p a1 a2) (hb : Below w.heap.size w w') : PrIn w' p a1 a2 := ⟨h.params.below hb, h.body.below hb⟩
structure OkP (p : Pr) : Prop where
  name : p.name.size ≤ 1000000000000000
  params : p.params.length ≤ 1000000000000000
  each : ∀ j (h : j < p.params.length), p.params[j].name.size ≤ 1000000000000000
  bodyLen : p.body.length ≤ 1000000000000000
  body : okB p.body
theorem proc_later {w w' : World} {p : Pr} {a1 a2 : Option Addr} {c1 c2 : Nat} (hb : Below (w.alloc (prO p a1 c1 a2 c2)).heap.size (w.alloc (prO p a1 c1 a2 c2)) w') :
    w'.cell? ⟨w.heap.size, 0, none⟩ = some (.string p.name) ∧ w'.cell? ⟨w.heap.size, 1, none⟩ = some (.slice a1 p.params.length c1) ∧ w'.cell? ⟨w.heap.size, 2, none⟩ = some (.slice a2 p.body.length c2) := by
  have hlt : w.heap.size < (w.alloc (prO p a1 c1 a2 c2)).heap.size := by simp
  refine ⟨(hb.cell hlt).trans ?_, (hb.cell hlt).trans ?_, (hb.cell hlt).trans ?_⟩
  all_goals (unfold prO; go_simp)
end Go.Proofs.YtnelpgeiioflmaaGreatDoor.A
