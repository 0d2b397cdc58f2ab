/-
  The program's writer of layer 9: the method proc: a contract.
  Program and Proc of layer 9: contracts.
  Proc of layer 9: a contract.
-/
import Derived.Test.YtbmdadhbkdkgmaaDoorPOI
import Derived.Test.YtbmdadhbkdkgmaaDoorPMem
import Derived.Deep.AppendLies
import Derived.Lib.Join
import Derived.Test.YtbmdadhbkdkgmaaDoorGS
namespace Go.Proofs.YtbmdadhbkdkgmaaDoor.P
open Go.RowKit
open L (Str isName prt size_len below_2 below_box ret_bool ret_int ret_string bytes_eq append_list Own8)
open A

/-- the call owns a row of strings -/
def OwnS (w : World) (B : Nat) (v : Value) (xs : List ByteArray) : Prop := w.ownsRow B 9 1 v xs.length (xs.map Value.string)
theorem infoS : (Tryd.prog.info? 9).map (fun i => (i.zero, i.size, i.bytes)) = some (some (.string ⟨#[]⟩), 1, 16) := by kernel_rfl
theorem OwnS.alloc {w : World} {B : Nat} {v : Value} {xs : List ByteArray} (h : OwnS w B v xs) (o : Obj) : OwnS (w.alloc o) B v xs := World.ownsRow.alloc h o
theorem OwnS.below {w w' : World} {B : Nat} {v : Value} {xs : List ByteArray} (h : OwnS w B v xs) (hb : Below w.heap.size w w') : OwnS w' B v xs := L.own_belowO h hb
theorem OwnS.ge {w : World} {B : Nat} {v : Value} {xs : List ByteArray} (h : OwnS w B v xs) : ∀ g, v.ownBlock = some g → B ≤ g := L.own_ge h
theorem OwnS.apart {w : World} {B : Nat} {v : Value} {xs : List ByteArray} (h : OwnS w B v xs) {k : Nat} {cs : Array Value} {t : TypeId} {f : Nat × Nat} (hk : w.heap[k]? = some (.cells cs t f)) (ht : t ≠ 9) : some k ≠ v.ownBlock := by
  intro e
  rcases h.2 with ⟨rfl, _⟩ | ⟨g, cap, cur, rfl, _, hg, _⟩
  · cases e
  · simp only [Value.ownBlock, Option.some.injEq] at e
    subst e
    rw [hk] at hg
    simp only [Option.some.injEq, Obj.cells.injEq] at hg
    exact ht hg.2.1
theorem OwnS.shape {w : World} {B : Nat} {v : Value} {xs : List ByteArray} (h : OwnS w B v xs) : ∃ p n q, v = .slice p n q := by
  rcases h.2 with ⟨rfl, _⟩ | ⟨g, cap, cur, rfl, _⟩
  · exact ⟨none, 0, 0, rfl⟩
  · exact ⟨_, _, _, rfl⟩
/-- a string appended to a row of strings, at a step of a region that draws -/
theorem step_append_str {w : World} {ops : Array Oper} {o : Oper} {a : Act} {K : Act → World → Prop} {Q : Exit → Act → World → Prop} {E : Prop} (hgd : o.guard = none) (s x : Operand)
    (ho : o.op = .call { callee := .builtin .append, args := #[s, x], argTypes := #[43, 43] })
    (base : Nat) (v : Value) (xs : List ByteArray) (hs : a.eval s = v) (t : ByteArray) (hown : OwnS w base v xs)
    (g : Nat) (hx : a.eval x = .slice (some ⟨g, 0, none⟩) 1 1) (hg : w.cell? ⟨g, 0, none⟩ = some (.string t)) (hn : xs.length ≤ 1000) (hbase : base ≤ w.heap.size)
    (h : ∀ p n q w', OwnS w' base (.slice p n q) (xs ++ [t]) → w.grownBy w' v.ownBlock → K (a.put o.dst (.slice p n q)) w') :
    if Region.wanted o (yielded ops a.tmps) = true then Oper.wp Tryd.prog o a w K Q else E := by
  obtain ⟨i0, hi, hz0, hz1, hz2⟩ := info_of infoS
  refine step_append_lies _ hgd s x 43 ho base 9 i0 _ 1 16 Tryd.underlying43 hi hz0 hz1 hz2 rfl (by decide) v xs.length (xs.map Value.string) hs hown ⟨g, 0, none⟩ 1 1 [.string t] hx rfl (fun j u hu => ?_) (by intro u hu; simp at hu; subst hu; rfl) (by decide) (by unfold maxLen; omega) (by omega) hbase _ rfl ?_
  · match j, hu with
    | 0, hu => exact hg.trans hu
  · intro g cap w' h1 h2 _ _
    refine h _ _ _ w' ?_ h2
    unfold OwnS
    rw [List.length_append, List.map_append]
    exact h1
/-- the parameters' texts -/
def parS (p : Pr) : List ByteArray := p.params.map fun q => ba (txQ q)
theorem parS_len (p : Pr) : (parS p).length = p.params.length := List.length_map _
theorem parS_snoc {p : Pr} {k : Nat} (h : k < p.params.length) : (parS p).take (k + 1) = (parS p).take k ++ [ba (txQ p.params[k])] := by
  rw [List.take_succ_eq_append_getElem (by rw [parS_len]; exact h)]
  unfold parS
  rw [List.getElem_map]
theorem txPs_tail : ∀ l : List Pm, txPs l = Lib.joinTail [44, 32] (l.map txQ)
  | [] => rfl
  | q :: r => by
    rw [txPs, txPs_tail r]
    unfold Lib.joinTail txQ
    simp
theorem join_pars (p : Pr) : Lib.join ((parS p).map (·.data.toList)) [44, 32] = txPm p.params := by
  have e : (parS p).map (·.data.toList) = p.params.map txQ := by
    unfold parS
    rw [List.map_map]
    exact List.map_congr_left fun q _ => oba_list _
  rw [e]
  cases p.params with
  | nil => rfl
  | cons q r =>
    rw [List.map_cons, Lib.join_cons, txPm, txPs_tail]
    unfold txQ
    simp
theorem ojoin_any (B : Nat) (v : Value) (xs : List ByteArray) (hx : xs.length ≤ 1000) (hl : (Lib.join (xs.map (·.data.toList)) [44, 32]).length ≤ 1000000) (w : World) (h : OwnS w B v xs) :
    Calls Tryd.prog 48 #[v, .string ⟨#[44, 32]⟩] w fun e w' => e = .returned (.string (ba (Lib.join (xs.map (·.data.toList)) [44, 32]))) ∧ Below w.heap.size w w' := by
  have hc := fun g hg => World.ownsRow.cells h (g := g) hg
  have hlt := fun g hg => (World.ownsRow.lt h g hg).2
  rcases h.2 with ⟨rfl, h0⟩ | ⟨g, cap, cur, rfl, _, _, hcap, _⟩
  · obtain rfl := List.length_eq_zero_iff.1 h0
    exact (Tryd.strings_Join_none none 0 ⟨#[44, 32]⟩ w).mono fun _ _ ⟨h1, h2⟩ => ⟨h1, h2 ▸ Below.refl _ _⟩
  · refine (Tryd.strings_Join g 0 cap xs ⟨#[44, 32]⟩ w (fun j x hj => ?_) (hlt g rfl) (by omega) hcap (by show (Lib.join _ [44, 32]).length ≤ _; omega)).mono fun _ _ ⟨h1, h2⟩ => ⟨h1, h2⟩
    have := hc g rfl j (.string x) (by rw [List.getElem?_map, hj]; rfl)
    rw [Addr.add_lit, Nat.zero_add] at this
    rw [Nat.zero_add]
    exact this
theorem opm_ne : 59 ≠ 9 := by decide
theorem oop_ne : 25 ≠ 9 := by decide
theorem oop_ne8 : 25 ≠ 5 := by decide
/-- the head of a procedure -/
def hdL (p : Pr) : Str := kProc ++ 32 :: (str p.name ++ 40 :: (txPm p.params ++ 41 :: opb))
theorem otxP_parts (p : Pr) : txP p = hdL p ++ (txB p.body 1 ++ clL 0) := by
  unfold txP hdL clL
  simp [ind]
/-- the box of a procedure at block K -/
def BoxP (w : World) (K : Nat) (p : Pr) (a1 : Option Addr) (c1 : Nat) (a2 : Option Addr) (c2 : Nat) : Prop := w.heap[K]? = some (.cells #[.string p.name, .slice a1 p.params.length c1, .slice a2 p.body.length c2] 25 (0, 0))
section
variable {w w' : World} {K : Nat} {p : Pr} {a1 : Option Addr} {c1 : Nat} {a2 : Option Addr} {c2 : Nat}
theorem BoxP.lt (h : BoxP w K p a1 c1 a2 c2) : K < w.heap.size := (Array.getElem?_eq_some_iff.1 h).1
theorem BoxP.below (h : BoxP w K p a1 c1 a2 c2) (hb : Below w.heap.size w w') : BoxP w' K p a1 c1 a2 c2 := (hb.block K h.lt).trans h
theorem BoxP.fr {B N : Nat} (h : BoxP w K p a1 c1 a2 c2) (hf : Fr B N w w') (hK : K ≠ N) : BoxP w' K p a1 c1 a2 c2 := (hf.block K h.lt hK (Or.inr (ornot h oop_ne8))).trans h
theorem BoxP.k0 (h : BoxP w K p a1 c1 a2 c2) : w.cell? ⟨K, 0, none⟩ = some (.string p.name) := by rw [Lib.cell_of_heap h]; rfl
theorem BoxP.k1 (h : BoxP w K p a1 c1 a2 c2) : w.cell? ⟨K, 1, none⟩ = some (.slice a1 p.params.length c1) := by rw [Lib.cell_of_heap h]; rfl
theorem BoxP.k2 (h : BoxP w K p a1 c1 a2 c2) : w.cell? ⟨K, 2, none⟩ = some (.slice a2 p.body.length c2) := by rw [Lib.cell_of_heap h]; rfl
end
/-- what else a row of strings that grows leaves -/
theorem grown_below {B : Nat} {W w w1 : World} {v : Value} (hb : Below B W w) (hz : B ≤ w.heap.size) (hg : w.grownBy w1 v.ownBlock) (hv : ∀ g, v.ownBlock = some g → B ≤ g) : Below B W w1 :=
  hb.grown hg hz hv
set_option maxHeartbeats 4000000 in
set_option maxRecDepth 100000 in
theorem oproc_any (p : Pr) (wp : WP p) (h6 : p.params.length ≤ 6) (hlen : (txP p).length ≤ 240200) (hok : OkP p) (a1 a2 : Option Addr) (c1 c2 : Nat) (w0 : World) (N : Nat) (l : Str) (w : World) (ht : Tab w0) (hb0 : Below w0.heap.size w0 w) (hW : Wr w w0.heap.size N l 0) (hl : l.length ≤ 900000000000) (hK : PrIn w0 p a1 a2) :
    Calls Tryd.prog 29 #[.pointer (some ⟨N, 0, none⟩), prV p a1 c1 a2 c2] w fun e w' => e = .returned (.tuple #[]) ∧ Wr w' w0.heap.size N (l ++ txP p) 0 ∧ Fr w0.heap.size N w w' := by
  have hbx := below_box w (prO p a1 c1 a2 c2)
  have hBx : BoxP (w.alloc (prO p a1 c1 a2 c2)) w.heap.size p a1 c1 a2 c2 := heap_alloc_new w _
  have hb1 := hb0.trans (hbx.mono hb0.size)
  have hN := hW.1
  have hne : w.heap.size ≠ N := by have := hW.lt; omega
  have HNe := Lib.hid hne
  have HN := Lib.hid hN
  have HB1 := Lib.hid hb1
  have HBx := Lib.hid hBx
  have HW1 := Lib.hid (hW.later hbx)
  have HF1 := Lib.hid (Fr.of (B := w0.heap.size) (N := N) hbx)
  have HKp := Lib.hid hK
  have HTb := Lib.hid ht
  have HPm := Lib.hid (fun (k : Nat) (hk : k < p.params.length) => wp.params p.params[k] (List.getElem_mem hk))
  have HSn := Lib.hid (fun (k : Nat) (hk : k < p.params.length) => parS_snoc hk)
  rw [otxP_parts] at hlen ⊢
  simp only [List.length_append] at hlen
  have hjl : (txPm p.params).length ≤ 1000000 := by unfold hdL at hlen; simp only [List.length_append, List.length_cons] at hlen; omega
  have HJ := Lib.hid (fun (B : Nat) (v : Value) (w' : World) (h : OwnS w' B v (parS p)) => ojoin_any B v (parS p) (by rw [parS_len]; omega) (by rw [join_pars]; omega) w' h)
  rw [join_pars] at HJ
  have HX := Lib.hid (oba_list (txPm p.params))
  have HBk := Lib.hid (fun t w2 hb hW2 hl2 => oblock_any p.body 0 (by decide) hok.bodyLen (fun s hs => by
      obtain ⟨j, hj, rfl⟩ := List.getElem_of_mem hs
      exact ostmt_any 12 _ 1 (by decide) (wp.body _ hs) (hok.body.get j hj)) a2 c2 w0 N t w2 ht hb hW2 hl2 hK.body)
  have HT1 : Hid (ind 0 ++ (joinS [⟨#[112, 114, 111, 99, 32]⟩, p.name, ⟨#[40]⟩, ba (txPm p.params), ⟨#[41, 32, 123]⟩] ++ [10]) = hdL p) := by
    show _ = _
    unfold joinS hdL
    simp [HX.out, kProc, opb, str, ind]
  have HT3 : Hid (ind 0 ++ (joinS [⟨#[125]⟩] ++ [10]) = clL 0) := by
    show _ = _
    unfold joinS clL
    simp
  have HL1 := Lib.hid (show l.length + (hdL p).length ≤ 1000000000000 by omega)
  have HL2 := Lib.hid (show (l ++ hdL p).length + (txB p.body (0 + 1)).length ≤ 1000000000000 by rw [List.length_append, Nat.zero_add]; omega)
  have HL3 := Lib.hid (show (l ++ hdL p ++ txB p.body (0 + 1)).length + (clL 0).length ≤ 1000000000000 by rw [List.length_append, List.length_append, Nat.zero_add]; omega)
  simp only [Nat.zero_add] at HL2 HL3 HBk
  have HNL := Lib.hid (parS_len p)
  generalize hdL p = t1 at HT1 HL1 HL2 HL3 ⊢
  generalize clL 0 = t3 at HT3 HL3 ⊢
  generalize ba (txPm p.params) = T at HJ HX HT1
  generalize txB p.body 1 = t2 at HBk HL2 HL3 ⊢
  unfold prO at HW1 HF1 HB1 HBx
  unfold prV
  clear hbx hBx hb1 ht hK hlen hW hb0 hne hN wp hok hjl
  go_enter Tryd.func29, Tryd.ntmps29
  go_wp2_with fail
  go_loopw [4, 10] (fun v4 s10 wr => ∃ (k : Nat) (pp : Option Addr) (nn qq : Nat), k ≤ p.params.length ∧ s10 = .int .i64 k ∧ v4 = .slice pp nn qq ∧ Hid (OwnS wr (w.alloc (.cells #[.string p.name, .slice a1 p.params.length c1, .slice a2 p.body.length c2] 25)).heap.size (.slice pp nn qq) ((parS p).take k)) ∧ Hid (Below (w.alloc (.cells #[.string p.name, .slice a1 p.params.length c1, .slice a2 p.body.length c2] 25)).heap.size (w.alloc (.cells #[.string p.name, .slice a1 p.params.length c1, .slice a2 p.body.length c2] 25)) wr)) (fun _ s10 _ => p.params.length - (intOf s10).toNat)
  case atStart => exact ⟨0, none, 0, 0, Nat.zero_le _, rfl, rfl, World.ownsRow_nil _ _ _ _, Below.refl _ _⟩
  case round =>
    obtain ⟨k, pp, nn, qq, hk, rfl, rfl, HO, HB⟩ := hrel
    have HZr := Lib.hid HB.out.size
    have HB0 := Lib.hid (HB1.out.trans (HB.out.mono HB1.out.size))
    by_cases hlt : k < p.params.length
    · have hlx := hlt
      obtain ⟨b2, i2, rfl, hcc⟩ := (HKp.out.params.below HB0.out).open hlx
      obtain ⟨f0, f1⟩ := hcc k hlx
      obtain ⟨n1, t1', t3'⟩ := HPm.out k hlx
      have hsn := HSn.out k hlx
      have hzq : p.params[k].name.size ≤ 16 := nam_len n1
      obtain ⟨n, hn⟩ : ∃ n : Nat, p.params[k].ty = (n : Int) := ⟨p.params[k].ty.toNat, by omega⟩
      have hn1 : 1 ≤ n := by omega
      have hn3 : n ≤ 3 := by omega
      have hty := (HTb.out.below HB0.out).tys n hn1 hn3
      have hyz : (ba (tyW (n : Int))).size ≤ 4 := by rw [oba_size]; exact tyW_len _
      have hq : ba (txQ p.params[k]) = p.params[k].name ++ ⟨#[58, 32]⟩ ++ ba (tyW (n : Int)) := by
        symm
        refine oba_eq ?_
        unfold txQ
        rw [hn]
        simp only [append_list, oba_list]
        simp [str]
      rw [hq] at hsn
      rw [hn] at f1
      have HSk := Lib.hid hsn
      have hxl : ((parS p).take k).length ≤ 1000 := by rw [List.length_take, HNL.out]; omega
      have HTy := Lib.hid (fun w' (hb : Below w0.heap.size w0 w') => (HTb.out.below hb).tys n hn1 hn3)
      generalize ba (tyW (n : Int)) = Y at hty hyz HSk HTy
      generalize p.params[k].name = nm at f0 hzq HSk
      have hbq := below_2 (below_box wr (.cells #[.string nm, .int .i64 (n : Int)] 59)) (L.below_drew _)
      have hnr : some wr.heap.size ≠ (Value.slice pp nn qq).ownBlock := fun e => by
        have := (World.ownsRow.lt HO.out wr.heap.size e.symm).2
        omega
      have HNr := Lib.hid hnr
      have q0 : (wr.alloc (.cells #[.string nm, .int .i64 (n : Int)] 59)).drew.cell? ⟨wr.heap.size, 0, none⟩ = some (.string nm) := by go_simp
      have q1 : (wr.alloc (.cells #[.string nm, .int .i64 (n : Int)] 59)).drew.cell? ⟨wr.heap.size, 1, none⟩ = some (.int .i64 (n : Int)) := by go_simp
      have q2 := HTy.out _ (HB0.out.trans (hbq.mono HB0.out.size))
      have hbz := below_2 (below_2 (below_box wr (.cells #[.string nm, .int .i64 (n : Int)] 59)) ((below_box _ (.cells #[.string (nm ++ ⟨#[58, 32]⟩ ++ Y)] 9)).mono (by simp))) (L.below_drew _)
      have q3 := HTy.out _ (HB0.out.trans (hbz.mono HB0.out.size))
      have HOd := Lib.hid (HO.out.below hbz)
      have HBd := Lib.hid (HB.out.trans (hbz.mono HZr.out))
      have z0 : ((wr.alloc (.cells #[.string nm, .int .i64 (n : Int)] 59)).alloc (.cells #[.string (nm ++ ⟨#[58, 32]⟩ ++ Y)] 9)).drew.cell? ⟨wr.heap.size, 0, none⟩ = some (.string nm) := by go_simp
      have z1 : ((wr.alloc (.cells #[.string nm, .int .i64 (n : Int)] 59)).alloc (.cells #[.string (nm ++ ⟨#[58, 32]⟩ ++ Y)] 9)).drew.cell? ⟨wr.heap.size, 1, none⟩ = some (.int .i64 (n : Int)) := by go_simp
      have z4 : ((wr.alloc (.cells #[.string nm, .int .i64 (n : Int)] 59)).alloc (.cells #[.string (nm ++ ⟨#[58, 32]⟩ ++ Y)] 9)).drew.cell? ⟨wr.heap.size + 1, 0, none⟩ = some (.string (nm ++ ⟨#[58, 32]⟩ ++ Y)) := by go_simp
      have HZ0 := Lib.hid z0
      have HZ1 := Lib.hid z1
      have HZ4 := Lib.hid z4
      have hI0 : (0 : Int) ≤ (n : Int) := by omega
      have hs1 : ¬ (9223372036854775807 < nm.size + 2) := by omega
      have hs2 : ¬ (9223372036854775807 < nm.size + 2 + Y.size) := by omega
      have hI3 : (n : Int) ≤ 3 := by omega
      have hI4 : (n : Int) < 4 := by omega
      have HZq := Lib.hid hbz.size
      clear hcc n1 t1' t3' hsn hn hq hbq hbz hnr hty
      go_wp2_with fail
      go_region_held3 (fun w' => w'.cell? ⟨wr.heap.size, 0, none⟩ = some (.string nm) ∧ w'.cell? ⟨wr.heap.size, 1, none⟩ = some (.int .i64 (n : Int)) ∧ w'.cell? ⟨1, n, none⟩ = some (.string Y)) (first | exact ⟨q0, q1, q2⟩ | exact ⟨z0, z1, q3⟩ | exact ⟨r0, r1, r2⟩ | go_keep | (refine ⟨?_, ?_, ?_⟩ <;> go_simp))
        (first
          | (refine step_append_str rfl (.tmp 14) (.tmp 23) rfl _ _ _ rfl (nm ++ ⟨#[58, 32]⟩ ++ Y) HOd.out _ rfl HZ4.out hxl (Nat.le_trans HZr.out HZq.out) ?_; intro p4 n4 q4 w4 hown4 hgrow4; have HO4 := Lib.hid hown4; have HB4 := Lib.hid (grown_below HBd.out (Nat.le_trans HZr.out HZq.out) hgrow4 HOd.out.ge); have r0 := hgrow4.cell HZ0.out HNr.out; have r1 := hgrow4.cell HZ1.out HNr.out; have r2 := HTy.out _ (HB1.out.trans (HB4.out.mono HB1.out.size)); clear hown4 hgrow4))
      go_wp2_with fail
      go_roundw
      case rel => exact ⟨k + 1, p4, n4, q4, by omega, by go_num, rfl, (by rw [HSk.out]; exact HO4.out), HB4.out⟩
      case measure => simp only [intOf]; omega
    · obtain rfl : k = p.params.length := Nat.le_antisymm hk (Nat.le_of_not_lt hlt)
      have hts : (parS p).take p.params.length = parS p := List.take_of_length_le (Nat.le_of_eq HNL.out)
      rw [hts] at HO
      have hbd := L.below_drew wr
      have HBr := Lib.hid (HB.out.trans (hbd.mono HZr.out))
      have HJd := Lib.hid (HJ.out _ _ _ (HO.out.below hbd))
      have HBxr := Lib.hid (HBx.out.below HBr.out)
      have x0 := HBxr.out.k0
      clear hts hbd hlt
      go_wp2_with fail
      go_region_held3 (fun w' => w'.cell? ⟨w.heap.size, 0, none⟩ = some (.string p.name)) (first | exact HBxr.out.k0 | exact HBy.out.k0 | exact HBj.out.k0 | exact (HAl.out _) | go_keep | go_simp)
        (first
          | (go_at_call 48; refine HJd.out.mono ?_; rintro e w2 ⟨rfl, hb2⟩; have HB2 := Lib.hid (HBr.out.trans (hb2.mono HBr.out.size)); have HBy := Lib.hid (HBxr.out.below hb2); have HAl := Lib.hid (fun o => (HBy.out.below (below_box w2 o)).k0); have HC := Lib.hid (oline_to [⟨#[112, 114, 111, 99, 32]⟩, p.name, ⟨#[40]⟩, T, ⟨#[41, 32, 123]⟩] t1 5 (by omega) (by simp) (Nat.le_trans HB1.out.size HB2.out.size) (HW1.out.later HB2.out) HT1.out HL1.out); clear hb2)
          | (go_at_call 28; refine HC.out.mono ?_; rintro e w4 ⟨rfl, hW4, hF4⟩; have HW4 := Lib.hid hW4; have HF4 := Lib.hid ((HF1.out.trans (Fr.of HB2.out)).trans hF4); have HBj := Lib.hid (HBy.out.fr hF4 HNe.out); have HBw4 := Lib.hid (Fr.world (B := 0) (HB1.out.trans (HB2.out.mono HB1.out.size)) hF4 HN.out); clear hW4 hF4))
      have k2 := HBj.out.k2
      go_wp2_with fail
      refine (HBk.out _ w4 HBw4.out HW4.out HL2.out).mono ?_; rintro e w5 ⟨rfl, hW5, hF5⟩
      have HF5 := Lib.hid (HF4.out.trans hF5)
      have HBw5 := Lib.hid (Fr.world (B := 0) HBw4.out hF5 HN.out)
      have HC5 := Lib.hid (oline_to [⟨#[125]⟩] t3 1 (by omega) (by simp) HBw5.out.size hW5 HT3.out HL3.out)
      clear hW5 hF5 k2
      go_wp2_with fail
      refine HC5.out.mono ?_; rintro e w6 ⟨rfl, hW6, hF6⟩
      have HW6 := Lib.hid hW6
      have HF6 := Lib.hid (HF5.out.trans hF6)
      clear hW6 hF6
      go_wp2_with fail
      go_end0
      exact ⟨rfl, (by simp only [List.append_assoc] at HW6; exact HW6.out), HF6.out⟩
end Go.Proofs.YtbmdadhbkdkgmaaDoor.P
namespace Go.Proofs.YtbmdadhbkdkgmaaDoor.P
open Go.RowKit
open L (Str isName prt size_len below_2 below_box ret_bool ret_int ret_string bytes_eq append_list Own8)
open A

theorem BoxP.new (w : World) (p : Pr) (a1 : Option Addr) (c1 : Nat) (a2 : Option Addr) (c2 : Nat) : BoxP (w.alloc (.cells #[.string p.name, .slice a1 p.params.length c1, .slice a2 p.body.length c2] 25)) w.heap.size p a1 c1 a2 c2 := heap_alloc_new w _
/-- the line between two procedures -/
theorem oline_none {B N : Nat} {l : Str} (hl : l.length ≤ 900000000000) (w : World) (hB : B ≤ w.heap.size) (hW : Wr w B N l 0) :
    Calls Tryd.prog 28 #[.pointer (some ⟨N, 0, none⟩), .slice none 0 0] w fun e w' => e = .returned (.tuple #[]) ∧ Wr w' B N (l ++ [10]) 0 ∧ Fr B N w w' :=
  oline_any B N l 0 none 0 [] (by decide) (by decide) (by show l.length + 0 ≤ _; omega) w hB hW (Or.inl rfl)
theorem otx_snoc {l : List Pr} {k : Nat} (h : k < l.length) : txL (l.take (k + 1)) = (if k = 0 then [] else txL (l.take k) ++ [10]) ++ txP l[k] := by
  rw [List.take_succ_eq_append_getElem h, txL_snoc, List.length_take]
  by_cases h0 : k = 0
  · rw [if_pos (by omega), if_pos h0]; rfl
  · rw [if_neg (by omega), if_neg h0]; simp
set_option maxHeartbeats 4000000 in
set_option maxRecDepth 100000 in
theorem oprogram_any (l : List Pr) (a : Option Addr) (c : Nat) (hok : OkL l) (w : World) (ht : Tab w) (hK : Prs w a l) :
    Calls Tryd.prog 14 #[.slice a l.length c] w fun e' w' => e' = .returned (.string (ba (progT l))) ∧ Below w.heap.size w w' := by
  have HK := Lib.hid hK
  have HO := Lib.hid hok.each
  have HTb := Lib.hid ht
  have HTl := Lib.hid (fun (k : Nat) (hk : ∀ p ∈ l.take k, valE p = 0) => txL_len (l := l.take k) ⟨by rw [List.length_take]; have := hok.len; omega, fun j hj => by
    rw [List.getElem_take]
    exact hok.each j (by rw [List.length_take] at hj; omega)⟩ hk (l.take k).length)
  have hlen := hok.len
  obtain ⟨m, hm⟩ : ∃ m, l.length = m := ⟨_, rfl⟩
  have HL := Lib.hid hm
  rw [hm] at hlen ⊢
  have hW0 : Hid (Wr (w.alloc (.cells #[.slice none 0 0, .int .i64 0] 67)) w.heap.size w.heap.size [] 0) := ⟨Nat.le_refl _, _, heap_alloc_new w _, World.ownsRow_nil _ _ _ _⟩
  have HB0 := Lib.hid (below_box w (.cells #[.slice none 0 0, .int .i64 0] 67))
  clear hm hK hok ht
  go_enter Tryd.func14, Tryd.ntmps14
  go_wp2_with fail
  go_loopw [8] (fun i wr => ∃ k : Nat, k ≤ m ∧ i = .int .i64 k ∧ Hid (Wr wr w.heap.size w.heap.size (txL (l.take k)) 0) ∧ Hid (∀ p ∈ l.take k, valE p = 0) ∧ Hid (Below w.heap.size w wr)) (fun i _ => m - (intOf i).toNat)
  case atStart => exact ⟨0, Nat.zero_le _, rfl, hW0.out, (fun p hp => by rw [List.take_zero] at hp; cases hp), HB0.out⟩
  case round =>
    obtain ⟨k, hk, rfl, HW, HG, HB⟩ := hrel
    by_cases hlt : k < m
    · have hlx : k < l.length := by rw [HL.out]; exact hlt
      obtain ⟨b2, i2, rfl, hat⟩ := HK.out.open hlx
      obtain ⟨p1, q1, p2, q2, d0, d1, d2, hq1, hin⟩ := hat
      have hbl := block_lt_of_cell d0
      have e0 := (HB.out.cell hbl).trans d0
      have e1 := (HB.out.cell (by exact hbl)).trans d1
      have e2 := (HB.out.cell (by exact hbl)).trans d2
      have hop := HO.out k hlx
      have HC := Lib.hid (fun w2 hb => ovalidate_any l[k] p1 p2 q1 q2 hop hq1 w2 (hin.below hb))
      have hlW := HW.out.lt
      by_cases hv : valE l[k] = 0
      · have wp := wp_here hop hv
        have h6 := six_of hv
        have htl := txP_lenN hv wp
        have HG2 : Hid (∀ p ∈ l.take (k + 1), valE p = 0) := by
          intro p hp
          rw [List.take_succ_eq_append_getElem hlx, List.mem_append] at hp
          rcases hp with hp | hp
          · exact HG.out p hp
          · rw [List.mem_singleton] at hp; rw [hp]; exact hv
        have hl0 : (txL (l.take k)).length ≤ 260000000000 := by have := HTl.out k HG.out; rw [List.take_length] at this; exact this
        have HP := Lib.hid (fun t w2 hb hW2 hl2 => oproc_any l[k] wp h6 (by omega) hop p1 p2 q1 q2 w w.heap.size t w2 HTb.out hb hW2 hl2 hin)
        rw [hv] at HC
        have HSn := Lib.hid (otx_snoc hlx)
        have HBb := Lib.hid (below_box wr (.cells #[.string l[k].name, .slice p1 l[k].params.length q1, .slice p2 l[k].body.length q2] 25))
        have HBx := Lib.hid (BoxP.new wr l[k] p1 q1 p2 q2)
        have HWb := Lib.hid (HW.out.later HBb.out)
        have HBw := Lib.hid (HB.out.trans (HBb.out.mono HB.out.size))
        have HCb := Lib.hid (HC.out _ HBw.out)
        have hne : wr.heap.size ≠ w.heap.size := by omega
        have HNe := Lib.hid hne
        unfold prV at HCb HP
        generalize l[k] = p at e0 e1 e2 HCb HP HSn HBb HBx HWb HBw
        clear hbl d0 d1 d2 hop hin hv hlW wp h6 htl HC hne
        by_cases hk0 : k = 0
        · have bk : decide (0 < k) = false := decide_eq_false (by omega)
          have HZ := Lib.hid hk0
          clear hk0
          go_wp2_with fail
          refine HCb.out.mono ?_; rintro e w2 ⟨rfl, hb2⟩
          have HWx := Lib.hid (HWb.out.later hb2)
          have HBq := Lib.hid (HBx.out.below hb2)
          have HBv := Lib.hid (HBw.out.trans (hb2.mono HBw.out.size))
          have y0 := HBq.out.k0
          have y1 := HBq.out.k1
          have y2 := HBq.out.k2
          clear hb2 e0 e1 e2
          go_wp2_with fail
          refine (HP.out _ w2 HBv.out HWx.out (by omega)).mono ?_; rintro e w4 ⟨rfl, hW4, hF4⟩
          have HW4 := Lib.hid hW4
          have HB4 := Lib.hid (HBv.out.trans (hF4.below (Nat.le_refl _) HBv.out.size))
          clear hW4 hF4 y0 y1 y2
          go_wp2_with fail
          go_roundw
          case rel => exact ⟨k + 1, by omega, by go_num, (by rw [HSn.out, if_pos HZ.out]; have := HW4.out; rw [HZ.out] at this; exact this), HG2, HB4.out⟩
          case measure => simp only [intOf]; omega
        · have bk : decide (0 < k) = true := decide_eq_true (by omega)
          have HZ := Lib.hid hk0
          clear hk0
          go_wp2_with fail
          refine HCb.out.mono ?_; rintro e w2 ⟨rfl, hb2⟩
          have HWx := Lib.hid (HWb.out.later hb2)
          have HBq := Lib.hid (HBx.out.below hb2)
          have HBv := Lib.hid (HBw.out.trans (hb2.mono HBw.out.size))
          clear hb2 e0 e1 e2
          go_wp2_with fail
          refine (oline_none (by omega) w2 HBv.out.size HWx.out).mono ?_; rintro e w3 ⟨rfl, hW3, hF3⟩
          have HW3 := Lib.hid hW3
          have HB3 := Lib.hid (HBv.out.trans (hF3.below (Nat.le_refl _) HBv.out.size))
          have HBr := Lib.hid (HBq.out.fr hF3 HNe.out)
          have y0 := HBr.out.k0
          have y1 := HBr.out.k1
          have y2 := HBr.out.k2
          clear hW3 hF3
          go_wp2_with fail
          refine (HP.out _ w3 HB3.out HW3.out (by rw [List.length_append]; simp only [List.length_cons, List.length_nil]; omega)).mono ?_; rintro e w4 ⟨rfl, hW4, hF4⟩
          have HW4 := Lib.hid hW4
          have HB4 := Lib.hid (HB3.out.trans (hF4.below (Nat.le_refl _) HB3.out.size))
          clear hW4 hF4 y0 y1 y2
          go_wp2_with fail
          go_roundw
          case rel => exact ⟨k + 1, by omega, by go_num, (by rw [HSn.out, if_neg HZ.out]; exact HW4.out), HG2, HB4.out⟩
          case measure => simp only [intOf]; omega
      · have HV : Hid (progT l = []) := progT_bad (List.getElem_mem hlx) hv
        have HBb := Lib.hid (below_box wr (.cells #[.string l[k].name, .slice p1 l[k].params.length q1, .slice p2 l[k].body.length q2] 25))
        have HBw := Lib.hid (HB.out.trans (HBb.out.mono HB.out.size))
        have HCb := Lib.hid (HC.out _ HBw.out)
        have bv : decide (valE l[k] = 0) = false := decide_eq_false hv
        unfold prV at HCb
        generalize l[k] = p at e0 e1 e2 HCb HBb HBw hv bv
        clear hbl d0 d1 d2 hop hin hlW HC
        go_wp2_with fail
        refine HCb.out.mono ?_; rintro e w2 ⟨rfl, hb2⟩
        have HBv := Lib.hid (HBw.out.trans (hb2.mono HBw.out.size))
        clear hb2 e0 e1 e2
        go_wp2_with fail
        go_ret
        exact ⟨ret_string (by rw [HV.out]; rfl), HBv.out⟩
    · have hall : l.take k = l := List.take_of_length_le (by rw [HL.out]; omega)
      obtain ⟨v, hN, hO, c0, c1, _, _⟩ := HW.out.open
      have cv := hO.back
      have HV : Hid ((⟨(txL (l.take k)).toArray⟩ : ByteArray) = ba (progT l)) := by
        show _ = _
        rw [hall, progT_good (fun p hp => HG.out p (by rw [hall]; exact hp))]
        rfl
      clear hall hN hO c1
      go_wp2_with fail
      go_ret
      exact ⟨ret_string HV.out, HB.out⟩
end Go.Proofs.YtbmdadhbkdkgmaaDoor.P
namespace Go.Proofs.YtbmdadhbkdkgmaaDoor.P
open Go.RowKit
open L (Str isName prt size_len below_2 below_box ret_bool ret_int ret_string bytes_eq append_list Own8)
open A

theorem progT_one (p : Pr) : progT [p] = procT p := by
  unfold progT procT
  by_cases h : valE p = 0
  · rw [if_pos h, if_pos (by simp [h])]; simp [txL, txLs]
  · rw [if_neg h, if_neg (by simp [h])]
theorem okL_one {p : Pr} (h : OkP p) : OkL [p] := ⟨by show 1 ≤ _; decide, fun j hj => by
  have : j = 0 := by simp only [List.length_cons, List.length_nil] at hj; omega
  subst this; exact h⟩
theorem prs_one {w : World} {p : Pr} {a1 a2 : Option Addr} {c1 c2 : Nat} (hc1 : p.params.length ≤ c1) (hK : PrIn w p a1 a2) : Prs (w.alloc (.cells #[.string p.name, .slice a1 p.params.length c1, .slice a2 p.body.length c2] 25)) (some ⟨w.heap.size, 0, none⟩) [p] := by
  have hb := below_box w (.cells #[.string p.name, .slice a1 p.params.length c1, .slice a2 p.body.length c2] 25)
  have hn := BoxP.new w p a1 c1 a2 c2
  refine Or.inr ⟨_, 0, rfl, fun j hj => ?_⟩
  have : j = 0 := by simp only [List.length_cons, List.length_nil] at hj; omega
  subst this
  exact ⟨a1, c1, a2, c2, hn.k0, hn.k1, hn.k2, hc1, hK.below hb⟩
set_option maxHeartbeats 2000000 in
set_option maxRecDepth 100000 in
theorem oproct_any (p : Pr) (hok : OkP p) (a1 a2 : Option Addr) (c1 c2 : Nat) (hc1 : p.params.length ≤ c1) (w : World) (ht : Tab w) (hK : PrIn w p a1 a2) :
    Calls Tryd.prog 8 #[prV p a1 c1 a2 c2] w fun e' w' => e' = .returned (.string (ba (procT p))) ∧ Below w.heap.size w w' := by
  have hb := below_box w (.cells #[.string p.name, .slice a1 p.params.length c1, .slice a2 p.body.length c2] 25)
  have hb2 := below_2 hb (below_box _ (.cells #[.string p.name, .slice a1 p.params.length c1, .slice a2 p.body.length c2] 25))
  have HC := Lib.hid (oprogram_any [p] _ 1 (okL_one hok) _ (ht.below hb2) (prs_one (c2 := c2) hc1 (hK.below hb)))
  have HB := Lib.hid hb2
  have e1 : (w.alloc (.cells #[.string p.name, .slice a1 p.params.length c1, .slice a2 p.body.length c2] 25)).heap.size = w.heap.size + 1 := by simp
  rw [progT_one, e1] at HC
  simp only [List.length_cons, List.length_nil, Nat.zero_add] at HC
  unfold prV
  clear hb hb2 hK ht hok e1
  go_enter Tryd.func8, Tryd.ntmps8
  go_wp2_with fail
  refine HC.out.mono ?_; rintro e w2 ⟨rfl, hb3⟩
  have HB3 := Lib.hid (below_2 HB.out hb3)
  clear hb3
  go_wp2_with fail
  go_ret
  exact ⟨rfl, HB3.out⟩
end Go.Proofs.YtbmdadhbkdkgmaaDoor.P
