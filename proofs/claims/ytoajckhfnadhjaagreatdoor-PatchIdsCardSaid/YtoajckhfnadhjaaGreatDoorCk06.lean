/- Numerals of ids, plainly: what Atoi makes of them; a text parted at its first number sign. What the library's Itoa and Atoi read of the world: the powers of ten, two errors. Beside 'Below', draws that only grow: what the library's sort asks of a comparison. Package ident's Text, Parse: strconv.Itoa, strings.Cut at a number sign, strconv.Atoi. Package ident's Parse: strings.Cut at a number sign, strconv.Atoi. Package op: a reader's calls in whatever state it is; idOf, partsOf. -/
import Derived.Lib.AtoiAllCases
import Derived.Lib.ItoaMem
import Derived.Lib.SmallJoins
import Derived.Lib.LaidTab
import Derived.Lib.QuietBelow
import Derived.Test.YtoajckhfnadhjaaGreatDoorShelf
import Derived.Deep.RegionHeld3
import Derived.Deep.CutRange
import Derived.Lib.AppendIntMem
import Derived.Test.YtoajckhfnadhjaaGreatDoorCk05
namespace Go.Proofs.YtoajckhfnadhjaaGreatDoor
open Go.RowKit
set_option linter.unusedVariables false

theorem dec_digits (n : Nat) : Lib.decDigits n = digits n := by
  induction n using Nat.strongRecOn with
  | _ n ih =>
    rw [Lib.decDigits]
    by_cases h : n < 10
    · rw [dif_pos h, digits_lt h, UInt8.ofNat_add]
      rfl
    · rw [dif_neg h, digits_ge h, ih (n / 10) (by omega), UInt8.ofNat_add]
      rfl
theorem pu_app : ∀ (l r : List UInt8) (acc a : Nat), Lib.parseUint10 acc l = .ok a → Lib.parseUint10 acc (l ++ r) = Lib.parseUint10 a r
  | [], r, acc, a, h => by
    simp only [Lib.parseUint10] at h
    injection h with h
    subst h
    rfl
  | c :: l, r, acc, a, h => by
    simp only [Lib.parseUint10, List.cons_append] at h ⊢
    split at h
    · rename_i h1
      rw [if_pos h1]
      split at h
      · cases h
      · rename_i h2
        rw [if_neg h2]
        split at h
        · cases h
        · rename_i h3
          rw [if_neg h3]
          exact pu_app l r _ a h
    · cases h
theorem pu_one (acc d : Nat) (hd : d < 10) (ha : acc * 10 + d < 1000000000) : Lib.parseUint10 acc [48 + UInt8.ofNat d] = .ok (acc * 10 + d) := by
  simp only [Lib.parseUint10]
  rw [digit_val d hd, if_pos (by omega), if_neg (by omega), if_neg (by omega)]
  congr 1
  omega
theorem pu_digits (n : Nat) (h : n < 1000000000) : Lib.parseUint10 0 (digits n) = .ok n := by
  induction n using Nat.strongRecOn with
  | _ n ih =>
    by_cases h0 : n < 10
    · rw [digits_lt h0, pu_one 0 n h0 (by omega)]
      congr 1
      omega
    · rw [digits_ge h0, pu_app _ _ _ _ (ih (n / 10) (by omega) (by omega)), pu_one _ _ (Nat.mod_lt _ (by omega)) (by omega)]
      congr 1
      omega
theorem atoi_digits (n : Nat) (h : n < 1000000000) : Lib.atoiAll (digits n) = .ok (n : Int) := by
  have hp := pu_digits n h
  have hin := digits_in n
  cases hd : digits n with
  | nil => exact absurd hd (digits_ne n)
  | cons c r =>
    rw [hd] at hp hin
    have hc := hin c (by simp)
    rw [Lib.atoiAll_plain c r (by omega) (by omega)]
    unfold Lib.parseMag
    rw [if_neg (by simp), hp]
    show (if 9223372036854775808 ≤ n then Lib.NumEnd.range else Lib.NumEnd.ok (n : Int)) = _
    rw [if_neg (by omega)]
/-- A text parted at its first number sign. -/
def CutIs (s p d : List UInt8) : Prop := (p = s ∧ d = [] ∧ (35 : UInt8) ∉ s) ∨ (s = p ++ 35 :: d ∧ (35 : UInt8) ∉ p)
theorem cut_first {p q ds es : List UInt8} (hp : (35 : UInt8) ∉ p) (hq : (35 : UInt8) ∉ q) (h : p ++ 35 :: ds = q ++ 35 :: es) : p = q ∧ ds = es := by
  rcases List.append_eq_append_iff.1 h with ⟨a, e1, e2⟩ | ⟨a, e1, e2⟩
  · cases a with
    | nil =>
      simp only [List.append_nil] at e1
      simp only [List.nil_append, List.cons.injEq, true_and] at e2
      exact ⟨e1.symm, e2⟩
    | cons b a =>
      simp only [List.cons_append, List.cons.injEq] at e2
      exact absurd (by rw [e1, ← e2.1]; simp) hq
  · cases a with
    | nil =>
      simp only [List.append_nil] at e1
      simp only [List.nil_append, List.cons.injEq, true_and] at e2
      exact ⟨e1, e2.symm⟩
    | cons b a =>
      simp only [List.cons_append, List.cons.injEq] at e2
      exact absurd (by rw [e1, ← e2.1]; simp) hp
theorem ok_sign {k : Ik} (h : okK k = true) : (35 : UInt8) ∉ k.1 := by
  unfold okK okI at h
  split at h
  · rename_i e
    rw [e]
    simp
  · have h1 := (Bool.and_eq_true_iff.1 h).1
    unfold rightB at h1
    have h2 := (Bool.and_eq_true_iff.1 h1).2
    unfold allIn at h2
    rw [List.all_eq_true] at h2
    intro hm
    have h3 := h2 35 (by rw [of_toB]; exact hm)
    revert h3
    decide
theorem cut_text {s p d : List UInt8} (hc : CutIs s p d) {k : Ik} (hk : okK k = true) (hs : textK k = s) : p = k.1 ∧ Lib.atoiAll d = .ok k.2 := by
  rw [textK_ok hk] at hs
  have hn := okK_n hk
  rcases hc with ⟨_, _, h⟩ | ⟨h, hp⟩
  · exact absurd (by rw [← hs]; simp) h
  · obtain ⟨e1, e2⟩ := cut_first (ok_sign hk) hp (hs.trans h)
    refine ⟨e1.symm, ?_⟩
    rw [← e2, atoi_digits _ (by omega)]
    congr 1
    omega
theorem cut_nil {p d : List UInt8} (hc : CutIs [] p d) : d = [] := by
  rcases hc with ⟨_, h, _⟩ | ⟨h, _⟩
  · exact h
  · simp at h
theorem parse_ok {s p d : List UInt8} (hc : CutIs s p d) {v : Int} (hv : Lib.atoiAll d = .ok v) (ht : textK (p, v) = s) : ParseK s (p, v) 0 := by
  refine .inl ⟨rfl, ?_, ht⟩
  cases h : okK (p, v)
  · exfalso
    rw [textK_no h] at ht
    subst ht
    rw [cut_nil hc] at hv
    cases hv
  · rfl
theorem parse_no {s p d : List UInt8} (hc : CutIs s p d) (h : ∀ v, Lib.atoiAll d = .ok v → textK (p, v) ≠ s) : ParseK s ([], 0) 6 := by
  refine .inr ⟨rfl, rfl, fun k hk ht => ?_⟩
  obtain ⟨e1, e2⟩ := cut_text hc hk ht
  refine h k.2 e2 ?_
  rw [e1]
  exact ht
end Go.Proofs.YtoajckhfnadhjaaGreatDoor
namespace Go.Proofs.YtoajckhfnadhjaaGreatDoor
open Go.RowKit
set_option linter.unusedVariables false

/-- A value that an error variable may hold. -/
def ErrV (w : World) (g : Nat) : Prop := ∃ ev, w.cell? ⟨g, 0, none⟩ = some ev ∧ (ev = .nilIface ∨ ∃ te pe, ev = .iface te pe)
structure Nums (w : World) : Prop where
  tab : Lib.TabIs Tryz.prog w "internal/strconv.uint64pow10" .u64 Lib.pow10Tab
  syn : ErrV w 4
  rng : ErrV w 5
theorem ErrV.on {w w' : World} {g : Nat} (h : ErrV w g) (hb : Below w.heap.size w w') : ErrV w' g := by
  obtain ⟨ev, h1, h2⟩ := h
  exact ⟨ev, (hb.cell (p := ⟨g, 0, none⟩) (World.block_lt_of_cell? _ _ h1)).trans h1, h2⟩
theorem Nums.on {w w' : World} (h : Nums w) (hb : Below w.heap.size w w') : Nums w' :=
  ⟨Joins.tab_stays (g := 1) (by kernel_rfl) h.tab hb (Nat.le_refl _), h.syn.on hb, h.rng.on hb⟩
end Go.Proofs.YtoajckhfnadhjaaGreatDoor
namespace Go.Proofs.YtoajckhfnadhjaaGreatDoor
open Go.RowKit
set_option linter.unusedVariables false

/-- Of what was there nothing has turned; the tape was asked on. -/
structure Bd (w w' : World) : Prop where
  b : Below w.heap.size w w'
  d : w.drawn ≤ w'.drawn
section
variable {w w' w2 : World}
theorem Bd.refl (w : World) : Bd w w := ⟨Below.refl _ _, Nat.le_refl _⟩
theorem Bd.trans (h : Bd w w') (k : Bd w' w2) : Bd w w2 := ⟨h.b.trans (k.b.mono h.b.size), Nat.le_trans h.d k.d⟩
theorem Bd.alloc (h : Bd w w') (o : Obj) : Bd w (w'.alloc o) := ⟨h.b.alloc h.b.size o, by simpa using h.d⟩
theorem Bd.drew (h : Bd w w') : Bd w w'.drew := ⟨h.b.drew, Nat.le_succ_of_le h.d⟩
theorem Bd.drewN (h : Bd w w') (n : Nat) : Bd w (w'.drewN n) := ⟨below_drewN h.b n, Nat.le_trans h.d (Nat.le_add_right _ _)⟩
theorem Bd.size (h : Bd w w') : w.heap.size ≤ w'.heap.size := h.b.size
theorem Bd.grow (h : Bd w w') : ∃ q os, w' = Sort.grow (w.drewN q) os := by
  obtain ⟨p, rfl⟩ := regrown_of_below h.b
  have hd : w.drawn ≤ p.d := h.d
  refine ⟨p.d - w.drawn, p.os, ?_⟩
  have e : redrawn w p.d = w.drewN (p.d - w.drawn) := by
    unfold redrawn World.drewN
    congr 1
    omega
  rw [e]
end
end Go.Proofs.YtoajckhfnadhjaaGreatDoor
namespace Go.Proofs.YtoajckhfnadhjaaGreatDoor
open Go.RowKit
set_option linter.unusedVariables false

theorem itoa_any (m : Nat) (w : World) (hT : Nums w) (hm : m ≤ 1048576) : Calls Tryz.prog 113 #[.int .i64 (m : Int)] w fun e w' => e = .returned (.string (toB (digits m))) ∧ Below w.heap.size w w' := by
  have h := Tryz.strconv_Itoa (m : Int) (by omega) (by omega) w hT.tab
  rw [Lib.itoa_nonneg, dec_digits] at h
  refine h.mono ?_
  rintro e w' ⟨rfl, k, os, rfl⟩
  exact ⟨rfl, Lib.below_grow _ w (Nat.le_refl _) k os⟩
set_option maxHeartbeats 4000000 in
set_option maxRecDepth 100000 in
theorem idtext_any (x : Im) (w : World) (hT : Nums w) (ox : x.p.size ≤ 1000000) :
    Calls Tryz.prog 85 #[x.val] w fun e w' => e = .returned (.string (toB (textK x.key))) ∧ Below w.heap.size w w' := by
  obtain ⟨hb, hx⟩ := id_box w x
  have HB := Lib.hid hb
  have HX := Lib.hid hx
  have HT := Lib.hid (hT.on hb)
  have CR := Lib.hid (idright_any x (w.alloc (.cells #[.string x.p, .int .i64 x.n] 40)) (by omega))
  clear hb hx hT
  cases hk : okK x.key
  · rw [hk] at CR
    rw [textK_no hk]
    unfold Im.val at CR ⊢
    have c0 := id_c0 HX.out
    have c1 := id_c1 HX.out
    go_enter Tryz.func85, Tryz.ntmps85
    go_wp2_with fail
    refine CR.out.mono ?_
    rintro e w1 ⟨rfl, hb⟩
    have HF := Lib.hid (HB.out.trans (hb.mono HB.out.size))
    clear hb CR c0 c1
    go_wp2
    go_ret
    exact ⟨rfl, HF.out⟩
  · rw [hk] at CR
    have hn := okK_n hk
    obtain ⟨m, hm⟩ : ∃ m : Nat, x.n = (m : Int) := ⟨x.n.toNat, by have h : x.n = x.key.2 := rfl; omega⟩
    have hm2 : m ≤ 1048576 := by
      have h : x.key.2 = (m : Int) := hm
      omega
    have hv : Hid (x.p ++ ⟨#[35]⟩ ++ toB (digits m) = toB (textK x.key)) := by
      show _ = _
      rw [textK_ok hk]
      apply bytes_inj
      have e : x.key.2.toNat = m := by show x.n.toNat = m; omega
      rw [e, of_toB]
      simp [Im.key, toB]
    rw [← hv.out]
    have hs0 : (⟨#[35]⟩ : ByteArray).size = 1 := rfl
    have z0 := digits_len m
    have z1 : ¬ 9223372036854775807 < x.p.size + 1 := by omega
    have z2 : ¬ 9223372036854775807 < x.p.size + 1 + (toB (digits m)).size := by rw [toB_size]; omega
    have z3 : ¬ 9223372036854775807 < (x.p ++ ⟨#[35]⟩).size + (toB (digits m)).size := by rw [toB_size, ByteArray.size_append, hs0]; omega
    have CI := Lib.hid (fun W (h : Below w.heap.size w W) (hT : Nums W) => itoa_any m W hT hm2)
    clear hv hk hn hm2
    obtain ⟨p, n⟩ := x
    simp only at *
    subst hm
    unfold Im.val at CR ⊢
    simp only at CR ⊢
    have c0 := id_c0 HX.out
    have c1 := id_c1 HX.out
    go_enter Tryz.func85, Tryz.ntmps85
    go_wp2_with fail
    generalize (w.alloc (.cells #[.string p, .int .i64 (m : Int)] 40)) = wb at *
    refine CR.out.mono ?_
    rintro e w1 ⟨rfl, hb⟩
    have HF := Lib.hid (HB.out.trans (hb.mono HB.out.size))
    have hx1 := HX.out.on hb
    have d0 := id_c0 hx1
    have d1 := id_c1 hx1
    have HT1 := Lib.hid (HT.out.on hb)
    have C2 : Hid (Calls Tryz.prog 113 #[.int .i64 (m : Int)] w1.drew fun e w' => e = .returned (.string (toB (digits m))) ∧ Below w1.drew.heap.size w1.drew w') := CI.out _ HF.out.drew (HT1.out.on (Below.refl _ _).drew)
    clear hb CR c0 c1 hx1 CI hs0
    -- @P1
    go_wp2_with fail
    go_region_held3 (fun w' => w'.cell? ⟨w.heap.size, 0, none⟩ = some (.string p) ∧ w'.cell? ⟨w.heap.size, 1, none⟩ = some (.int .i64 (m : Int))) (first | exact ⟨d0, d1⟩ | exact ⟨cell_on2 d0 hb7, cell_on2 d1 hb7⟩ | (go_keep; done)) (first | (go_at_call 113; refine C2.out.mono ?_; rintro e w7 ⟨rfl, hb7⟩))
    all_goals
      have HF2 := Lib.hid (HF.out.trans ((below_dr hb7).mono HF.out.size))
      clear hb7
      go_wp2
      go_ret
      exact ⟨rfl, HF2.out⟩
end Go.Proofs.YtoajckhfnadhjaaGreatDoor
namespace Go.Proofs.YtoajckhfnadhjaaGreatDoor
open Go.RowKit
set_option linter.unusedVariables false

set_option maxHeartbeats 2000000 in
set_option maxRecDepth 100000 in
theorem lcut_any (s : ByteArray) (w : World) (hs : s.size ≤ 1000000) :
    Calls Tryz.prog 186 #[.string s, .string ⟨#[35]⟩] w fun e w' => ∃ (p d : ByteArray) (b : Bool), e = .returned (.tuple #[.string p, .string d, .bool b]) ∧ Hid (CutIs s.data.toList p.data.toList d.data.toList ∧ p.size ≤ s.size ∧ d.size ≤ s.size) ∧ Below w.heap.size w w' := by
  have CI := Lib.hid (fun W => Tryz.stringslite_Index_one s 35 W)
  have hge := Lib.indexByte_ge s.data.toList 35
  have hB : ∀ q, Hid (Below w.heap.size w (w.drewN q)) := fun q => below_drewN (Below.refl _ _) q
  by_cases hi : Lib.indexByte s.data.toList 35 = -1
  · rw [hi] at CI
    have HC : Hid (CutIs s.data.toList s.data.toList (⟨#[]⟩ : ByteArray).data.toList ∧ s.size ≤ s.size ∧ (⟨#[]⟩ : ByteArray).size ≤ s.size) :=
      ⟨.inl ⟨rfl, rfl, fun h => by
        obtain ⟨k, hk, e⟩ := List.getElem_of_mem h
        exact Lib.indexByte_none hi k (by rw [List.getElem?_eq_getElem hk, e])⟩, Nat.le_refl _, Nat.zero_le _⟩
    clear hge hi
    go_enter Tryz.func186, Tryz.ntmps186
    go_wp2_with fail
    refine (CI.out _).mono ?_
    rintro e w1 ⟨rfl, hw⟩
    have hw := hw.symm
    subst hw
    go_wp2
    go_ret3
    exact ⟨_, _, _, rfl, HC, (hB 0).out⟩
  · obtain ⟨i, hix⟩ : ∃ i : Nat, Lib.indexByte s.data.toList 35 = (i : Int) := ⟨(Lib.indexByte s.data.toList 35).toNat, by omega⟩
    obtain ⟨h1, h2⟩ := Lib.indexByte_some hix
    have hlt : i < s.size := by
      have := (List.getElem?_eq_some_iff.1 h1).1
      rwa [Array.length_toList] at this
    rw [hix] at CI
    have hs0 : (⟨#[35]⟩ : ByteArray).size = 1 := rfl
    have HC : Hid (CutIs s.data.toList (s.extract 0 i).data.toList (s.extract (i + 1) s.size).data.toList ∧ (s.extract 0 i).size ≤ s.size ∧ (s.extract (i + 1) s.size).size ≤ s.size) := by
      refine ⟨.inr ⟨?_, fun h => ?_⟩, by rw [ByteArray.size_extract]; omega, by rw [ByteArray.size_extract]; omega⟩
      · have e1 : (s.extract 0 i).data.toList = s.data.toList.take i := by simp
        have e2 : (s.extract (i + 1) s.size).data.toList = s.data.toList.drop (i + 1) := by
          simp only [ByteArray.data_extract, Array.toList_extract, List.extract_eq_take_drop]
          rw [List.take_of_length_le]
          rw [List.length_drop, Array.length_toList]
          exact Nat.le_refl _
        rw [e1, e2]
        have e3 : i < s.data.toList.length := by rw [Array.length_toList]; exact hlt
        have e4 : s.data.toList[i] = 35 := by
          rw [List.getElem?_eq_getElem e3] at h1
          exact Option.some.inj h1
        have e5 := List.drop_eq_getElem_cons e3
        rw [e4] at e5
        rw [← e5, List.take_append_drop]
      · have e1 : (s.extract 0 i).data.toList = s.data.toList.take i := by simp
        rw [e1] at h
        obtain ⟨k, hk, e⟩ := List.getElem_of_mem h
        rw [List.length_take] at hk
        rw [List.getElem_take] at e
        exact h2 k (by omega) (by rw [List.getElem?_eq_getElem (by omega), e])
    have c0 : (0 : Int) ≤ (i : Int) := by omega
    have c1 : (i : Int) ≤ (s.size : Int) := by omega
    have c2 : IntKind.i64.wrap ((i : Int) + 1) = (i : Int) + 1 := IntWalk.i64_in _ (by omega)
    have c3 : (0 : Int) ≤ (i : Int) + 1 := by omega
    have c4 : (i : Int) + 1 ≤ (s.size : Int) := by omega
    clear hge hi h1 h2 hix
    go_enter Tryz.func186, Tryz.ntmps186
    go_wp2_with fail
    refine (CI.out _).mono ?_
    rintro e w1 ⟨rfl, hw⟩
    have hw := hw.symm
    subst hw
    go_wp2_with fail
    -- @P1
    go_region
    go_wp2
    go_ret3
    exact ⟨_, _, _, rfl, HC, (hB 1).out⟩
set_option maxHeartbeats 2000000 in
set_option maxRecDepth 100000 in
theorem cut_any (s : ByteArray) (w : World) (hs : s.size ≤ 1000000) :
    Calls Tryz.prog 176 #[.string s, .string ⟨#[35]⟩] w fun e w' => ∃ (p d : ByteArray) (b : Bool), e = .returned (.tuple #[.string p, .string d, .bool b]) ∧ Hid (CutIs s.data.toList p.data.toList d.data.toList ∧ p.size ≤ s.size ∧ d.size ≤ s.size) ∧ Below w.heap.size w w' := by
  have C := Lib.hid (lcut_any s w hs)
  go_enter Tryz.func176, Tryz.ntmps176
  go_wp2_with fail
  refine C.out.mono ?_
  rintro e w1 ⟨p, d, b, rfl, hc, hb⟩
  have HB := Lib.hid hb
  clear hb C
  go_wp2
  go_ret3
  exact ⟨_, _, _, rfl, hc, HB.out⟩
/-- What Atoi tells: the number, or an error. -/
def AtoiLeft (d : List UInt8) (e : Ending) : Prop := (∃ v, Lib.atoiAll d = .ok v ∧ e = .returned (.tuple #[.int .i64 v, .nilIface])) ∨ ∃ (v : Int) (te : TypeId) (pe : Value), (∀ u, Lib.atoiAll d ≠ .ok u) ∧ e = .returned (.tuple #[.int .i64 v, .iface te pe])
/-- An error comes back. -/
def ErrLeft (w : World) (e : Ending) (w' : World) : Prop := (∃ (v : Int) (te : TypeId) (pe : Value), e = .returned (.tuple #[.int .i64 v, .iface te pe])) ∧ Below w.heap.size w w'
theorem atoi_any (s : ByteArray) (w : World) (hT : Nums w) (hs : s.size ≤ 1000000) : Calls Tryz.prog 177 #[.string s] w fun e w' => Hid (AtoiLeft s.data.toList e) ∧ Below w.heap.size w w' := by
  cases h : Lib.atoiAll s.data.toList
  · rename_i v
    refine (Tryz.strconv_Atoi_ok s (by omega) v h w).mono ?_
    rintro e w' ⟨rfl, hw⟩
    refine ⟨.inl ⟨v, h, rfl⟩, ?_⟩
    rcases hw with rfl | ⟨t, rfl⟩
    · exact Below.refl _ _
    · exact Joins.below_bytesWorld _ _ _ _ (Nat.le_refl _)
  · obtain ⟨ev, h1, h2⟩ := hT.syn
    have hc : Calls Tryz.prog 177 #[.string s] w (ErrLeft w) := (Any.strconv_Atoi_syntax Tryz.laysC172 s (by omega) h ev w h1 h2).mono (by
      rintro e w' ⟨N, rfl, _, _, hb⟩
      exact ⟨⟨_, _, _, rfl⟩, hb⟩)
    refine hc.mono ?_
    rintro e w' ⟨⟨v, te, pe, rfl⟩, hb⟩
    exact ⟨.inr ⟨v, te, pe, (fun u e => by rw [h] at e; cases e), rfl⟩, hb⟩
  · obtain ⟨ev, h1, h2⟩ := hT.rng
    have hc : Calls Tryz.prog 177 #[.string s] w (ErrLeft w) := (Any.strconv_Atoi_range Tryz.laysC172 s (by omega) h ev w h1 h2).mono (by
      rintro e w' ⟨N, rfl, _, _, hb⟩
      exact ⟨⟨_, _, _, rfl⟩, hb⟩)
    refine hc.mono ?_
    rintro e w' ⟨⟨v, te, pe, rfl⟩, hb⟩
    exact ⟨.inr ⟨v, te, pe, (fun u e => by rw [h] at e; cases e), rfl⟩, hb⟩
/-- What Parse leaves. -/
def ParseLeft (s : ByteArray) (w : World) (e : Ending) (w' : World) : Prop := ∃ (z : Im) (er : Int), e = .returned (.tuple #[z.val, .int .i64 er]) ∧ Hid (ParseK s.data.toList z.key er) ∧ Below w.heap.size w w'
set_option maxHeartbeats 4000000 in
set_option maxRecDepth 100000 in
theorem idparse_any (s : ByteArray) (w : World) (hT : Nums w) (hs : s.size ≤ 1000000) : Calls Tryz.prog 158 #[.string s] w (ParseLeft s w) := by
  obtain ⟨hb0, hr0⟩ := id_box w ⟨⟨#[]⟩, 0⟩
  have HR := Lib.hid hr0
  have HB := Lib.hid hb0
  have HT := Lib.hid (hT.on hb0)
  have CC := Lib.hid (fun W => cut_any s W hs)
  clear hb0 hr0 hT
  go_enter Tryz.func158, Tryz.ntmps158
  go_wp2_with fail
  generalize (w.alloc (.cells #[.string ⟨#[]⟩, .int .i64 0] 40)) = w0 at *
  refine (CC.out _).mono ?_
  rintro e w1 ⟨p, d, b, rfl, hc, hb⟩
  have HR1 := Lib.hid (HR.out.on hb)
  have HT1 := Lib.hid (HT.out.on hb)
  have HB1 := Lib.hid (HB.out.trans (hb.mono HB.out.size))
  have hp6 : p.size ≤ 1000000 := Nat.le_trans hc.out.2.1 hs
  have CA := Lib.hid (atoi_any d w1 HT1.out (Nat.le_trans hc.out.2.2 hs))
  have HC : Hid (CutIs s.data.toList p.data.toList d.data.toList) := hc.out.1
  clear hb CC HR HT HB hc
  go_wp2_with fail
  refine CA.out.mono ?_
  rintro e w2 ⟨ha, hb⟩
  have HR2 := Lib.hid (HR1.out.on hb)
  have HT2 := Lib.hid (HT1.out.on hb)
  have HB2 := Lib.hid (HB1.out.trans (hb.mono HB1.out.size))
  clear hb CA HR1 HT1 HB1
  rcases ha.out with ⟨v, hv, rfl⟩ | ⟨v, te, pe, hv, rfl⟩
  · obtain ⟨hbx, hx⟩ := id_box w2 ⟨p, v⟩
    have HX := Lib.hid hx
    have HR3 := Lib.hid (HR2.out.on hbx)
    have HB3 := Lib.hid (HB2.out.trans (hbx.mono HB2.out.size))
    have CT := Lib.hid (idtext_any ⟨p, v⟩ _ (HT2.out.on hbx) hp6)
    have hgg : w.heap.size < w2.heap.size := HR2.out.lt
    have HK : Hid (∀ h : textK (p.data.toList, v) = s.data.toList, ParseK s.data.toList (p.data.toList, v) 0) := fun h => parse_ok HC.out hv h
    have HN : Hid (∀ h : textK (p.data.toList, v) ≠ s.data.toList, ParseK s.data.toList ([], 0) 6) := fun h => parse_no HC.out fun u hu => by
      rw [hv] at hu
      injection hu with hu
      subst hu
      exact h
    clear ha hv hbx hx HR2 HT2 HB2 HC hp6
    unfold Im.val at CT
    simp only at CT
    -- @P1
    go_upto_region 4 with (fail)
    generalize (w2.alloc (.cells #[.string p, .int .i64 v] 40)) = w3 at *
    generalize hgx : w2.heap.size = gx at *
    have x0 := id_c0 HX.out
    have x1 := id_c1 HX.out
    obtain ⟨tt, htt⟩ : ∃ tt, toB (textK (p.data.toList, v)) = tt := ⟨_, rfl⟩
    rw [show toB (textK (Im.key ⟨p, v⟩)) = tt from htt] at CT
    have HTT := Lib.hid htt
    clear hgx htt
    go_wp2_with fail
    refine CT.out.mono ?_
    rintro e w4 ⟨rfl, hb⟩
    have hX4 := HX.out.on hb
    have hR4 := HR3.out.on hb
    have x0 := id_c0 hX4
    have x1 := id_c1 hX4
    have r0 := id_c0 hR4
    have r1 := id_c1 hR4
    have f0 := Rk.At.fz hR4 0
    have f1 := Rk.At.fz hR4 1
    have HB4 := Lib.hid (HB3.out.trans (hb.mono HB3.out.size))
    have HSET := Lib.hid (id_set hR4)
    have HBEL := Lib.hid (fun (q : ByteArray) (n : Int) => id_below (g := w.heap.size) q n HB4.out (Nat.le_refl _) HB4.out.size)
    clear hb CT HX HR3 HB3 hX4 hR4
    by_cases hts : tt = s
    · have hps := HK.out (by have h := HTT.out; rw [hts] at h; rw [← of_toB (textK _), h])
      have HP := Lib.hid hps
      subst hts
      have n1 := str_eqb tt
      have HFS := Lib.hid (HSET.out p v)
      have HFB := Lib.hid (HBEL.out p v)
      clear hps HK HN HTT HSET HBEL
      go_wp2
      (try simp only [Exit.inBlock, Exit.then])
      refine bodyPost_ret (ret_id2 rfl _ _ _ ⟨p, v⟩ (.int .i64 0) rfl rfl HFS.out) rfl ?_
      exact ⟨⟨p, v⟩, 0, rfl, HP.out, HFB.out⟩
    · have hps := HN.out (fun h => hts (by rw [← HTT.out, h, toB_of]))
      have HP := Lib.hid hps
      have n1 := str_ne hts
      have HFS := Lib.hid (HSET.out ⟨#[]⟩ 0)
      have HFB := Lib.hid (HBEL.out ⟨#[]⟩ 0)
      clear hps HK HN HTT HSET HBEL hts
      go_wp2
      (try simp only [Exit.inBlock, Exit.then])
      refine bodyPost_ret (ret_id2 rfl _ _ _ ⟨⟨#[]⟩, 0⟩ (.int .i64 6) rfl rfl HFS.out) rfl ?_
      exact ⟨⟨⟨#[]⟩, 0⟩, 6, rfl, HP.out, HFB.out⟩
  · obtain ⟨hbx, hx⟩ := id_box w2 ⟨p, v⟩
    have hR3 := HR2.out.on hbx
    have r0 := id_c0 hR3
    have r1 := id_c1 hR3
    have f0 := Rk.At.fz hR3 0
    have f1 := Rk.At.fz hR3 1
    have hB3 := HB2.out.trans (hbx.mono HB2.out.size)
    have HFS := Lib.hid (id_set hR3 ⟨#[]⟩ 0)
    have HFB := Lib.hid (id_below (g := w.heap.size) ⟨#[]⟩ 0 hB3 (Nat.le_refl _) hB3.size)
    have HP : Hid (ParseK s.data.toList ([], 0) 6) := parse_no HC.out fun u hu => absurd hu (hv u)
    clear ha hv hbx hx HR2 HT2 HB2 HC hp6 hR3 hB3
    go_upto_region 4 with (fail)
    generalize (w2.alloc (.cells #[.string p, .int .i64 v] 40)) = w3 at *
    go_wp2
    (try simp only [Exit.inBlock, Exit.then])
    refine bodyPost_ret (ret_id2 rfl _ _ _ ⟨⟨#[]⟩, 0⟩ (.int .i64 6) rfl rfl HFS.out) rfl ?_
    exact ⟨⟨⟨#[]⟩, 0⟩, 6, rfl, HP.out, HFB.out⟩
end Go.Proofs.YtoajckhfnadhjaaGreatDoor
namespace Go.Proofs.YtoajckhfnadhjaaGreatDoor
open Go.RowKit
set_option linter.unusedVariables false

/-- A reader in block g: what is left, and the error. -/
abbrev RdS (w : World) (g : Nat) (s : St) : Prop := Rd w g s.1 s.2
theorem sNum_len (s : St) : (sNum s).2.1.length ≤ s.1.length := by
  unfold sNum
  split
  · exact rNum_len s.1
  · exact Nat.le_refl _
theorem sText_len (s : St) : (sText s).2.1.length ≤ s.1.length ∧ (sText s).1.length ≤ s.1.length := by
  have h := rText_len s.1
  unfold sText
  split
  · simp only
    exact ⟨by omega, by omega⟩
  · exact ⟨Nat.le_refl _, Nat.zero_le _⟩
theorem rTexts_small : ∀ (n : Nat) (l : List UInt8), (rTexts n l).2.2.length ≤ l.length ∧ ∀ x ∈ (rTexts n l).1, x.length ≤ l.length
  | 0, l => ⟨Nat.le_refl _, fun x hx => by cases hx⟩
  | n + 1, l => by
    have h1 := rText_len l
    obtain ⟨h2, h3⟩ := rTexts_small n (rText l).2.2
    unfold rTexts
    split
    · exact ⟨Nat.zero_le _, fun x hx => by cases hx⟩
    · split
      · exact ⟨Nat.zero_le _, fun x hx => by cases hx⟩
      · refine ⟨by show (rTexts n (rText l).2.2).2.2.length ≤ _; omega, fun x hx => ?_⟩
        rcases List.mem_cons.1 hx with rfl | hx
        · omega
        · have := h3 x hx
          omega
theorem rTexts_count : ∀ (n : Nat) (l : List UInt8), (rTexts n l).1.length ≤ n
  | 0, l => Nat.le_refl _
  | n + 1, l => by
    have h := rTexts_count n (rText l).2.2
    unfold rTexts
    split
    · exact Nat.zero_le _
    · split
      · exact Nat.zero_le _
      · rw [List.length_cons]; omega
theorem sList_len (s : St) : (sList s).2.1.length ≤ s.1.length ∧ (sList s).1.length ≤ s.1.length ∧ ∀ x ∈ (sList s).1, x.length ≤ s.1.length := by
  have h1 := rCount_len s.1
  have h2 := rCount_le s.1
  obtain ⟨h3, h4⟩ := rTexts_small (rCount s.1).1 (rCount s.1).2.2
  have h5 := rTexts_count (rCount s.1).1 (rCount s.1).2.2
  unfold sList rList
  split
  · split
    · exact ⟨Nat.zero_le _, Nat.zero_le _, fun x hx => by cases hx⟩
    · simp only
      exact ⟨by omega, by omega, fun x hx => Nat.le_trans (h4 x hx) h1⟩
  · exact ⟨Nat.le_refl _, Nat.zero_le _, fun x hx => by cases hx⟩
/-- A reader's call in any state: what it hands back; what is left; no other block has changed. -/
theorem rnum_any (g : Nat) (s : St) (w : World) (h : RdS w g s) (hl : s.1.length ≤ 1000000) :
    Calls Tryz.prog 100 #[.pointer (some ⟨g, 0, none⟩)] w fun e w' => e = .returned (.int .u64 ((sNum s).1 : Int)) ∧ RdS w' g (sNum s).2 ∧ w.grownBy w' (some g) := by
  obtain ⟨l, e0⟩ := s
  unfold sNum
  by_cases h0 : e0 = 0
  · subst h0
    rw [if_pos rfl]
    exact rnum_ok g l w h (by have : l.length ≤ 1000000 := hl; omega)
  · rw [if_neg h0]
    refine (rnum_bad g l e0 w h h0).mono ?_
    rintro e w' ⟨rfl, rfl⟩
    exact ⟨rfl, h, grownBy_refl _ _⟩
theorem rtext_any (g : Nat) (s : St) (w : World) (h : RdS w g s) (hl : s.1.length ≤ 1000000) :
    Calls Tryz.prog 41 #[.pointer (some ⟨g, 0, none⟩)] w fun e w' => e = .returned (.string (toB (sText s).1)) ∧ RdS w' g (sText s).2 ∧ w.grownBy w' (some g) := by
  obtain ⟨l, e0⟩ := s
  have hl2 : l.length ≤ 1000000 := hl
  unfold sText
  by_cases h0 : e0 = 0
  · subst h0
    rw [if_pos rfl]
    exact rtext_ok g l w h (by omega)
  · rw [if_neg h0]
    refine (rtext_bad g l e0 w h h0 (by omega)).mono ?_
    rintro e w' ⟨rfl, rfl⟩
    exact ⟨rfl, h, grownBy_refl _ _⟩
/-- A list read: a row of the call's own. -/
def ListLeft (w : World) (g : Nat) (s : St) (e : Ending) (w' : World) : Prop :=
  ∃ (A : Option Addr) (n c : Nat), e = .returned (.slice A n c) ∧ n = (sList s).1.length ∧ OwnS w' w.heap.size (.slice A n c) (sList s).1 ∧ Room A n c ∧ RdS w' g (sList s).2 ∧ w.grownBy w' (some g)
theorem rlist_any (g : Nat) (s : St) (w : World) (h : RdS w g s) (hl : s.1.length ≤ 1000000) :
    Calls Tryz.prog 42 #[.pointer (some ⟨g, 0, none⟩)] w (ListLeft w g s) := by
  obtain ⟨l, e0⟩ := s
  have hl2 : l.length ≤ 1000000 := hl
  unfold ListLeft sList
  by_cases h0 : e0 = 0
  · subst h0
    rw [if_pos rfl]
    refine (rlist_own g l w h (by omega)).mono ?_
    rintro e w' ⟨A, c, ss, rfl, h2, h3, h4, h5, h6, h7⟩
    refine ⟨A, ss.length, c, rfl, ?_, ?_, h4, h5, h6⟩
    · show ss.length = (rList l).1.length
      rw [← h2, lists_len]
    · show OwnS w' w.heap.size _ (rList l).1
      rw [← h2]
      unfold OwnS
      rw [lists_len, show (lists ss).map encStr = scells ss by
        unfold scells lists encStr
        rw [List.map_map]
        refine List.map_congr_left fun s _ => ?_
        show Value.string _ = _
        exact congrArg Value.string (toB_of s)]
      exact h7
  · rw [if_neg h0]
    refine (rlist_bad g l e0 w h h0 (by omega)).mono ?_
    rintro e w' ⟨rfl, rfl⟩
    exact ⟨none, 0, 0, rfl, rfl, OwnS.nil _ _, ⟨fun _ => rfl, Nat.le_refl _⟩, h, grownBy_refl _ _⟩
/-- The id that a text is. -/
noncomputable def idM (s : ByteArray) : Im := imOf (idOfK s.data.toList)
theorem idM_key (s : ByteArray) : (idM s).key = idOfK s.data.toList := imOf_key _
theorem idOfK_short (l : List UInt8) : (idOfK l).1.length ≤ 40 := by
  unfold idOfK
  split
  · rename_i h
    exact okK_short h.choose_spec.1
  · exact Nat.zero_le _
set_option maxHeartbeats 2000000 in
set_option maxRecDepth 100000 in
theorem opidof_any (s : ByteArray) (w : World) (hN : Nums w) (hs : s.size ≤ 1000000) :
    Calls Tryz.prog 126 #[.string s] w fun e w' => e = .returned (.agg #[.string (idM s).p, .int .i64 (idM s).n]) ∧ Below w.heap.size w w' := by
  obtain ⟨hb, hr⟩ := id_box w ⟨⟨#[]⟩, 0⟩
  have HR := Lib.hid hr
  have HB := Lib.hid hb
  have CP := Lib.hid (idparse_any s _ (hN.on hb) hs)
  clear hb hr hN
  go_enter Tryz.func126, Tryz.ntmps126
  go_upto_region 1 with (fail)
  generalize (w.alloc (.cells #[.string ⟨#[]⟩, .int .i64 0] 40)) = w0 at *
  go_wp2_with fail
  refine CP.out.mono ?_
  rintro e w1 ⟨z, er, rfl, hp, hb⟩
  have hz : idM s = z := by
    unfold idM
    rw [idOf_parse hp.out, key_imOf]
  have HZ := Lib.hid hz
  obtain ⟨hbx, hx⟩ := id_box w1 z
  have HX := Lib.hid hx
  have hR2 := (HR.out.on hb).on hbx
  have r0 := id_c0 hR2
  have r1 := id_c1 hR2
  have f0 := Rk.At.fz hR2 0
  have f1 := Rk.At.fz hR2 1
  have hb2 := (HB.out.trans (hb.mono HB.out.size)).trans (hbx.mono (Nat.le_trans HB.out.size hb.size))
  have HFS := Lib.hid (id_set hR2 z.p z.n)
  have HFB := Lib.hid (id_below (g := w.heap.size) z.p z.n hb2 (Nat.le_refl _) hb2.size)
  unfold Im.val
  clear hp hz hb hbx hx hR2 hb2 CP HR HB
  go_upto_region 2 with (fail)
  have y0 := id_c0 HX.out
  have y1 := id_c1 HX.out
  generalize (w1.alloc (.cells #[.string z.p, .int .i64 z.n] 40)) = w2 at *
  go_wp2
  (try simp only [Exit.inBlock, Exit.then])
  refine bodyPost_ret (ret_id rfl _ _ _ z rfl HFS.out) rfl ?_
  rw [HZ.out]
  exact ⟨rfl, HFB.out⟩
/-- A function that reads what is left of a reader lies at b: where its reader lies. -/
structure FnAt (w : World) (b g : Nat) : Prop where
  box : w.cell? ⟨b, 0, none⟩ = some (.pointer (some ⟨g, 0, none⟩))
  bl : b < w.heap.size
  gl : g < w.heap.size
  bg : b ≠ g
theorem opparts_any (s : ByteArray) (w : World) :
    Calls Tryz.prog 102 #[.string s] w fun e w' => ∃ b g, e = .returned (.func (.func 125) #[] #[.pointer (some ⟨b, 0, none⟩)]) ∧ FnAt w' b g ∧ RdS w' g (s.data.toList, 0) ∧ w.heap.size ≤ g ∧ w.heap.size ≤ b ∧ Below w.heap.size w w' := by
  have CR := Lib.hid (read_any s w)
  go_enter Tryz.func102, Tryz.ntmps102
  go_wp2_with fail
  refine CR.out.mono ?_
  rintro e w1 ⟨rfl, hr, hb⟩
  have HR := Lib.hid hr
  have HB := Lib.hid hb
  have hlt : w.heap.size < w1.heap.size := hr.lt
  have hal : Below w1.heap.size w1 (w1.alloc (.cells #[.pointer (some ⟨w.heap.size, 0, none⟩)] 59)) := (Below.refl _ _).alloc (Nat.le_refl _) _
  have HAL := Lib.hid hal
  clear hr hb hal CR
  go_wp2
  go_ret
  refine ⟨w1.heap.size, w.heap.size, rfl, ⟨?_, ?_, ?_, ?_⟩, HR.out.below HAL.out, Nat.le_refl _, by omega, HB.out.trans (HAL.out.mono HB.out.size)⟩
  · rw [World.cell?_alloc_new]; rfl
  · simp
  · simp; omega
  · omega
end Go.Proofs.YtoajckhfnadhjaaGreatDoor
