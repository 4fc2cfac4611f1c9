/- Rows of steps that change places: how long they are, plainly. Words for rows of steps that change places. Package seq's brought, Rows, Front, Swap, Past. What the laws of layer 10 use: the reference's Same of rows that say the same, lengths, steps in boxes. -/
import Derived.BigQuiet
import Derived.Deep.QuietTactic
import Derived.Handy
import Derived.Laws.Cover1
import Derived.Sort.OwnSorted
import Derived.Deep.RegionHeld3
import Derived.Deep.DrawnRows
import Derived.Deep.RegionLaw
import Derived.Test.YtalabahjfmcnbaaGreatDoorShelf
import Derived.WalkKit
import Derived.Test.YtalabahjfmcnbaaGreatDoorCk19
namespace Go.Proofs.YtalabahjfmcnbaaGreatDoor
open Go.RowKit
set_option linter.unusedVariables false

theorem ahead_lt : ∀ (rs : List Pk) {x y : Pk} {out : List Pk} {n : Int}, (∀ z ∈ rs, LtK z) → LtK x → aheadP rs x = (n, y, out) → LtK y ∧ (∀ z ∈ out, LtK z) ∧ out.length ≤ rs.length
  | [], x, y, out, n, hr, hx, h => by
    unfold aheadP at h
    simp only [Prod.mk.injEq] at h
    obtain ⟨rfl, rfl, rfl⟩ := h
    exact ⟨hx, (fun z hz => by cases hz), Nat.le_refl _⟩
  | r :: rs, x, y, out, n, hr, hx, h => by
    unfold aheadP at h
    obtain ⟨k, b, a, e⟩ : ∃ k b a, pairP r x = (k, b, a) := ⟨_, _, _, rfl⟩
    obtain ⟨h1, h2⟩ := pair_lt (hr r (by simp)) hx e
    rw [e] at h
    simp only at h
    split at h
    · simp only [Prod.mk.injEq] at h
      obtain ⟨rfl, rfl, rfl⟩ := h
      exact ⟨LtK.zero, (fun z hz => by cases hz), Nat.zero_le _⟩
    · obtain ⟨m, y2, o, e2⟩ : ∃ m y2 o, aheadP rs b = (m, y2, o) := ⟨_, _, _, rfl⟩
      obtain ⟨i1, i2, i3⟩ := ahead_lt rs (fun z hz => hr z (by simp [hz])) h1 e2
      rw [e2] at h
      simp only at h
      split at h
      · simp only [Prod.mk.injEq] at h
        obtain ⟨rfl, rfl, rfl⟩ := h
        exact ⟨LtK.zero, (fun z hz => by cases hz), Nat.zero_le _⟩
      · simp only [Prod.mk.injEq] at h
        obtain ⟨rfl, rfl, rfl⟩ := h
        refine ⟨i1, fun z hz => ?_, by simp only [List.length_append, List.length_cons, List.length_nil]; omega⟩
        rcases List.mem_append.1 hz with hz | hz
        · exact i2 z hz
        · simp only [List.mem_cons, List.not_mem_nil, or_false] at hz
          subst hz
          exact h2
end Go.Proofs.YtalabahjfmcnbaaGreatDoor
namespace Go.Proofs.YtalabahjfmcnbaaGreatDoor
open Go.RowKit
set_option linter.unusedVariables false

theorem ret3 {fn : Func} {a b c : Tmp} (h : fn.results = #[.tmp a, .tmp b, .tmp c]) (tmps : Array Value) (w : World) (va vb vc : Value) (ha : tmps.getD a undef = va) (hb : tmps.getD b undef = vb) (hc : tmps.getD c undef = vc) :
    (results fn tmps).run Tryz.prog w = .ok (.tuple #[va, vb, vc]) w := by
  have e : (results fn tmps).run Tryz.prog w = .ok (.tuple #[tmps.getD a undef, tmps.getD b undef, tmps.getD c undef]) w := by
    simp only [results, h]
    simp
  rw [e, ha, hb, hc]
end Go.Proofs.YtalabahjfmcnbaaGreatDoor
namespace Go.Proofs.YtalabahjfmcnbaaGreatDoor
open Go.RowKit
set_option linter.unusedVariables false

set_option maxHeartbeats 20000000 in
set_option maxRecDepth 100000 in
theorem seqrows_c (A : Option Addr) (l : List Pm) (n c : Nat) (A0 : Option Addr) (m0 c0 : Nat) (l0 : List Pm) (w : World) (ha : RowW w A n c l) (hb0 : RowW w A0 m0 c0 l0) (hl : ∀ y ∈ l, LtK y.key) (hl0 : ∀ y ∈ l0, LtK y.key) (hn : l.length ≤ 500) (hn0 : l0.length ≤ 500) (hT : Tabs w) :
    Calls Tryz.prog 8 #[.slice A n c, .slice A0 m0 c0] w (RowsC w (rowsP (pkeys l) (pkeys l0))) := by
  have CT := Lib.hid (turned_w A l n c A0 m0 c0 l0 w ha hb0 hl hl0 hn hn0 hT)
  obtain ⟨er, ox, oy, hrows⟩ : ∃ er ox oy, rowsP (pkeys l) (pkeys l0) = (er, ox, oy) := ⟨_, _, _, rfl⟩
  have hlts := rows_lt _ (ltk_row hl) (ltk_row hl0) hrows
  rw [pkeys_len, pkeys_len] at hlts
  rw [hrows] at CT ⊢
  have HLT := Lib.hid hlts
  have HRB : Hid (∀ V, V = w → er ≠ 0 → (er, ox, oy) = (er, [], [])) := fun _ _ h => by
    have := rows_drop (pkeys l) (pkeys l0) 0 (by rw [List.drop_zero, hrows]; exact h)
    rw [List.drop_zero, hrows] at this
    exact this
  clear ha hb0 hl hl0 hT hrows hlts
  go_enter Tryz.func8, Tryz.ntmps8
  go_wp2_with fail
  refine CT.out.mono ?_
  rintro e w1 ⟨A3, n3, c3, rs, A4, n4, c4, ss, er2, rfl, hp, hb⟩
  obtain ⟨hr3, hr4, heq⟩ := hp.out
  simp only [Prod.mk.injEq] at heq
  obtain ⟨rfl, rfl, rfl⟩ := heq
  have HB := Lib.hid hb
  have HR3 := Lib.hid hr3
  have HR4 := Lib.hid hr4
  clear hp hb hr3 hr4 CT
  by_cases he : er = 0
  · subst he
    have CC := Lib.hid (qcopied_any A3 rs n3 c3 w1 HR3.out (by have := HLT.out.2.2.1; rw [pkeys_len] at this; omega) (fun z hz => ltk_len (ltk_keys rfl HLT.out.1 z hz)))
    go_wp2_with fail
    refine CC.out.mono ?_
    rintro e w2 ⟨A5, n5, c5, qs, rfl, hq, hb2⟩
    have HR5 := Lib.hid hq.out
    have HW1 : Hid (w.heap.size ≤ w1.heap.size) := HB.out.size
    replace HR4 := Lib.hid (HR4.out.on hb2)
    replace HB := Lib.hid (HB.out.trans (hb2.mono HB.out.size))
    have HW2 : Hid (w.heap.size ≤ w2.heap.size) := HB.out.size
    have CD := Lib.hid (qcopied_any A4 ss n4 c4 w2 HR4.out (by have := HLT.out.2.2.2; rw [pkeys_len] at this; omega) (fun z hz => ltk_len (ltk_keys rfl HLT.out.2.1 z hz)))
    clear hq hb2 CC
    go_wp2_with fail
    refine CD.out.mono ?_
    rintro e w3 ⟨A6, n6, c6, qt, rfl, hq, hb2⟩
    have HR6 := Lib.hid hq.out
    have HO5 : Hid (OwnP w3 w.heap.size (.slice A5 n5 c5) qs ∧ ∀ z ∈ qs, z.Sep w3) := ⟨(HR5.out.2.2.1.kept hb2).lower1 HW1.out, fun z hz => (HR5.out.2.2.2 z hz).on hb2⟩
    have HO6 : Hid (OwnP w3 w.heap.size (.slice A6 n6 c6) qt) := HR6.out.2.2.1.lower1 HW2.out
    replace HB := Lib.hid (HB.out.trans (hb2.mono HB.out.size))
    have HF : Hid (RowsC w (0, pkeys rs, pkeys ss) (.returned (.tuple #[.slice A5 n5 c5, .slice A6 n6 c6, .int .i64 0])) w3) := ⟨A5, n5, c5, qs, A6, n6, c6, qt, 0, rfl, ⟨HO5.out.1, HO5.out.2, HO6.out, HR6.out.2.2.2, by rw [HR5.out.2.1, HR6.out.2.1]⟩, HB.out⟩
    clear hq hb2 CD HR3 HR4 HR5 HR6 HB HLT HRB HO5 HO6 HW1 HW2
    go_wp2
    (try simp only [Exit.inBlock, Exit.then])
    refine bodyPost_ret (ret3 rfl _ _ _ _ _ rfl rfl rfl) rfl ?_
    exact HF.out
  · have ke : (er != 0) = true := by simpa using he
    have HF : Hid (RowsC w (er, pkeys rs, pkeys ss) (.returned (.tuple #[.slice none 0 0, .slice none 0 0, .int .i64 er])) w1) := ⟨none, 0, 0, [], none, 0, 0, [], er, rfl, ⟨OwnP.nil _ _, (fun z hz => by cases hz), OwnP.nil _ _, (fun z hz => by cases hz), HRB.out _ rfl he⟩, HB.out⟩
    clear HR3 HR4 HB HLT HRB he
    go_wp2
    (try simp only [Exit.inBlock, Exit.then])
    refine bodyPost_ret (ret3 rfl _ _ _ _ _ rfl rfl rfl) rfl ?_
    exact HF.out
theorem seqrows_any (A : Option Addr) (l : List Pm) (n c : Nat) (A0 : Option Addr) (m0 c0 : Nat) (l0 : List Pm) (w : World) (ha : RowW w A n c l) (hb0 : RowW w A0 m0 c0 l0) (hl : ∀ y ∈ l, LtK y.key) (hl0 : ∀ y ∈ l0, LtK y.key) (hn : l.length ≤ 500) (hn0 : l0.length ≤ 500) (hT : Tabs w) :
    Calls Tryz.prog 8 #[.slice A n c, .slice A0 m0 c0] w (RowsW w (rowsP (pkeys l) (pkeys l0))) := (seqrows_c A l n c A0 m0 c0 l0 w ha hb0 hl hl0 hn hn0 hT).mono fun _ _ h => h.w
end Go.Proofs.YtalabahjfmcnbaaGreatDoor
namespace Go.Proofs.YtalabahjfmcnbaaGreatDoor
open Go.RowKit
set_option linter.unusedVariables false

theorem front_lt {l m : List Pk} {i n : Int} (hl : ∀ z ∈ l, LtK z) (h : frontI l i = (n, m)) : (∀ z ∈ m, LtK z) ∧ m.length ≤ l.length := by
  unfold frontI at h
  split at h
  · rename_i hc
    unfold frontP at h
    have hi : i.toNat < l.length := by omega
    rw [dif_pos hi] at h
    obtain ⟨k, y, o, e⟩ : ∃ k y o, aheadP (l.take i.toNat).reverse l[i.toNat] = (k, y, o) := ⟨_, _, _, rfl⟩
    rw [e] at h
    have hlt := ahead_lt _ (fun z hz => hl z (List.mem_of_mem_take (List.mem_reverse.1 hz))) (hl _ (List.getElem_mem hi)) e
    simp only at h
    split at h
    · cases h
      exact ⟨(fun z hz => by cases hz), Nat.zero_le _⟩
    · cases h
      refine ⟨fun z hz => ?_, ?_⟩
      · simp only [List.cons_append, List.mem_cons, List.mem_append] at hz
        rcases hz with rfl | hz | hz
        · exact hlt.1
        · exact hlt.2.1 z hz
        · exact hl z (List.mem_of_mem_drop hz)
      · have h1 := hlt.2.2
        rw [List.length_reverse, List.length_take] at h1
        simp only [List.cons_append, List.length_cons, List.length_append, List.length_drop]
        omega
  · cases h
    exact ⟨(fun z hz => by cases hz), Nat.zero_le _⟩
end Go.Proofs.YtalabahjfmcnbaaGreatDoor
