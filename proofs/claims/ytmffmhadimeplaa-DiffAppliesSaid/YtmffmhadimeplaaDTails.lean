
/- Package diff's tails: a function that tells how much is alike of what is left. -/
import Derived.Test.YtmffmhadimeplaaDRow
import Derived.Deep.RegionHeld3
import Derived.Deep.DrawnRows
namespace Go.Proofs.Ytmffmhadimeplaa
open Go.RowKit
set_option linter.unusedVariables false
attribute [local go_sem ↓] Go.wp_at_zero Go.wp_at_succ

/-- The table while it is made: the rows' slices, and nils behind them. -/
def TabV (n m : Nat) (gs : List Nat) : List Value := gs.map (rowVal n) ++ List.replicate (m - gs.length) (.slice none 0 0)
def TabAt (w : World) (gt n m : Nat) (gs : List Nat) : Prop := w.heap[gt]? = some (.cells (TabV n m gs).toArray 33 (0, 0))
section
variable {w w' : World} {gt n m : Nat} {gs : List Nat}
theorem TabAt.c (h : TabAt w gt n m gs) {i : Nat} (hi : i < gs.length) : w.cell? ⟨gt, i, none⟩ = some (rowVal n gs[i]) := by
  simp [World.cell?, show w.heap[gt]? = _ from h, TabV, hi, List.getElem?_append_left]
theorem TabAt.free (h : TabAt w gt n m gs) (hi : gs.length < m) : w.cell? ⟨gt, gs.length, none⟩ = some (.slice none 0 0) := by
  have e : 0 < m - gs.length := by omega
  simp [World.cell?, show w.heap[gt]? = _ from h, TabV, List.getElem?_append_right, e]
theorem TabAt.f (h : TabAt w gt n m gs) (i : Nat) : w.frozen? ⟨gt, i, none⟩ = false := by simp [World.frozen?, show w.heap[gt]? = _ from h]
theorem TabAt.lt (h : TabAt w gt n m gs) : gt < w.heap.size := (Array.getElem?_eq_some_iff.1 h).1
theorem TabAt.on (h : TabAt w gt n m gs) (hb : Below w.heap.size w w') : TabAt w' gt n m gs := (hb.block gt h.lt).trans h
theorem TabV_set (n m : Nat) (gs : List Nat) (g : Nat) (hm : gs.length < m) : (TabV n m gs).set gs.length (rowVal n g) = TabV n m (gs ++ [g]) := by
  unfold TabV
  rw [List.set_append_right _ _ (by simp)]
  obtain ⟨k, hk⟩ : ∃ k, m - gs.length = k + 1 := ⟨m - gs.length - 1, by omega⟩
  have e : m - (gs ++ [g]).length = k := by simp; omega
  rw [hk, e]
  simp [List.replicate_succ]
theorem TabAt.set (h : TabAt w gt n m gs) (g : Nat) (hm : gs.length < m) : TabAt (w.setCell ⟨gt, gs.length, none⟩ (rowVal n g)) gt n m (gs ++ [g]) := by
  unfold TabAt at h ⊢
  rw [← TabV_set n m gs g hm]
  simp [World.setCell, Array.getElem?_modify, h]
end
theorem make_rows (k n : Nat) (hn : k ≤ 10000) (w : World) : (Instr.makeSlice 31 (.int .i64 ((k : Int) + 1)) (.int .i64 ((k : Int) + 1))).run Try.prog w = .ok (.slice (some ⟨w.heap.size, 0, none⟩) (k + 1) (k + 1)) (w.alloc (.cells (TabV n (k + 1) []).toArray 33)) := by
  obtain ⟨i0, hi, hz0, hz1, hz2⟩ := info_parts info_ints
  have h := run_make (w := w) 31 33 i0 _ Try.underlying31 hi hz0 .i64 .i64 ((k : Int) + 1) ((k : Int) + 1) (by omega) (by omega) (by rw [hz2]; omega) (by omega)
  rw [h, hz1]
  have e1 : ((k : Int) + 1).toNat = k + 1 := by omega
  have e2 : madeCells (Value.slice none 0 0).cells (((k : Int) + 1).toNat * 1) = (TabV n (k + 1) []).toArray := by
    rw [e1, Nat.mul_one]
    apply Array.ext
    · simp [madeCells, TabV]
    · intro i h1 h2
      simp [madeCells, Value.cells, TabV, Nat.mod_one]
  rw [e1] at *
  rw [e2]
def boxed (v : Value) : Obj := .cells #[v] 22 (0, 0)
def ptr (g : Nat) : Value := .pointer (some ⟨g, 0, none⟩)
/-- A function that tells how much is alike: what it holds lies below B. -/
def Tails (w : World) (B : Nat) (fv : Value) (la lc : List (List UInt8)) : Prop :=
  ∃ (r a b gt : Nat) (A A2 : Option Addr) (cap cap2 : Nat), fv = .func (.func 37) #[] #[ptr r, ptr a, ptr b] ∧ r < B ∧ a < B ∧ b < B ∧ gt < B ∧
    w.cell? ⟨r, 0, none⟩ = some (.slice (some ⟨gt, 0, none⟩) (la.length + 1) (la.length + 1)) ∧ w.cell? ⟨a, 0, none⟩ = some (.slice A la.length cap) ∧ w.cell? ⟨b, 0, none⟩ = some (.slice A2 lc.length cap2) ∧
    ∀ j, j ≤ la.length → ∃ g, g < B ∧ w.cell? ⟨gt, j, none⟩ = some (rowVal (lc.length + 1) g) ∧ w.heap[g]? = some (.cells ((rowR (la.drop (la.length - j)) lc).map intV).toArray 3 (0, 0))
theorem Tails.below {w w' : World} {B : Nat} {fv : Value} {la lc : List (List UInt8)} (h : Tails w B fv la lc) (hb : Below B w w') : Tails w' B fv la lc := by
  obtain ⟨r, a, b, gt, A, A2, cap, cap2, h1, h2, h3, h4, h5, h6, h7, h8, h9⟩ := h
  refine ⟨r, a, b, gt, A, A2, cap, cap2, h1, h2, h3, h4, h5, (hb.cell (p := ⟨r, 0, none⟩) h2).trans h6, (hb.cell (p := ⟨a, 0, none⟩) h3).trans h7, (hb.cell (p := ⟨b, 0, none⟩) h4).trans h8, fun j hj => ?_⟩
  obtain ⟨g, g1, g2, g3⟩ := h9 j hj
  exact ⟨g, g1, (hb.cell (p := ⟨gt, j, none⟩) h5).trans g2, (hb.block g g1).trans g3⟩
theorem Tails.more {w : World} {B B' : Nat} {fv : Value} {la lc : List (List UInt8)} (h : Tails w B fv la lc) (hB : B ≤ B') : Tails w B' fv la lc := by
  obtain ⟨r, a, b, gt, A, A2, cap, cap2, h1, h2, h3, h4, h5, h6, h7, h8, h9⟩ := h
  refine ⟨r, a, b, gt, A, A2, cap, cap2, h1, by omega, by omega, by omega, by omega, h6, h7, h8, fun j hj => ?_⟩
  obtain ⟨g, g1, g2, g3⟩ := h9 j hj
  exact ⟨g, by omega, g2, g3⟩
theorem Tails.on {w w' : World} {fv : Value} {la lc : List (List UInt8)} (h : Tails w w.heap.size fv la lc) (hb : Below w.heap.size w w') : Tails w' w'.heap.size fv la lc := (h.below hb).more hb.size

set_option maxRecDepth 100000 in
theorem tails1_q (fv : Value) (la lc : List (List UInt8)) (i j B : Nat) (w : World) (hi : i ≤ la.length) (hj : j ≤ lc.length) (hn : la.length ≤ 10000) (hn2 : lc.length ≤ 10000) (h : Tails w B fv la lc) :
    ∃ r a b, fv = .func (.func 37) #[] #[ptr r, ptr a, ptr b] ∧ Calls Try.prog 37 #[.int .i64 (i : Int), .int .i64 (j : Int), ptr r, ptr a, ptr b] w fun e w' => e = .returned (.int .i64 (lcs (la.drop i) (lc.drop j) : Int)) ∧ ∃ q, w' = w.drewN q := by
  obtain ⟨r, a, b, gt, A, A2, cap, cap2, rfl, _, _, _, _, h6, h7, h8, h9⟩ := h
  refine ⟨r, a, b, rfl, ?_⟩
  obtain ⟨g, _, g2, g3⟩ := h9 (la.length - i) (by omega)
  have hI : IntsAt w g _ := g3
  have f1 := hI.c (i := lc.length - j) (by rw [rowR_len]; omega)
  rw [rowR_get] at f1
  rw [show la.length - (la.length - i) = i by omega, show lc.length - (lc.length - j) = j by omega] at f1
  obtain ⟨x, hx⟩ : ∃ x, la.length - i = x := ⟨_, rfl⟩
  obtain ⟨y, hy⟩ : ∃ y, lc.length - j = y := ⟨_, rfl⟩
  rw [hx] at g2
  rw [hy] at f1
  have i1 : (la.length : Int) - (i : Int) = (x : Int) := by omega
  have i2 : (lc.length : Int) - (j : Int) = (y : Int) := by omega
  have i3 : (x : Int) < (la.length : Int) + 1 := by omega
  have i4 : (y : Int) < (lc.length : Int) + 1 := by omega
  clear g3 hI h9
  generalize lcs (la.drop i) (lc.drop j) = d at *
  unfold rowVal at g2
  unfold ptr
  go_enter Try.func37, Try.ntmps37
  go_wp2
  go_quiet (fail)
  go_wp2
  go_ret
  exact ⟨rfl, _, rfl⟩

/-- The memory of tails while its table is made; n: the first of its blocks. -/
structure TB (w wr : World) (n : Nat) (A A2 : Option Addr) (cap cap2 : Nat) (la lc : List (List UInt8)) (gs : List Nat) : Prop where
  ca : wr.heap[n]? = some (.cells #[.slice A la.length cap] 22 (0, 0))
  cb : wr.heap[n + 1]? = some (.cells #[.slice A2 lc.length cap2] 22 (0, 0))
  cr : wr.heap[n + 1 + 1 + 1]? = some (.cells #[.slice (some ⟨n + 1 + 1, 0, none⟩) (la.length + 1) (la.length + 1)] 31 (0, 0))
  tab : TabAt wr (n + 1 + 1) (lc.length + 1) (la.length + 1) gs
  rows : ∀ j (hj : j < gs.length), IntsAt wr gs[j] (rowR (la.drop (la.length - j)) lc) ∧ n + 1 + 1 < gs[j]
  below : Below n w wr
theorem heap_set_ne {w : World} {g i k : Nat} {v : Value} (h : k ≠ g) : (w.setCell ⟨g, i, none⟩ v).heap[k]? = w.heap[k]? := Below.heap_setCell w _ v k (fun e => h e)
theorem TB.set {w wr w1 : World} {n : Nat} {A A2 : Option Addr} {cap cap2 : Nat} {la lc : List (List UInt8)} {gs : List Nat} {g : Nat} (h : TB w wr n A A2 cap cap2 la lc gs) (hb : Below wr.heap.size wr w1) (hg : wr.heap.size ≤ g)
    (hi : IntsAt w1 g (rowR (la.drop (la.length - gs.length)) lc)) (hm : gs.length < la.length + 1) : TB w (w1.setCell ⟨n + 1 + 1, gs.length, none⟩ (rowVal (lc.length + 1) g)) n A A2 cap cap2 la lc (gs ++ [g]) := by
  have ht := h.tab.lt
  have t1 := h.tab.on hb
  refine ⟨?_, ?_, ?_, t1.set g hm, fun j hj => ?_, (h.below.trans (hb.mono (by omega))).setCell (by simp; omega) _⟩
  · rw [heap_set_ne (by omega), hb.block _ (by omega)]; exact h.ca
  · rw [heap_set_ne (by omega), hb.block _ (by omega)]; exact h.cb
  · have := (Array.getElem?_eq_some_iff.1 h.cr).1
    rw [heap_set_ne (by omega), hb.block _ (by omega)]; exact h.cr
  · by_cases hjl : j < gs.length
    · rw [List.getElem_append_left hjl]
      obtain ⟨h1, h2⟩ := h.rows j hjl
      have h3 := h1.on hb
      unfold IntsAt at h3 ⊢
      rw [heap_set_ne (by omega)]
      exact ⟨h3, h2⟩
    · have e : j = gs.length := by simp at hj; omega
      subst e
      rw [List.getElem_append_right (Nat.le_refl _)]
      simp only [Nat.sub_self, List.getElem_cons_zero]
      unfold IntsAt at hi ⊢
      rw [heap_set_ne (by omega)]
      exact ⟨hi, by omega⟩
theorem TB.drew {w wr : World} {n : Nat} {A A2 : Option Addr} {cap cap2 : Nat} {la lc : List (List UInt8)} {gs : List Nat} (h : TB w wr n A A2 cap cap2 la lc gs) : TB w wr.drew n A A2 cap cap2 la lc gs :=
  ⟨h.ca, h.cb, h.cr, h.tab, h.rows, h.below.drew⟩
theorem cell_of {w : World} {g : Nat} {cs : Array Value} {t : TypeId} {fz : Nat × Nat} (h : w.heap[g]? = some (.cells cs t fz)) (i : Nat) : w.cell? ⟨g, i, none⟩ = cs[i]? := by
  simp [World.cell?, h]
theorem TB.tails {w wr : World} {n : Nat} {A A2 : Option Addr} {cap cap2 : Nat} {la lc : List (List UInt8)} {gs : List Nat} (h : TB w wr n A A2 cap cap2 la lc gs) (hg : gs.length = la.length + 1) :
    Tails wr wr.heap.size (.func (.func 37) #[] #[.pointer (some ⟨n + 1 + 1 + 1, 0, none⟩), .pointer (some ⟨n, 0, none⟩), .pointer (some ⟨n + 1, 0, none⟩)]) la lc := by
  have h1 := (Array.getElem?_eq_some_iff.1 h.cr).1
  refine ⟨n + 1 + 1 + 1, n, n + 1, n + 1 + 1, A, A2, cap, cap2, rfl, by omega, by omega, by omega, by omega, ?_, ?_, ?_, fun j hj => ?_⟩
  · rw [cell_of h.cr]; rfl
  · rw [cell_of h.ca]; rfl
  · rw [cell_of h.cb]; rfl
  · obtain ⟨r1, r2⟩ := h.rows j (by omega)
    exact ⟨gs[j], r1.lt, h.tab.c (by omega), r1⟩
theorem tab_keep {w1 : World} {n b1 o1 x c : Nat} {v1 v2 v3 v4 v5 : Value} (h1 : w1.cell? ⟨n + 1 + 1 + 1, 0, none⟩ = some v1) (h2 : w1.cell? ⟨n + 1, 0, none⟩ = some v2) (h3 : w1.cell? ⟨n, 0, none⟩ = some v3) (h4 : w1.cell? ⟨b1, o1 + x, none⟩ = some v4) (h5 : w1.cell? ⟨n + 1 + 1, c, none⟩ = some v5) (hb : b1 < n) (v : Value) :
    ((w1.setCell ⟨n + 1 + 1, c + 1, none⟩ v).cell? ⟨n + 1 + 1 + 1, 0, none⟩ = some v1 ∧ (w1.setCell ⟨n + 1 + 1, c + 1, none⟩ v).cell? ⟨n + 1, 0, none⟩ = some v2 ∧ (w1.setCell ⟨n + 1 + 1, c + 1, none⟩ v).cell? ⟨n, 0, none⟩ = some v3 ∧ (w1.setCell ⟨n + 1 + 1, c + 1, none⟩ v).cell? ⟨b1, o1 + x, none⟩ = some v4 ∧ (w1.setCell ⟨n + 1 + 1, c + 1, none⟩ v).cell? ⟨n + 1 + 1, c, none⟩ = some v5) := by
  have e : ∀ a : Addr, (⟨n + 1 + 1, c + 1, none⟩ : Addr) ≠ a → (w1.setCell ⟨n + 1 + 1, c + 1, none⟩ v).cell? a = w1.cell? a := fun a ha => World.cell?_setCell_other _ _ _ _ ha
  exact ⟨(e _ (by simp)).trans h1, (e _ (by simp)).trans h2, (e _ (by simp <;> omega)).trans h3, (e _ (by simp <;> omega)).trans h4, (e _ (by simp)).trans h5⟩
set_option maxHeartbeats 2000000 in
set_option maxRecDepth 100000 in
theorem tails_any (A A2 : Option Addr) (la lc : List (List UInt8)) (cap cap2 : Nat) (w : World) (hA : Strs w w.heap.size A (toBs la)) (hC : Strs w w.heap.size A2 (toBs lc)) (hn : la.length ≤ 10000) (hn2 : lc.length ≤ 10000) :
    Calls Try.prog 28 #[.slice A la.length cap, .slice A2 lc.length cap2] w fun e w' => ∃ fv, e = .returned fv ∧ Tails w' w'.heap.size fv la lc ∧ Below w.heap.size w w' := by
  have HA := Lib.hid hA
  have HC := Lib.hid hC
  clear hA hC
  have hmk := fun w => make_ints lc.length hn2 w
  have hmr := fun w => make_rows la.length (lc.length + 1) hn w
  have h0 : TB w ((((w.alloc (.cells #[.slice A la.length cap] 22)).alloc (.cells #[.slice A2 lc.length cap2] 22)).alloc (.cells (TabV (lc.length + 1) (la.length + 1) []).toArray 33)).alloc (.cells #[.slice (some ⟨w.heap.size + 1 + 1, 0, none⟩) (la.length + 1) (la.length + 1)] 31)) w.heap.size A A2 cap cap2 la lc [] := by
    refine ⟨?_, ?_, ?_, ?_, fun j hj => absurd hj (by simp), ((((Below.refl _ _).alloc (Nat.le_refl _) _).alloc (by simp) _).alloc (by simp; omega) _).alloc (by simp; omega) _⟩
    · rw [heap_alloc_old _ _ (by simp; omega), heap_alloc_old _ _ (by simp; omega), heap_alloc_old _ _ (by simp), heap_alloc_new]
    · rw [heap_alloc_old _ _ (by simp), heap_alloc_old _ _ (by simp)]
      have := heap_alloc_new (w.alloc (.cells #[.slice A la.length cap] 22)) (.cells #[.slice A2 lc.length cap2] 22)
      simpa using this
    · have := heap_alloc_new (((w.alloc (.cells #[.slice A la.length cap] 22)).alloc (.cells #[.slice A2 lc.length cap2] 22)).alloc (.cells (TabV (lc.length + 1) (la.length + 1) []).toArray 33)) (.cells #[.slice (some ⟨w.heap.size + 1 + 1, 0, none⟩) (la.length + 1) (la.length + 1)] 31)
      simpa using this
    · unfold TabAt
      rw [heap_alloc_old _ _ (by simp)]
      have := heap_alloc_new ((w.alloc (.cells #[.slice A la.length cap] 22)).alloc (.cells #[.slice A2 lc.length cap2] 22)) (.cells (TabV (lc.length + 1) (la.length + 1) []).toArray 33)
      simpa using this
  go_enter Try.func28, Try.ntmps28
  go_wp2_with fail
  generalize ((((w.alloc (.cells #[.slice A la.length cap] 22)).alloc (.cells #[.slice A2 lc.length cap2] 22)).alloc (.cells (TabV (lc.length + 1) (la.length + 1) []).toArray 33)).alloc (.cells #[.slice (some ⟨w.heap.size + 1 + 1, 0, none⟩) (la.length + 1) (la.length + 1)] 31)) = w4 at h0 ⊢
  have f1 := cell_of h0.cr 0
  have f2 := cell_of h0.cb 0
  have f3 := h0.tab.free (by simp)
  have f4 := h0.tab.f 0
  have f5 := h0.tab.lt
  have f6 := cell_of h0.ca 0
  have f7 := (Array.getElem?_eq_some_iff.1 h0.cr).1
  simp only [List.length_nil, List.getElem?_toArray, List.getElem?_cons_zero] at f1 f2 f3 f6
  have H0 := Lib.hid h0
  clear h0
  go_region
  all_goals (
    have h1 : TB w ((w4.setCell ⟨w.heap.size + 1 + 1, 0, none⟩ (.slice (some ⟨w4.heap.size, 0, none⟩) (lc.length + 1) (lc.length + 1))).alloc (.cells (Array.replicate (lc.length + 1) (intV 0)) 3)).drew w.heap.size A A2 cap cap2 la lc [w4.heap.size] := by
      have hi : IntsAt (w4.alloc (.cells (Array.replicate (lc.length + 1) (intV 0)) 3)) w4.heap.size (rowR (la.drop (la.length - ([] : List Nat).length)) lc) := by
        have := ints_new w4 (lc.length + 1)
        rw [← rowR_nil] at this
        simpa using this
      have := (H0.out.set (w1 := w4.alloc (.cells (Array.replicate (lc.length + 1) (intV 0)) 3)) ((Below.refl _ _).alloc (Nat.le_refl _) _) (Nat.le_refl _) hi (by simp)).drew
      simp only [List.length_nil] at this
      rw [World.setCell_alloc_past _ _ _ _ f5] at this
      exact this
    clear f1 f2 f3 f4 f5 f6 f7 H0
    have f6 := cell_of h1.ca 0
    simp only [List.getElem?_toArray, List.getElem?_cons_zero] at f6
    generalize ((w4.setCell ⟨w.heap.size + 1 + 1, 0, none⟩ (.slice (some ⟨w4.heap.size, 0, none⟩) (lc.length + 1) (lc.length + 1))).alloc (.cells (Array.replicate (lc.length + 1) (intV 0)) 3)).drew = w5 at h1 f6 ⊢
    have H1 := Lib.hid h1
    clear h1
    go_wp2
    go_loopw [19] (fun iv wr => ∃ (c : Nat) (gs : List Nat), c ≤ la.length ∧ iv = .int .i64 (c : Int) ∧ Hid (gs.length = c + 1) ∧ Hid (TB w wr w.heap.size A A2 cap cap2 la lc gs)) (fun iv _ => la.length - (intOf iv).toNat)
    case atStart => exact ⟨0, [w4.heap.size], Nat.zero_le _, rfl, rfl, H1.out⟩
    case round =>
      obtain ⟨c, gs, hc, rfl, hgs, htb⟩ := hrel
      clear H1 f6
      have hb := htb.out.below
      have f1 := cell_of htb.out.cr 0
      have f2 := cell_of htb.out.cb 0
      have f6 := cell_of htb.out.ca 0
      simp only [List.length_nil, List.getElem?_toArray, List.getElem?_cons_zero] at f1 f2 f6
      have f7 := (Array.getElem?_eq_some_iff.1 htb.out.cr).1
      by_cases hlt : c < la.length
      · obtain ⟨x, hx⟩ : ∃ x, la.length - 1 - c = x := ⟨_, rfl⟩
        obtain ⟨b1, o1, hA1, hb1, k1⟩ := (HA.out.on hb).at_ (k := x) (by rw [toBs_len]; omega)
        subst hA1
        have e1 : (toBs la)[x]'(by rw [toBs_len]; omega) = toB (la[x]'(by omega)) := by simp [toBs]
        rw [e1] at k1
        have f3 := htb.out.tab.free (by have := hgs.out; omega)
        have f4 := htb.out.tab.f (c + 1)
        have f5 := htb.out.tab.lt
        rw [hgs.out] at f3
        have f8 := htb.out.tab.c (i := c) (by have := hgs.out; omega)
        obtain ⟨f9, f10⟩ := htb.out.rows c (by have := hgs.out; omega)
        generalize gs[c]'(by have := hgs.out; omega) = g at *
        have i1 : (la.length : Int) - 1 - (c : Int) = (x : Int) := by omega
        have i4 : (x : Int) < (la.length : Int) := by omega
        unfold rowVal at f8
        have hb1w : b1 < w.heap.size := by
          obtain ⟨_, _, e, hb, _⟩ := HA.out.at_ (k := x) (by rw [toBs_len]; omega)
          cases e; exact hb
        have hdr : la.drop x = la[x]'(by omega) :: la.drop (x + 1) := List.drop_eq_getElem_cons (by omega)
        have hcc : la.length - gs.length = x := by have := hgs.out; omega
        have hcc2 : la.length - c = x + 1 := by omega
        rw [hcc2] at f9
        have CR : Hid (∀ wx : World, wx.heap = wr.heap → Below wr.heap.size wr wx → Calls Try.prog 36 #[.string (toB (la[x]'(by omega))), .slice (some ⟨g, 0, none⟩) (lc.length + 1) (lc.length + 1), .slice A2 lc.length cap2] wx fun e w' => e = .returned (.slice (some ⟨wr.heap.size, 0, none⟩) (lc.length + 1) (lc.length + 1)) ∧
            (w'.cell? ⟨w.heap.size + 1 + 1 + 1, 0, none⟩ = some (.slice (some ⟨w.heap.size + 1 + 1, 0, none⟩) (la.length + 1) (la.length + 1)) ∧ w'.cell? ⟨w.heap.size + 1, 0, none⟩ = some (.slice A2 lc.length cap2) ∧ w'.cell? ⟨w.heap.size, 0, none⟩ = some (.slice (some ⟨b1, o1, none⟩) la.length cap) ∧ w'.cell? ⟨b1, o1 + x, none⟩ = some (.string (toB (la[x]'(by omega)))) ∧ w'.cell? ⟨w.heap.size + 1 + 1, c, none⟩ = some (.slice (some ⟨g, 0, none⟩) (lc.length + 1) (lc.length + 1))) ∧ w'.cell? ⟨w.heap.size + 1 + 1, c + 1, none⟩ = some (.slice none 0 0) ∧ w'.frozen? ⟨w.heap.size + 1 + 1, c + 1, none⟩ = false ∧
            Hid (IntsAt w' wr.heap.size (rowR (la.drop (la.length - gs.length)) lc) ∧ Below wr.heap.size wr w')) := by
          intro wx hwx hbx
          have hsz : wx.heap.size = wr.heap.size := by rw [hwx]
          have hh := row_any (la[x]'(by omega)) (la.drop (x + 1)) lc g A2 cap2 wx (by unfold IntsAt at f9 ⊢; rw [hwx]; exact f9) (by have := HC.out.on hb; unfold Strs World.cell? at this ⊢; rw [hwx]; exact this) hn2
          rw [← hdr, hsz] at hh
          refine hh.mono ?_
          rintro e w' ⟨h1, h2, h3⟩
          have hbb := hbx.trans h3
          refine ⟨h1, ⟨(hbb.cell (p := ⟨_, _, none⟩) f7).trans f1, (hbb.cell (p := ⟨_, _, none⟩) (by show _ + 1 < _; omega)).trans f2, (hbb.cell (p := ⟨_, _, none⟩) (by show w.heap.size < _; omega)).trans f6, (hbb.cell (p := ⟨_, _, none⟩) hb1).trans k1, (hbb.cell (p := ⟨_, _, none⟩) f5).trans f8⟩, (hbb.cell (p := ⟨_, _, none⟩) f5).trans f3, ?_, ?_, hbb⟩
          · rw [← f4]
            simp only [World.frozen?, hbb.block _ f5]
          · rw [hcc]; exact h2
        generalize toB (la[x]'(by omega)) = str at *
        clear e1 f9 hx hdr hcc hcc2
        go_wp2_with fail
        have q1 : IntKind.i64.wrap ((c : Int) + 1) = (c : Int) + 1 := IntWalk.i64_in _ (by omega)
        have q2 : 0 ≤ (c : Int) + 1 := by omega
        have q3 : ((c : Int) + 1).toNat = c + 1 := by omega
        have q4 : (c : Int) + 1 < (la.length : Int) + 1 := by omega
        have q5 : c < la.length + 1 := by omega
        have q7 : (0 : Int) ≤ (c : Int) := by omega
        have q8 : (c : Int) < (la.length : Int) + 1 := by omega
        have q9 : (0 : Int) ≤ (x : Int) := by omega
        have p1 : IntKind.i64.wrap ((la.length : Int) - 1) = (la.length : Int) - 1 := IntWalk.i64_in _ (by omega)
        have p2 : IntKind.i64.wrap ((la.length : Int) - 1 - (c : Int)) = (x : Int) := (IntWalk.i64_in _ (by omega)).trans i1
        have p3 : IntKind.i64.wrap (x : Int) = (x : Int) := IntWalk.i64_in _ (by omega)
        have p4 : x < la.length := by omega
        have q6 : c + 1 < la.length + 1 := by omega
        go_region_held3 (fun w' => (w'.cell? ⟨w.heap.size + 1 + 1 + 1, 0, none⟩ = some (.slice (some ⟨w.heap.size + 1 + 1, 0, none⟩) (la.length + 1) (la.length + 1)) ∧ w'.cell? ⟨w.heap.size + 1, 0, none⟩ = some (.slice A2 lc.length cap2) ∧ w'.cell? ⟨w.heap.size, 0, none⟩ = some (.slice (some ⟨b1, o1, none⟩) la.length cap) ∧ w'.cell? ⟨b1, o1 + x, none⟩ = some (.string str) ∧ w'.cell? ⟨w.heap.size + 1 + 1, c, none⟩ = some (.slice (some ⟨g, 0, none⟩) (lc.length + 1) (lc.length + 1)))) (first | (go_keep; done) | (exact tab_keep j1 j2 j3 j4 j5 hb1w _)) (first | (go_at_call 36; refine (CR.out _ (by rfl) (by first | exact Below.refl _ _ | exact (Below.refl _ _).drew | exact below_drewN (Below.refl _ _) _)).mono ?_; rintro e w1 ⟨rfl, ⟨j1, j2, j3, j4, j5⟩, j6, j7, j8⟩))
        go_wp2
        go_roundw
        case rel =>
          have hnew := htb.out.set j8.out.2 (Nat.le_refl _) j8.out.1 (by have := hgs.out; omega)
          rw [hgs.out] at hnew
          exact ⟨c + 1, gs ++ [wr.heap.size], by omega, by go_num, by show (gs ++ [_]).length = _; rw [List.length_append, hgs.out]; rfl, hnew⟩
        case measure => simp [intOf]; omega
      · obtain rfl : c = la.length := by omega
        go_wp2
        go_ret
        exact ⟨_, rfl, htb.out.tails hgs.out, hb⟩)
end Go.Proofs.Ytmffmhadimeplaa
