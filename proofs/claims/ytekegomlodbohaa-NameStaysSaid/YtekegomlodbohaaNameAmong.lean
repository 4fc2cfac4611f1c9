/- name.among: a function that asks a set; slices.DeleteFunc over a row that the call owns. -/
import Derived.Test.YtekegomlodbohaaNameSet
namespace Go.Proofs.Ytekegomlodbohaa
open Go.RowKit Go.Sort
set_option linter.unusedVariables false

/-- The halving finds a text in a set just where it is there. -/
theorem search_spec (ls : List (List UInt8)) (hr : Rising ls) (x : ByteArray) (Sx : Nat → ByteArray) (hS : ∀ t, Sx t = if h : t < ls.length then toB ls[t] else x) :
    decide (Lib.bsGo (fun t => Op.bytesLess (Sx t).toList x.toList) ls.length 0 ls.length < ls.length ∧ Sx (Lib.bsGo (fun t => Op.bytesLess (Sx t).toList x.toList) ls.length 0 ls.length) = x) = decide (x.data.toList ∈ ls) := by
  have hget : ∀ i j (hi : i < ls.length) (hj : j < ls.length), i ≤ j → ls[i] ≤ ls[j] := by
    intro i j hi hj hij
    rcases Nat.lt_or_eq_of_le hij with h | h
    · exact List.le_of_lt (List.pairwise_iff_getElem.1 hr i j hi hj h)
    · subst h; exact List.le_refl _
  have hless : ∀ t, Op.bytesLess (Sx t).toList x.toList = decide (∃ h : t < ls.length, ls[t] < x.data.toList) := by
    intro t
    rw [bytesLess_eq, hS t, toList_eq, toList_eq]
    by_cases h : t < ls.length
    · simp [h, of_toB]
    · rw [dif_neg h, decide_eq_decide]
      exact ⟨fun hx => absurd hx (t_irrefl _), fun ⟨hx, _⟩ => absurd hx h⟩
  obtain ⟨k, hk⟩ : ∃ k, k = ls.findIdx (fun y => !decide (y < x.data.toList)) := ⟨_, rfl⟩
  have hkl : k ≤ ls.length := by rw [hk]; exact List.findIdx_le_length
  have h1 : ∀ t, t < k → ∃ h : t < ls.length, ls[t] < x.data.toList := by
    intro t ht
    have := List.not_of_lt_findIdx (p := fun y => !decide (y < x.data.toList)) (xs := ls) (i := t) (by omega)
    exact ⟨by omega, by simpa using this⟩
  have h2 : ∀ t (h : t < ls.length), k ≤ t → ¬ ls[t] < x.data.toList := by
    intro t h hkt hlt
    have hk2 : k < ls.length := by omega
    have := List.findIdx_getElem (p := fun y => !decide (y < x.data.toList)) (xs := ls) (w := by omega)
    simp only [← hk] at this
    have h3 : ¬ ls[k] < x.data.toList := by simpa using this
    exact h3 (t_le_trans (hget k t hk2 h hkt) hlt)
  have hbs : Lib.bsGo (fun t => Op.bytesLess (Sx t).toList x.toList) ls.length 0 ls.length = k := by
    refine Lib.bsGo_spec _ k ?_ ?_ _ 0 _ (by omega) (by omega) hkl
    · intro t ht
      show Op.bytesLess _ _ = true
      rw [hless, decide_eq_true_eq]
      exact h1 t ht
    · intro t ht
      show Op.bytesLess _ _ = false
      rw [hless, decide_eq_false_iff_not]
      rintro ⟨h, hlt⟩
      exact h2 t h ht hlt
  rw [hbs, decide_eq_decide]
  constructor
  · rintro ⟨h, he⟩
    rw [hS k, dif_pos h] at he
    rw [← he, of_toB]
    exact List.getElem_mem h
  · intro hm
    obtain ⟨i, hi, he⟩ := List.getElem_of_mem hm
    have hik : k ≤ i := by
      rcases Nat.lt_or_ge i k with h | h
      · obtain ⟨h', hlt⟩ := h1 i h
        rw [he] at hlt
        exact absurd hlt (t_irrefl _)
      · exact h
    have hk2 : k < ls.length := by omega
    have h3 := h2 k hk2 (Nat.le_refl _)
    have h4 := hget k i hk2 hi hik
    rw [he] at h4
    have h5 : ls[k] = x.data.toList := List.le_antisymm h4 (List.not_lt.1 h3)
    refine ⟨hk2, ?_⟩
    rw [hS k, dif_pos hk2, h5, toB_of]

/-- A variable (block B) holds a slice of a set; both lie in blocks from lo on, below hi. -/
def SetAt (w : World) (lo hi B : Nat) (ls : List (List UInt8)) : Prop :=
  lo ≤ B ∧ B < hi ∧ ∃ A cap, w.cell? ⟨B, 0, none⟩ = some (.slice A ls.length cap) ∧
    (0 < ls.length → ∃ b off, A = some ⟨b, off, none⟩ ∧ lo ≤ b ∧ b < hi ∧ ∀ j (h : j < ls.length), w.cell? ⟨b, off + j, none⟩ = some (.string (toB ls[j])))
theorem SetAt.other {w w' : World} {lo hi B : Nat} {ls : List (List UInt8)} (h : SetAt w lo hi B ls) (hk : ∀ i, lo ≤ i → i < hi → w'.heap[i]? = w.heap[i]?) : SetAt w' lo hi B ls := by
  obtain ⟨h1, h2, A, cap, hc, hr⟩ := h
  have hcell : ∀ b o, lo ≤ b → b < hi → w'.cell? ⟨b, o, none⟩ = w.cell? ⟨b, o, none⟩ := fun b o x y => by simp only [World.cell?, hk b x y]
  refine ⟨h1, h2, A, cap, by rw [hcell B 0 h1 h2]; exact hc, fun hp => ?_⟩
  obtain ⟨b, off, e, hb1, hb2, hcs⟩ := hr hp
  exact ⟨b, off, e, hb1, hb2, fun j hj => by rw [hcell b _ hb1 hb2]; exact hcs j hj⟩
theorem SetAt.below {w w' : World} {lo hi B : Nat} {ls : List (List UInt8)} (h : SetAt w lo hi B ls) (hb : Below w.heap.size w w') (hh : hi ≤ w.heap.size) : SetAt w' lo hi B ls :=
  h.other fun i _ hi2 => hb.block i (by omega)
theorem heap_sortWorld {α : Type} [Inhabited α] (enc : α → Value) (w : World) (blk off n i : Nat) (dk : Array α) (os : Array Obj) (hi : i < w.heap.size) (hne : i ≠ blk) : (sortWorld enc w blk off n dk os).heap[i]? = w.heap[i]? := by
  have h1 : (putRow enc (Sort.ahead w n) blk off dk).heap.size = w.heap.size := by rw [size_putRow]; rfl
  show ((putRow enc (Sort.ahead w n) blk off dk).heap ++ os)[i]? = _
  rw [Array.getElem?_append_left (by rw [h1]; exact hi)]
  simp [putRow, mapBlock, Sort.ahead, Array.getElem?_modify, Ne.symm hne]

set_option maxRecDepth 100000 in
theorem among1_gives (lo hi B : Nat) (ls : List (List UInt8)) (hr : Rising ls) (hn : ls.length ≤ 1000000) (x : ByteArray) (W : World) (h : SetAt W lo hi B ls) :
    Calls Try.prog 39 #[.string x, .pointer (some ⟨B, 0, none⟩)] W fun e w' => e = .returned (.bool (decide (x.data.toList ∈ ls))) ∧ ∃ q, w' = W.drewN q := by
  obtain ⟨_, _, A, cap, hc, hrow⟩ := h
  by_cases h0 : 0 < ls.length
  · obtain ⟨b, off, rfl, _, _, hcs⟩ := hrow h0
    obtain ⟨Sx, hS⟩ : ∃ Sx : Nat → ByteArray, ∀ t, Sx t = if h : t < ls.length then toB ls[t] else x := ⟨fun t => if h : t < ls.length then toB ls[t] else x, fun _ => rfl⟩
    have hsp := search_spec ls hr x Sx hS
    have hbs := Any2.slices_BinarySearch_string Try.laysBs b off ls.length cap Sx x W (by omega) (fun j hj => by rw [hcs j hj, hS j, dif_pos hj])
    change Calls _ 40 _ _ _ at hbs
    rw [hsp] at hbs
    generalize Lib.bsGo (fun t => Op.bytesLess (Sx t).toList x.toList) ls.length 0 ls.length = k at hbs
    generalize decide (x.data.toList ∈ ls) = r at *
    clear hsp hS hcs hrow
    go_enter Try.func39, Try.ntmps39
    go_wp2_with (go_at_call 40; refine hbs.mono ?_; rintro e w1 ⟨rfl, q, rfl⟩)
    go_ret
    exact ⟨rfl, q, rfl⟩
  · obtain rfl : ls = [] := List.length_eq_zero_iff.1 (by omega)
    have hbs := Any2.slices_BinarySearch_string_empty Try.laysBs A cap x W
    change Calls _ 40 _ _ _ at hbs
    go_enter Try.func39, Try.ntmps39
    go_wp2_with (go_at_call 40; refine hbs.mono ?_; rintro e w1 ⟨rfl, rfl⟩)
    go_ret
    exact ⟨by simp, 0, rfl⟩

theorem OwnS.setAt {w : World} {B lo hi C : Nat} {v : Value} {ls : List (List UInt8)} (h : OwnS w B v ls) (hB : lo ≤ B) (hh : w.heap.size ≤ hi) (h1 : lo ≤ C) (h2 : C < hi) (hc : w.cell? ⟨C, 0, none⟩ = some v) : SetAt w lo hi C ls := by
  have hlt := World.ownsRow.lt h
  obtain ⟨A, cap, rfl, hs, _, _⟩ := h.strs
  refine ⟨h1, h2, A, cap, hc, fun hp => ?_⟩
  obtain ⟨b, off, rfl, hb, hcs⟩ := hs (by rw [toBs_len]; exact hp)
  have hb2 := hlt b rfl
  exact ⟨b, off, rfl, by omega, by omega, fun j hj => by rw [hcs j (by rw [toBs_len]; exact hj)]; simp [toBs]⟩

/-- What among leaves. -/
def AmongLeft (w : World) (ls : List (List UInt8)) (e : Ending) (w' : World) : Prop :=
  ∃ B, e = .returned (.func (.func 39) #[] #[.pointer (some ⟨B, 0, none⟩)]) ∧ SetAt w' w.heap.size w'.heap.size B (setS ls) ∧ Below w.heap.size w w'
theorem amongLeft_of {w w1 : World} {v : Value} {ls : List (List UInt8)} (hown : OwnS w1 w.heap.size v (setS ls)) (hb : Below w.heap.size w w1) :
    AmongLeft w ls (.returned (.func (.func 39) #[] #[.pointer (some ⟨w1.heap.size, 0, none⟩)])) (w1.alloc (.cells #[v] 24)) := by
  have h2 : OwnS (w1.alloc (.cells #[v] 24)) w.heap.size v (setS ls) := World.ownsRow.alloc hown _
  exact ⟨_, rfl, h2.setAt (Nat.le_refl _) (Nat.le_refl _) hb.size (by simp) (by rw [World.cell?_alloc_new]; rfl), hb.alloc hb.size _⟩

set_option maxRecDepth 100000 in
theorem among_any (A : Option Addr) (ss : List ByteArray) (cap : Nat) (w : World) (hs : Strs w w.heap.size A ss) (hn : ss.length ≤ 1000000) :
    Calls Try.prog 29 #[.slice A ss.length cap] w (AmongLeft w (lists ss)) := by
  go_enter Try.func29, Try.ntmps29
  go_wp2_with fail
  refine (set_any _ _ _ _ hs hn).mono ?_
  rintro e w1 ⟨v, rfl, hown, hb⟩
  obtain ⟨A1, cap1, rfl, hs1, hm1, _⟩ := hown.strs
  have X : Aside (OwnS w1 w.heap.size (.slice A1 (setS (lists ss)).length cap1) (setS (lists ss)) ∧ Below w.heap.size w w1) := ⟨hown, hb⟩
  clear hown hb hs1 hs
  generalize hl : (setS (lists ss)).length = n at *
  go_wp2
  go_ret
  have := amongLeft_of X.out.1 X.out.2
  simpa using this
end Go.Proofs.Ytekegomlodbohaa
