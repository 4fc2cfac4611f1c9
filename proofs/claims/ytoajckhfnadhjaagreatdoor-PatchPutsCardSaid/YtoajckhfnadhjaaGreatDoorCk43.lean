/- A text's set in name.Set; a search in it. -/
import Derived.Sort.OwnSorted
import Derived.Deep.LoopGhost
import Derived.Deep.QuietTactic
import Derived.Test.YtoajckhfnadhjaaGreatDoorShelf
import Derived.Test.YtoajckhfnadhjaaGreatDoorCk01
namespace Go.Proofs.YtoajckhfnadhjaaGreatDoor
open Go.RowKit Go.Sort
set_option linter.unusedVariables false

/-- What Set leaves. -/
def SetLeft (w : World) (ls : List (List UInt8)) (e : Ending) (w' : World) : Prop :=
  ∃ v, e = .returned v ∧ OwnS w' w.heap.size v (setS ls) ∧ Below w.heap.size w w'

theorem setLeft_of {w w1 : World} {g cap n nn q : Nat} {os : Array Obj} {ss : List (List UInt8)} (hown : w1.ownsRow w.heap.size 9 1 (.slice (some ⟨g, 0, none⟩) n cap) n (ss.map encStr)) (hbel : Below w.heap.size w w1) (hbg : w.heap.size ≤ g) (hlen : ss.length = n) :
    SetLeft w ss (.returned (.slice (some ⟨g, 0, none⟩) (Lib.compact (ss.mergeSort fun x y => decide (x ≤ y))).length cap))
      (putRow encStr (Sort.ahead (grow (putRow encStr (Sort.ahead w1 nn) g 0 (ss.mergeSort fun x y => decide (x ≤ y)).toArray) os) q) g 0 (Lib.compact (ss.mergeSort fun x y => decide (x ≤ y)) ++ List.replicate (n - (Lib.compact (ss.mergeSort fun x y => decide (x ≤ y))).length) []).toArray) := by
  have hl2 : (ss.mergeSort fun x y => decide (x ≤ y)).length = ss.length := List.length_mergeSort ss
  have hle := Lib.compact_length_le (ss.mergeSort fun x y => decide (x ≤ y))
  subst hlen
  rcases hown.2 with ⟨h0, _⟩ | ⟨g', cap', cur, hv, hbase, hb, h1, h2, h3, h4⟩
  · cases h0
  cases hv
  have hs := ownsRow_sorted (n := nn) (os := os) (ts := ss.mergeSort fun x y => decide (x ≤ y)) hl2 hbase hb h1 h2 h3
  have hc := Lib.ownsRow_putRow (q := q) (k := (Lib.compact (ss.mergeSort fun x y => decide (x ≤ y))).length) (ys := Lib.compact (ss.mergeSort fun x y => decide (x ≤ y)) ++ List.replicate (ss.length - (Lib.compact (ss.mergeSort fun x y => decide (x ≤ y))).length) []) hs (by simp; omega) (by omega)
  rw [List.take_left] at hc
  refine ⟨_, rfl, ?_, Lib.below_putRow (hbel.grown (grownBy_sorted _) hbel.size (fun j hj => by cases hj; exact hbase)) hbg⟩
  unfold OwnS
  rw [← compact_sorted]
  exact hc

set_option maxHeartbeats 2000000 in
set_option maxRecDepth 100000 in
theorem set_tail (n : Nat) (arg : Value) (ss : List (List UInt8)) (w : World) (hn : n ≤ 4611686018427387903)
    (hclone : Calls Tryz.prog 37 #[arg] w fun e w' => ∃ v', e = .returned v' ∧ w'.ownsRow w.heap.size 9 1 v' n (ss.map encStr) ∧ v' ≠ .slice none 0 0 ∧ Below w.heap.size w w') :
    Calls Tryz.prog 66 #[arg] w (SetLeft w ss) := by
  go_enter Tryz.func66, Tryz.ntmps66
  go_wp2_with (first
    | (go_at_call 37; refine hclone.mono ?_; rintro e w1 ⟨v1, rfl, hown, hnn, hbel⟩
       obtain ⟨g, cap, rfl, hbg, hgl, hncap, hcm, hlen, hH⟩ := Lib.holds_of_ownsRow hown hnn
       have hsort := Tryz.slices_Sort_string g 0 cap ss w1 hH hgl (by omega)
       rw [hlen] at hsort
       have X : Aside (w1.ownsRow w.heap.size 9 1 (.slice (some ⟨g, 0, none⟩) n cap) n (ss.map encStr) ∧ Below w.heap.size w w1 ∧ w.heap.size ≤ g ∧ g < w1.heap.size ∧ n ≤ cap ∧ cap ≤ maxLen ∧ ss.length = n ∧ Holds encStr w1 g 0 ss.toArray) := ⟨hown, hbel, hbg, hgl, hncap, hcm, hlen, hH⟩
       clear hown hbel hH hnn)
    | (go_at_call 94; refine hsort.mono ?_; rintro e w2 ⟨rfl, nn, os, rfl⟩
       have hl2 : (ss.mergeSort fun x y => decide (x ≤ y)).length = n := by rw [List.length_mergeSort]; exact X.out.2.2.2.2.2.2.1
       have hH2 : Holds encStr (grow (putRow encStr (Sort.ahead w1 nn) g 0 (ss.mergeSort fun x y => decide (x ≤ y)).toArray) os) g 0 (ss.mergeSort fun x y => decide (x ≤ y)).toArray :=
         holds_grow encStr _ os g 0 _ (by simpa [putRow, mapBlock, Sort.ahead] using X.out.2.2.2.1) (holds_putRow encStr _ g 0 _ _ (holds_ahead encStr w1 nn g 0 _ X.out.2.2.2.2.2.2.2) (by simp))
       have hcomp := Tryz.slices_Compact_string g 0 cap (ss.mergeSort fun x y => decide (x ≤ y)) _ hH2 (by omega) (by have := X.out.2.2.2.2.1; omega)
       rw [hl2] at hcomp
       clear hH2 hsort)
    | (go_at_call 95; refine hcomp.mono ?_; rintro e w3 ⟨rfl, q, rfl⟩))
  go_ret
  exact setLeft_of X.out.1 X.out.2.1 X.out.2.2.1 X.out.2.2.2.2.2.2.1

set_option maxHeartbeats 2000000 in
theorem set_nil (n c : Nat) (w : World) :
    Calls Tryz.prog 66 #[.slice none n c] w fun e w' => e = .returned (.slice none 0 0) ∧ w' = w := by
  go_enter Tryz.func66, Tryz.ntmps66
  go_wp2_with (first
    | (go_at_call 37; refine (Tryz.slices_Clone_string_nil n c _).mono ?_; rintro e w' ⟨rfl, rfl⟩)
    | (go_at_call 94; refine (Tryz.slices_Sort_string_none none 0 _).mono ?_; rintro e w' ⟨rfl, rfl⟩)
    | (go_at_call 95; refine (Tryz.slices_Compact_string_empty none 0 _).mono ?_; rintro e w' ⟨rfl, rfl⟩))
  go_ret
  exact ⟨rfl, rfl⟩

theorem set_any (A : Option Addr) (ss : List ByteArray) (cap : Nat) (w : World) (hs : Strs w w.heap.size A ss) (hn : ss.length ≤ 1000000) :
    Calls Tryz.prog 66 #[.slice A ss.length cap] w (SetLeft w (lists ss)) := by
  by_cases h0 : 0 < ss.length
  · obtain ⟨b, off, rfl, hb, hc⟩ := hs h0
    refine set_tail ss.length _ _ w (by omega) ((Tryz.slices_Clone_string b off ss.length cap ss w (Nat.le_refl _) (by omega) (fun j hj => by rw [hc j hj]; simp [List.getD_eq_getElem?_getD, List.getElem?_eq_getElem hj])).mono ?_)
    rintro e w' ⟨v', he, hown, hnn, hbel⟩
    refine ⟨v', he, ?_, hnn, hbel⟩
    rw [map_enc, List.take_of_length_le (Nat.le_refl _)] at *
    exact hown
  · obtain rfl : ss = [] := List.length_eq_zero_iff.1 (by omega)
    cases A with
    | none =>
      refine (set_nil 0 cap w).mono ?_
      rintro e w' ⟨rfl, rfl⟩
      exact ⟨_, rfl, OwnS.nil _ _, Below.refl _ _⟩
    | some a => exact set_tail 0 _ [] w (by omega) (Tryz.slices_Clone_string_zero a cap w)
end Go.Proofs.YtoajckhfnadhjaaGreatDoor
namespace Go.Proofs.YtoajckhfnadhjaaGreatDoor
open Go.RowKit Go.Sort
set_option linter.unusedVariables false

/-- The halving finds a text in a set just where it is there. -/
theorem search_spec (ls : List (List UInt8)) (hr : Rising ls) (x : ByteArray) (Sx : Nat → ByteArray) (hS : ∀ t, Sx t = if h : t < ls.length then toB ls[t] else x) :
    decide (Lib.bsGo (fun t => Op.bytesLess (Sx t).toList x.toList) ls.length 0 ls.length < ls.length ∧ Sx (Lib.bsGo (fun t => Op.bytesLess (Sx t).toList x.toList) ls.length 0 ls.length) = x) = decide (x.data.toList ∈ ls) := by
  have hget : ∀ i j (hi : i < ls.length) (hj : j < ls.length), i ≤ j → ls[i] ≤ ls[j] := by
    intro i j hi hj hij
    rcases Nat.lt_or_eq_of_le hij with h | h
    · exact List.le_of_lt (List.pairwise_iff_getElem.1 hr i j hi hj h)
    · subst h; exact List.le_refl _
  have hless : ∀ t, Op.bytesLess (Sx t).toList x.toList = decide (∃ h : t < ls.length, ls[t] < x.data.toList) := by
    intro t
    rw [bytesLess_eq, hS t, toList_eq, toList_eq]
    by_cases h : t < ls.length
    · simp [h, of_toB]
    · rw [dif_neg h, decide_eq_decide]
      exact ⟨fun hx => absurd hx (t_irrefl _), fun ⟨hx, _⟩ => absurd hx h⟩
  obtain ⟨k, hk⟩ : ∃ k, k = ls.findIdx (fun y => !decide (y < x.data.toList)) := ⟨_, rfl⟩
  have hkl : k ≤ ls.length := by rw [hk]; exact List.findIdx_le_length
  have h1 : ∀ t, t < k → ∃ h : t < ls.length, ls[t] < x.data.toList := by
    intro t ht
    have := List.not_of_lt_findIdx (p := fun y => !decide (y < x.data.toList)) (xs := ls) (i := t) (by omega)
    exact ⟨by omega, by simpa using this⟩
  have h2 : ∀ t (h : t < ls.length), k ≤ t → ¬ ls[t] < x.data.toList := by
    intro t h hkt hlt
    have hk2 : k < ls.length := by omega
    have := List.findIdx_getElem (p := fun y => !decide (y < x.data.toList)) (xs := ls) (w := by omega)
    simp only [← hk] at this
    have h3 : ¬ ls[k] < x.data.toList := by simpa using this
    exact h3 (t_le_trans (hget k t hk2 h hkt) hlt)
  have hbs : Lib.bsGo (fun t => Op.bytesLess (Sx t).toList x.toList) ls.length 0 ls.length = k := by
    refine Lib.bsGo_spec _ k ?_ ?_ _ 0 _ (by omega) (by omega) hkl
    · intro t ht
      show Op.bytesLess _ _ = true
      rw [hless, decide_eq_true_eq]
      exact h1 t ht
    · intro t ht
      show Op.bytesLess _ _ = false
      rw [hless, decide_eq_false_iff_not]
      rintro ⟨h, hlt⟩
      exact h2 t h ht hlt
  rw [hbs, decide_eq_decide]
  constructor
  · rintro ⟨h, he⟩
    rw [hS k, dif_pos h] at he
    rw [← he, of_toB]
    exact List.getElem_mem h
  · intro hm
    obtain ⟨i, hi, he⟩ := List.getElem_of_mem hm
    have hik : k ≤ i := by
      rcases Nat.lt_or_ge i k with h | h
      · obtain ⟨h', hlt⟩ := h1 i h
        rw [he] at hlt
        exact absurd hlt (t_irrefl _)
      · exact h
    have hk2 : k < ls.length := by omega
    have h3 := h2 k hk2 (Nat.le_refl _)
    have h4 := hget k i hk2 hi hik
    rw [he] at h4
    have h5 : ls[k] = x.data.toList := List.le_antisymm h4 (List.not_lt.1 h3)
    refine ⟨hk2, ?_⟩
    rw [hS k, dif_pos hk2, h5, toB_of]

/-- A variable (block B) holds a slice of a set; both lie in blocks from lo on, below hi. -/
def SetAt (w : World) (lo hi B : Nat) (ls : List (List UInt8)) : Prop :=
  lo ≤ B ∧ B < hi ∧ ∃ A cap, w.cell? ⟨B, 0, none⟩ = some (.slice A ls.length cap) ∧
    (0 < ls.length → ∃ b off, A = some ⟨b, off, none⟩ ∧ lo ≤ b ∧ b < hi ∧ ∀ j (h : j < ls.length), w.cell? ⟨b, off + j, none⟩ = some (.string (toB ls[j])))
theorem SetAt.other {w w' : World} {lo hi B : Nat} {ls : List (List UInt8)} (h : SetAt w lo hi B ls) (hk : ∀ i, lo ≤ i → i < hi → w'.heap[i]? = w.heap[i]?) : SetAt w' lo hi B ls := by
  obtain ⟨h1, h2, A, cap, hc, hr⟩ := h
  have hcell : ∀ b o, lo ≤ b → b < hi → w'.cell? ⟨b, o, none⟩ = w.cell? ⟨b, o, none⟩ := fun b o x y => by simp only [World.cell?, hk b x y]
  refine ⟨h1, h2, A, cap, by rw [hcell B 0 h1 h2]; exact hc, fun hp => ?_⟩
  obtain ⟨b, off, e, hb1, hb2, hcs⟩ := hr hp
  exact ⟨b, off, e, hb1, hb2, fun j hj => by rw [hcell b _ hb1 hb2]; exact hcs j hj⟩
theorem SetAt.below {w w' : World} {lo hi B : Nat} {ls : List (List UInt8)} (h : SetAt w lo hi B ls) (hb : Below w.heap.size w w') (hh : hi ≤ w.heap.size) : SetAt w' lo hi B ls :=
  h.other fun i _ hi2 => hb.block i (by omega)
end Go.Proofs.YtoajckhfnadhjaaGreatDoor
