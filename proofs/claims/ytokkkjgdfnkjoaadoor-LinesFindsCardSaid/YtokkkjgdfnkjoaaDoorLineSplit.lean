
/- lines.Split: lines are cut off by a closure over what is left. -/
import Derived.Test.YtokkkjgdfnkjoaaDoorLineCut
import Derived.Test.YtokkkjgdfnkjoaaDoorLineRight
namespace Go.Proofs.YtokkkjgdfnkjoaaDoor
open Go.RowKit
set_option linter.unusedVariables false

/-- What is left of the text lies in block g. -/
def Left (w : World) (g : Nat) (r : List UInt8) : Prop := w.heap[g]? = some (.cells #[.string (toB r)] 9 (0, 0))
section
variable {w w' : World} {g : Nat} {r : List UInt8}
theorem Left.c (h : Left w g r) : w.cell? ⟨g, 0, none⟩ = some (.string (toB r)) := (cell_of_row w g 0 _ _ _ h).trans rfl
theorem Left.f (h : Left w g r) : w.frozen? ⟨g, 0, none⟩ = false := by
  unfold Left at h
  simp [World.frozen?, h]
theorem Left.lt (h : Left w g r) : g < w.heap.size := (Array.getElem?_eq_some_iff.1 h).1
theorem Left.set (h : Left w g r) (r' : List UInt8) : Left (w.setCell ⟨g, 0, none⟩ (.string (toB r'))) g r' := by
  unfold Left at h ⊢
  simp [World.setCell, Array.getElem?_modify, h]
theorem Left.drewN (h : Left w g r) (n : Nat) : Left (w.drewN n) g r := h
theorem Left.grown {row : Option Nat} (h : Left w g r) (hg : w.grownBy w' row) (hr : row ≠ some g) : Left w' g r := (hg.block g h.lt (fun e => hr e.symm)).trans h
end
theorem drewN_setCell (w : World) (n g : Nat) (v : Value) : w.grownBy ((w.drewN n).setCell ⟨g, 0, none⟩ v) (some g) :=
  ⟨rfl, rfl, rfl, by simp [World.setCell], fun k _ hne => Below.heap_setCell (w.drewN n) _ v k (fun e => hne (by simp [e]))⟩

set_option maxRecDepth 100000 in
theorem next_yes (g : Nat) (a b : List UInt8) (w : World) (hL : Left w g (a ++ 10 :: b)) (h : (10 : UInt8) ∉ a) (hz : (toB (a ++ 10 :: b)).size ≤ 1000000) :
    Calls Tryd.prog 42 #[.pointer (some ⟨g, 0, none⟩)] w fun e w' => e = .returned (.tuple #[.string (toB a), .bool true]) ∧ Left w' g b ∧ w.grownBy w' (some g) := by
  have HC := Lib.hid (cut_yes a b w h hz)
  have hc := hL.c
  have hf := hL.f
  have HL := Lib.hid hL
  clear h hL hz
  generalize toB (a ++ 10 :: b) = s at *
  go_enter Tryd.func42, Tryd.ntmps42
  go_wp2_with fail
  refine HC.out.mono ?_
  rintro e w' ⟨rfl, n, rfl⟩
  go_wp2
  go_ret2
  exact ⟨rfl, (HL.out.drewN n).set b, drewN_setCell w n g _⟩
set_option maxRecDepth 100000 in
theorem next_no (g : Nat) (r : List UInt8) (w : World) (hL : Left w g r) (h : (10 : UInt8) ∉ r) :
    Calls Tryd.prog 42 #[.pointer (some ⟨g, 0, none⟩)] w fun e w' => e = .returned (.tuple #[.string (toB r), .bool false]) ∧ w.grownBy w' (some g) := by
  have HC := Lib.hid (cut_no r w h)
  have hc := hL.c
  have hf := hL.f
  have HL := Lib.hid hL
  clear h hL
  go_enter Tryd.func42, Tryd.ntmps42
  go_wp2_with fail
  refine HC.out.mono ?_
  rintro e w' ⟨rfl, rfl⟩
  go_wp2
  go_ret2
  exact ⟨rfl, drewN_setCell _ 0 g _⟩

theorem cutter_any (s : ByteArray) (w : World) :
    Calls Tryd.prog 27 #[.string s] w fun e w' => e = .returned (.func (Fn.func 42) #[] #[.pointer (some ⟨w.heap.size, 0, none⟩)]) ∧ Left w' w.heap.size s.data.toList ∧ Below w.heap.size w w' := by
  go_enter Tryd.func27, Tryd.ntmps27
  go_wp2
  go_ret
  refine ⟨rfl, ?_, (Below.refl _ w).alloc (Nat.le_refl _) _⟩
  unfold Left
  rw [toB_of]
  exact heap_alloc_new w _

/-- A row of strings and an error come back: the row, or none. -/
def Told (w : World) (ls : List (List UInt8)) (er : Int) (e : Ending) (w' : World) : Prop :=
  ∃ A cap l, e = .returned (.tuple #[.slice A (List.length (α := List UInt8) l) cap, .int .i64 er]) ∧ ((er = 0 → l = ls) ∧ (er ≠ 0 → l = [])) ∧ Room A l.length cap ∧ Strs w' w'.heap.size A (toBs l) ∧ Below w.heap.size w w'

set_option maxRecDepth 100000 in
theorem checked_any (A : Option Addr) (ls : List (List UInt8)) (cap : Nat) (w : World) (hA : Room A ls.length cap) (hs : Strs w w.heap.size A (toBs ls)) (hn : ls.length ≤ 1000000) (hz : ∀ s ∈ toBs ls, s.size ≤ 9223372036854775807) (hT : Tabs w) :
    Calls Tryd.prog 28 #[.slice A ls.length cap] w (Told w ls (checkN (toBs ls))) := by
  have h := lcheck_any A (toBs ls) cap w hs (by rw [toBs_len]; omega) hz hT
  rw [toBs_len] at h
  have HC := Lib.hid h
  have HS := Lib.hid hs
  have HA := Lib.hid hA
  clear h hs hz hT hA
  by_cases h0 : checkN (toBs ls) = 0
  · rw [h0] at HC ⊢
    clear h0
    go_enter Tryd.func28, Tryd.ntmps28
    go_wp2_with fail
    refine HC.out.mono ?_
    rintro e w1 ⟨rfl, hb⟩
    go_wp2
    go_ret2
    exact ⟨A, cap, ls, rfl, ⟨fun _ => rfl, fun h => absurd rfl h⟩, HA.out, HS.out.on hb, hb⟩
  · have hne : (checkN (toBs ls) != 0) = true := by rw [bne_iff_ne]; exact h0
    have H0 := Lib.hid h0
    clear h0
    generalize checkN (toBs ls) = er at *
    go_enter Tryd.func28, Tryd.ntmps28
    go_wp2_with fail
    refine HC.out.mono ?_
    rintro e w1 ⟨rfl, hb⟩
    go_wp2
    go_ret2
    exact ⟨none, 0, [], rfl, ⟨fun e => absurd e H0.out, fun _ => rfl⟩, ⟨fun _ => rfl, Nat.le_refl _⟩, fun h => absurd h (by simp [toBs]), hb⟩

/-- The error of a text's lines. -/
def splitE (s : ByteArray) : Int := if (splitGo [] s.data.toList).2 then checkN (toBs (splitGo [] s.data.toList).1) else 6
theorem Told.lift {w w1 w' : World} {ls ls2 : List (List UInt8)} {er : Int} {e : Ending} (h : Told w1 ls er e w') (hb : Below w.heap.size w w1) (hl : er = 0 → ls = ls2) : Told w ls2 er e w' := by
  obtain ⟨A, cap, l, rfl, he, hA, hs, hb2⟩ := h
  exact ⟨A, cap, l, rfl, ⟨fun h => (he.1 h).trans (hl h), he.2⟩, hA, hs, hb.trans (hb2.mono hb.size)⟩
theorem told_none (w w' : World) (ls : List (List UInt8)) (er : Int) (h : er ≠ 0) (hb : Below w.heap.size w w') : Told w ls er (.returned (.tuple #[.slice none 0 0, .int .i64 er])) w' :=
  ⟨none, 0, [], rfl, ⟨fun e => absurd e h, fun _ => rfl⟩, ⟨fun _ => rfl, Nat.le_refl _⟩, fun h => absurd h (by simp [toBs]), hb⟩
theorem sizes_ok {ls : List (List UInt8)} (h : ∀ x ∈ ls, x.length ≤ 1000000) : ∀ x ∈ toBs ls, x.size ≤ 9223372036854775807 := by
  intro x hx
  obtain ⟨y, hy, rfl⟩ := List.mem_map.1 hx
  rw [toB_size]
  have := h y hy
  omega
def lenOf : Value → Nat
  | .slice _ n _ => n
  | _ => 0
theorem split_no : ∀ (r cur : List UInt8), (10 : UInt8) ∉ r → (splitGo cur r).1 = []
  | [], _, _ => rfl
  | b :: r, cur, h => by
    have hb : b ≠ 10 := fun e => h (by simp [e])
    rw [splitGo, if_neg hb]
    exact split_no r _ fun hm => h (List.mem_cons_of_mem _ hm)
theorem splitE_bad {s : ByteArray} (h0 : s.data.toList ≠ []) (h : Lib.hasSuffix s.data.toList [10] = false) : splitE s = 6 := by
  have := split_suffix s.data.toList []
  rw [if_neg h0, h] at this
  simp [splitE, this]
theorem splitE_good {s : ByteArray} (h : s.data.toList = [] ∨ Lib.hasSuffix s.data.toList [10] = true) : splitE s = checkN (toBs (splitGo [] s.data.toList).1) := by
  have := split_suffix s.data.toList []
  have h2 : (splitGo [] s.data.toList).2 = true := by
    rw [this]
    rcases h with h | h
    · rw [h]; rfl
    · split
      · rfl
      · exact h
  simp [splitE, h2]

set_option maxHeartbeats 1000000 in
set_option maxRecDepth 100000 in
theorem lsplit_any (s : ByteArray) (w : World) (hs : s.size ≤ 1000000) (hT : Tabs w) :
    Calls Tryd.prog 13 #[.string s] w (Told w (splitGo [] s.data.toList).1 (splitE s)) := by
  have HX := Lib.hid (suffix_any s w (by omega))
  by_cases hbad : s.data.toList ≠ [] ∧ Lib.hasSuffix s.data.toList [10] = false
  · obtain ⟨h0, h1⟩ := hbad
    rw [h1] at HX
    rw [splitE_bad h0 h1]
    have q1 : s.toList ≠ [] := by rw [toList_eq]; exact h0
    have q2 : (!s.toList.isEmpty) = true := by simpa using q1
    clear h1 hT h0
    go_enter Tryd.func13, Tryd.ntmps13
    go_wp2_with (go_at_call 26; refine HX.out.mono ?_; rintro e w1 ⟨rfl, rfl⟩)
    go_ret2
    exact told_none _ _ _ _ (by decide) (Below.refl _ _)
  · have hor : s.data.toList = [] ∨ Lib.hasSuffix s.data.toList [10] = true := by
      by_cases h0 : s.data.toList = []
      · exact .inl h0
      · right
        cases h1 : Lib.hasSuffix s.data.toList [10] with
        | true => rfl
        | false => exact absurd ⟨h0, h1⟩ hbad
    rw [splitE_good hor]
    clear hbad
    have HT := Lib.hid hT
    clear hT
    have hl0 : Hid (s.data.toList.length ≤ 1000000) := by show _ ≤ _; simpa using hs
    by_cases h0 : s.data.toList = []
    have q1 : s.toList = [] := by rw [toList_eq]; exact h0
    have q2 : (!s.toList.isEmpty) = false := by simpa using q1
    have q3 := Lib.hid h0
    clear hor h0
    go_enter Tryd.func13, Tryd.ntmps13
    go_wp2_with (go_at_call 26; refine HX.out.mono ?_; rintro e w1 ⟨rfl, rfl⟩)
    rotate_left
    have h1 : Lib.hasSuffix s.data.toList [10] = true := by
      rcases hor with h | h
      · exact absurd h h0
      · exact h
    rw [h1] at HX
    have q1 : s.toList ≠ [] := by rw [toList_eq]; exact h0
    have q2 : (!s.toList.isEmpty) = true := by simpa using q1
    have q3 := Lib.hid h0
    clear hor h0 h1
    go_enter Tryd.func13, Tryd.ntmps13
    go_wp2_with (go_at_call 26; refine HX.out.mono ?_; rintro e w1 ⟨rfl, rfl⟩)
    all_goals
      refine (cutter_any s w).mono ?_
      rintro e w2 ⟨rfl, hL, hb⟩
      have HL := Lib.hid hL
      clear hL
      go_wp2
      go_loopw [4] (fun v wr => ∃ (ls : List (List UInt8)) (r : List UInt8), Hid (OwnS wr (w.heap.size + 1) v ls) ∧ ls.length ≤ 2001 ∧ Hid (Left wr w.heap.size r) ∧ Hid (splitGo [] s.data.toList = aheadS ls (splitGo [] r)) ∧ Hid (∀ x ∈ ls, x.length ≤ 1000000) ∧ Hid (r.length ≤ 1000000) ∧ Below w.heap.size w wr) (fun v _ => 2001 - lenOf v)
      case atStart => exact ⟨[], s.data.toList, OwnS.nil _ _, by simp, HL.out, by show _ = _; simp [aheadS], fun x hx => (by cases hx), hl0, hb⟩
      case round =>
        obtain ⟨ls, r, hown, hls, hleft, heq, hall, hr, hb2⟩ := hrel
        clear HL
        obtain ⟨A, cap, rfl, hstr, hcap, hnil⟩ := hown.out.strs
        have hB := hb2.size
        have hg := hleft.out.lt
        by_cases hlt : ls.length ≤ 2000
        · rcases idx_cases r with ⟨_, hno⟩ | ⟨a, b, hab, hna, _⟩
          · have HN := Lib.hid (next_no w.heap.size r wr hleft.out hno)
            have hfin : Hid (ls = (splitGo [] s.data.toList).1) := by
              show _ = _
              rw [heq.out]
              simp [aheadS, split_no r [] hno]
            have hz := Lib.hid (sizes_ok hall.out)
            have hne := hown.out.ne (g := w.heap.size) (by omega)
            clear heq hall hstr hnil hno hcap
            go_wp2_with fail
            refine HN.out.mono ?_
            rintro e w3 ⟨rfl, hg3⟩
            have hb3 := below_grown hb2 hg3 (Nat.le_refl _)
            have ho3 : OwnS w3 (w.heap.size + 1) (.slice A ls.length cap) ls := World.ownsRow.kept hown.out hg3 (.inr hne)
            obtain ⟨hs3, hn3, _⟩ := ho3.at_
            have HS3 := Lib.hid hs3
            have HN3 := Lib.hid hn3
            clear hs3 hn3 ho3 hg3 hne hown HN
            go_wp2_with fail
            refine (checked_any A ls cap w3 HN3.out HS3.out (by omega) hz.out (HT.out.on hb3)).mono ?_
            rintro e w4 h4
            have h5 := h4.lift hb3 (fun _ => rfl)
            rw [hfin.out] at h5
            obtain ⟨A4, cap4, l4, rfl, hl4, hA4, hs4, hb4⟩ := h5
            have HL4 := Lib.hid hl4
            have H4 := Lib.hid hs4
            have HA4 := Lib.hid hA4
            clear hs4 hA4 h4 hfin hl4
            go_wp2
            go_ret2
            exact ⟨A4, cap4, l4, rfl, HL4.out, HA4.out, H4.out, hb4⟩
          · subst hab
            have HN := Lib.hid (next_yes w.heap.size a b wr hleft.out hna (by rw [toB_size]; exact hr.out))
            have hne := hown.out.ne (g := w.heap.size) (by omega)
            have hnew : Hid (splitGo [] s.data.toList = aheadS (ls ++ [a]) (splitGo [] b)) := by
              show _ = _
              rw [heq.out, splitGo_line a [] b hna]
              simp [aheadS]
            have hall2 : Hid (∀ x ∈ ls ++ [a], x.length ≤ 1000000) := by
              intro x hx
              rcases List.mem_append.1 hx with h | h
              · exact hall.out x h
              · have := hr.out
                simp at h this
                rw [h]; omega
            have hr2 : Hid (b.length ≤ 1000000) := by
              have := hr.out
              simp at this
              show _ ≤ _
              omega
            have hlen2 : ls.length + [a].length ≤ 1000000 := by simp; omega
            clear heq hall hstr hnil hna hr
            go_wp2_with fail
            refine HN.out.mono ?_
            rintro e w3 ⟨rfl, hl3, hg3⟩
            have hb3 := below_grown hb2 hg3 (Nat.le_refl _)
            have hB3 := hg3.size
            have hL3 := Lib.hid hl3
            have HO3 : Hid (OwnS w3 (w.heap.size + 1) (.slice A ls.length cap) ls) := World.ownsRow.kept hown.out hg3 (.inr hne)
            clear hl3 hg3 hown HN hleft
            go_wp2_with (at_builtin; refine wpList_append_row rfl _ _ rfl (w.heap.size + 1) _ ls [a] rfl ?_ (some ⟨w3.heap.size, 0, none⟩) 1 1 rfl rfl (fun e => by cases e) ?_ ?_ hlen2 (ls.length + 1) (by simp) ?_)
            · exact World.ownsRow.alloc HO3.out _
            · have := strs_one w3 (toB a)
              rw [of_toB] at this
              exact this
            · simp; omega
            intro A4 cap4 w4 ho4 hs4 hg4
            have HO4 := Lib.hid ho4
            have hL4 : Hid (Left w4 w.heap.size b) := by
              refine Left.grown (w := w3.alloc (.cells #[.string (toB a)] 9)) ?_ hg4 hne
              exact (Below.heap_alloc w3 _ w.heap.size hL3.out.lt).trans hL3.out
            have hb4 : Below w.heap.size w w4 := by
              refine (hb3.alloc hb3.size _).grown hg4 (Nat.le_trans hb3.size (by simp)) fun k hk => ?_
              have := ownBlock_ge HO3.out k hk
              omega
            clear ho4 hs4 hg4 HO3 hL3
            go_wp2
            go_roundw
            case rel => exact ⟨ls ++ [a], b, HO4.out, by simp; omega, hL4.out, hnew, hall2.out, hr2.out, hb4⟩
            case measure => simp [lenOf]; omega
        · have hbig : Hid (checkN (toBs ls) = 4) := checkN_big (by rw [toBs_len]; omega)
          have hbig2 : Hid (checkN (toBs (splitGo [] s.data.toList).1) = 4) := by
            refine checkN_big ?_
            rw [toBs_len, heq.out]
            simp [aheadS]
            omega
          have hz := Lib.hid (sizes_ok hall.out)
          obtain ⟨hs3, hn3, _⟩ := hown.out.at_
          have HS3 := Lib.hid hs3
          have HN3 := Lib.hid hn3
          clear heq hall hstr hnil hcap hs3 hn3 hown
          go_wp2_with fail
          refine (checked_any A ls cap wr HN3.out HS3.out (by omega) hz.out (HT.out.on hb2)).mono ?_
          rintro e w4 h4
          rw [hbig.out] at h4
          have h5 := h4.lift (ls2 := (splitGo [] s.data.toList).1) hb2 (fun e => by cases e)
          obtain ⟨A4, cap4, l4, rfl, hl4, hA4, hs4, hb4⟩ := h5
          have HL4 := Lib.hid hl4
          have H4 := Lib.hid hs4
          have HA4 := Lib.hid hA4
          clear hs4 hA4 h4 hbig hl4
          go_wp2
          go_ret2
          rw [hbig2.out]
          exact ⟨A4, cap4, l4, rfl, HL4.out, HA4.out, H4.out, hb4⟩
end Go.Proofs.YtokkkjgdfnkjoaaDoor
