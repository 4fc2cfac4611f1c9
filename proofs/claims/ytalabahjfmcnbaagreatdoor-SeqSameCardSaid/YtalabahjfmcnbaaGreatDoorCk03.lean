/- strings.Split at a slash: what it leaves is what stands between slashes. Package path's Split and Right: strings.Split at a slash, and slices.ContainsFunc of what is no name. Package path's within, Within, Move. Package tree's holds, room. The library's Grow and Concat over rows of files. Package tree's byPath; the library's BinarySearchFunc over it. Package tree's with. The reference's Do of layer 6. Trees, plainly: what a call answers, by what files say. Lines, plainly: which texts are lines; the text of lines; the lines of a text; where lines stand. The reference's Right, Check, Text, Split, At of layer 3. What a step says, and what is wrong with it. -/
import Derived.Shelf.Strings.Split
import Derived.BigQuiet
import Derived.Deep.QuietTactic
import Derived.Handy
import Derived.Test.YtalabahjfmcnbaaGreatDoorShelf
import Derived.Laws.Cover1
import Derived.Sort.OwnSorted
import Derived.Deep.RegionHeld3
import Derived.Deep.DrawnRows
import Derived.Lib.AppendZerosOnto
import Derived.Deep.RegionLaw
import Derived.Shelf.Spec.BytesIndexFunc
import Derived.Lib.LaidU8
import Derived.BigRegion
import Derived.Test.YtalabahjfmcnbaaGreatDoorCk02
namespace Go.Proofs.YtalabahjfmcnbaaGreatDoor
open Go.RowKit
set_option linter.unusedVariables false

theorem split_pieces : ∀ l : List UInt8, Lib.split l [47] = pieces l
  | [] => by
    unfold Lib.split
    rw [Lib.count_miss (by simp [Lib.index])]
    rfl
  | c :: l => by
    have ih := split_pieces l
    unfold Lib.split at ih ⊢
    by_cases h : c = 47
    · subst h
      have hix : Lib.index (47 :: l) [47] = ((0 : Nat) : Int) := by rw [Lib.index]; simp [List.isPrefixOf]
      rw [Lib.count_cons_eq, Nat.add_comm, Lib.splitK, hix, pieces, if_pos rfl]
      simp [ih]
    · have hp : ([47] : List UInt8).isPrefixOf (c :: l) = false := by simp [List.isPrefixOf, Ne.symm h]
      have hix : Lib.index (c :: l) [47] = if Lib.index l [47] == -1 then -1 else Lib.index l [47] + 1 := by rw [Lib.index, hp]; simp
      rw [Lib.count_cons_ne _ _ _ h, pieces, if_neg h, ← ih]
      by_cases hm : Lib.index l [47] = -1
      · rw [Lib.count_miss hm]
        rfl
      · have hge := Lib.index_ge l [47]
        obtain ⟨j, hj⟩ : ∃ j : Nat, Lib.index l [47] = j := ⟨(Lib.index l [47]).toNat, by omega⟩
        have hix' : Lib.index (c :: l) [47] = ((j + 1 : Nat) : Int) := by rw [hix, if_neg (fun e => hm (beq_iff_eq.1 e)), hj]; omega
        rw [Lib.count_hit (by simp) hj, Nat.add_comm 1, Lib.splitK, Lib.splitK, hix', hj]
        have n1 : ¬ (((j + 1 : Nat) : Int) == -1) = true := fun e => by have := beq_iff_eq.1 e; omega
        have n2 : ¬ (((j : Nat) : Int) == -1) = true := fun e => by have := beq_iff_eq.1 e; omega
        rw [if_neg n1, if_neg n2]
        simp
theorem split_bytes (s : ByteArray) : Lib.splitB ⟨#[47]⟩ 0 (Lib.countB s ⟨#[47]⟩) s = toBs (pieces s.data.toList) := by
  have h := Lib.splitB_data ⟨#[47]⟩ 0 (Lib.countB s ⟨#[47]⟩) s
  have e : lists (Lib.splitB ⟨#[47]⟩ 0 (Lib.countB s ⟨#[47]⟩) s) = pieces s.data.toList := by
    unfold lists
    rw [h, ← split_pieces]
    rfl
  rw [← e, toBs_lists]
theorem split_count (s : ByteArray) : Lib.countB s ⟨#[47]⟩ + 1 = (pieces s.data.toList).length := by
  have h := Lib.splitB_all ⟨#[47]⟩ (by decide) 0 _ s rfl
  rw [split_bytes, toBs_len] at h
  exact h.symm
open Go.Shelf in
set_option maxHeartbeats 1000000 in
theorem split_slash {P : Program} {ρ : Ren} (L : Lays.n146 P ρ) (hi9 : (P.info? (ρ.t 9)).map (fun i => (i.zero, i.size, i.bytes)) = some (some (.string ByteArray.empty), 1, 16)) (s : ByteArray) (w : World) (hs : s.size < 4294967281) :
    Calls P (ρ.f 146) #[.string s, .string ⟨#[47]⟩] w fun e w' => e = .returned (.slice (some ⟨w.heap.size, 0, none⟩) (pieces s.data.toList).length (pieces s.data.toList).length) ∧ w' = w.alloc (.cells ((toBs (pieces s.data.toList)).map Value.string).toArray (ρ.t 9)) := by
  have hle := Lib.countB_le ⟨#[47]⟩ (by decide) s.size s (Nat.le_refl _)
  have hI : ∀ (x : ByteArray) (c : Array Value), x.size ≤ s.size → Calls P (ρ.f 143) #[.string x, .string ⟨#[47]⟩] (w.alloc (.cells c (ρ.t 9))) fun e w' => e = .returned (.int .i64 (Lib.indexB x ⟨#[47]⟩)) ∧ w' = w.alloc (.cells c (ρ.t 9)) := fun x c _ => by
    have h := Any.strings_Index_one { L with } x 47 (w.alloc (.cells c (ρ.t 9)))
    rwa [← Lib.index_one] at h
  have hC : Calls P (ρ.f 138) #[.string s, .string ⟨#[47]⟩] w fun e w' => e = .returned (.int .i64 (Lib.countB s ⟨#[47]⟩)) ∧ w' = w := by
    have h := Any.strings_Count_one { L with } s 47 w
    unfold Lib.countByte at h
    rwa [← Lib.count_one] at h
  have c := Any.strings_genSplit_core { L with } hi9 s ⟨#[47]⟩ 0 (-1) (Lib.countB s ⟨#[47]⟩ + 1) w hs (by decide) (Nat.zero_le _) hI hC (by decide) (by decide) (by rw [if_pos (by decide)]; omega)
  rw [Nat.add_sub_cancel, split_bytes, toBs_len, split_count] at c
  have e2 : Lib.cellsOf (toBs (pieces s.data.toList)) (pieces s.data.toList).length = ((toBs (pieces s.data.toList)).map Value.string).toArray := by
    rw [← toBs_len (pieces s.data.toList)]
    exact Lib.cellsOf_full _
  rw [e2] at c
  clear e2 hI hC hle
  generalize ((toBs (pieces s.data.toList)).map Value.string).toArray = cs at *
  generalize (pieces s.data.toList).length = n at *
  have t3 := L.t3; have t9 := L.t9; have t31 := L.t31
  have a3 := L.a3; have a9 := L.a9; have a31 := L.a31
  have z3 := L.z3; have v3 := L.v3; have z9 := L.z9; have v9 := L.v9; have z31 := L.z31; have v31 := L.v31
  have e221 : ∀ args w, (callFunc (ρ.f 221) args).run P w = .ok (.enter (ρ.f 221) args) w := enters_of L.f221 (by kernel_rfl) rfl
  go_enter L.f146, Body.n146_ntmps ρ
  go_wp2_with (go_at_fn (ρ.f 221); refine c.mono ?_; rintro e w' ⟨rfl, hw⟩; rw [hw])
  go_ret
  exact ⟨rfl, rfl⟩
end Go.Proofs.YtalabahjfmcnbaaGreatDoor
namespace Go.Proofs.YtalabahjfmcnbaaGreatDoor
open Go.RowKit
set_option linter.unusedVariables false

theorem strsplit_any (s : ByteArray) (w : World) (hs : s.size ≤ 1000000) : Calls Tryz.prog 124 #[.string s, .string ⟨#[47]⟩] w fun e w' => e = .returned (.slice (some ⟨w.heap.size, 0, none⟩) (pieces s.data.toList).length (pieces s.data.toList).length) ∧ w' = w.alloc (.cells ((toBs (pieces s.data.toList)).map Value.string).toArray 9) := split_slash Tryz.lays146 (by kernel_rfl) s w (by omega)

theorem wrong_any (s : ByteArray) (w : World) (hs : s.size ≤ 1000000) :
    Calls Tryz.prog 152 #[.string s] w fun e w' => e = .returned (.bool (!rightB s)) ∧ Below w.heap.size w w' := by
  have C := Lib.hid (right_any s w (by omega))
  generalize rightB s = b at *
  go_enter Tryz.func152, Tryz.ntmps152
  go_wp2_with fail
  refine C.out.mono ?_
  rintro e w1 ⟨rfl, hb⟩
  go_wp2
  go_ret
  exact ⟨rfl, hb⟩

theorem all_no {ls : List (List UInt8)} {k : Nat} (hk : k < ls.length) (h : nameP ls[k] = false) : ls.all nameP = false := by
  rw [List.all_eq_false]
  exact ⟨ls[k], List.getElem_mem _, by rw [h]; exact Bool.false_ne_true⟩
theorem all_yes {ls : List (List UInt8)} (h : ∀ k (hk : k < ls.length), nameP ls[k] = true) : ls.all nameP = true := by
  rw [List.all_eq_true]
  intro x hx
  obtain ⟨k, hk, rfl⟩ := List.getElem_of_mem hx
  exact h k hk

set_option maxHeartbeats 1000000 in
set_option maxRecDepth 100000 in
theorem indexfunc_any (A : Option Addr) (ls : List (List UInt8)) (cap : Nat) (w : World) (hs : Strs w w.heap.size A (toBs ls)) (hn : ls.length ≤ 1000000) (hl : ∀ x ∈ ls, x.length ≤ 1000000) :
    Calls Tryz.prog 173 #[.slice A ls.length cap, .func (.func 152) #[] #[]] w fun e w' => ∃ r : Int, e = .returned (.int .i64 r) ∧ decide (0 ≤ r) = !(ls.all nameP) ∧ Below w.heap.size w w' := by
  have HS := Lib.hid hs
  have HL := Lib.hid hl
  clear hs hl
  go_enter Tryz.func173, Tryz.ntmps173
  go_wp2
  go_loopw [8] (fun i wr => ∃ k : Nat, k ≤ ls.length ∧ i = .int .i64 (k : Int) ∧ Hid (∀ j (hj : j < ls.length), j < k → nameP ls[j] = true) ∧ Below w.heap.size w wr) (fun i _ => ls.length - (intOf i).toNat)
  case atStart => exact ⟨0, Nat.zero_le _, rfl, fun j _ h => absurd h (by omega), Below.refl _ _⟩
  case round =>
    obtain ⟨k, hk, rfl, hall, hb⟩ := hrel
    by_cases hlt : k < ls.length
    · obtain ⟨g, off, rfl, hg, hc⟩ := (HS.out.on hb).at_ (k := k) (by rw [toBs_len]; exact hlt)
      have e1 : (toBs ls)[k]'(by rw [toBs_len]; exact hlt) = toB ls[k] := by simp [toBs]
      rw [e1] at hc
      have hz : (toB ls[k]).size ≤ 1000000 := by
        have := HL.out ls[k] (List.getElem_mem _)
        simpa [toB, ByteArray.size] using this
      have C := Lib.hid (wrong_any (toB ls[k]) wr hz)
      cases hd : rightB (toB ls[k]) with
      | false =>
        have hfin : Hid (ls.all nameP = false) := all_no hlt hd
        rw [hd] at C
        have HB := Lib.hid hb
        clear hall hd e1 hz hb
        generalize toB ls[k] = z at *
        go_wp2_with fail
        refine C.out.mono ?_
        rintro e w1 ⟨rfl, hb1⟩
        have HB2 := Lib.hid (HB.out.trans (hb1.mono HB.out.size))
        clear hb1
        go_wp2
        go_ret
        exact ⟨k, rfl, by rw [hfin.out]; simp, HB2.out⟩
      | true =>
        have hyes : Hid (∀ j (hj : j < ls.length), j < k + 1 → nameP ls[j] = true) := by
          intro j hj hjk
          by_cases hjk2 : j = k
          · subst hjk2; exact hd
          · exact hall.out j hj (by omega)
        rw [hd] at C
        have HB := Lib.hid hb
        clear hall hd e1 hz hb
        generalize toB ls[k] = z at *
        go_wp2_with fail
        refine C.out.mono ?_
        rintro e w1 ⟨rfl, hb1⟩
        have HB2 := Lib.hid (HB.out.trans (hb1.mono HB.out.size))
        clear hb1
        go_wp2
        go_roundw
        case rel => exact ⟨k + 1, by omega, by go_num, hyes, HB2.out⟩
        case measure => simp [intOf]; omega
    · obtain rfl : k = ls.length := by omega
      have hfin : Hid (ls.all nameP = true) := all_yes fun j hj => hall.out j hj hj
      clear hall
      go_wp2
      go_ret
      exact ⟨-1, rfl, by rw [hfin.out]; rfl, hb⟩
theorem containsfunc_any (A : Option Addr) (ls : List (List UInt8)) (cap : Nat) (w : World) (hs : Strs w w.heap.size A (toBs ls)) (hn : ls.length ≤ 1000000) (hl : ∀ x ∈ ls, x.length ≤ 1000000) :
    Calls Tryz.prog 154 #[.slice A ls.length cap, .func (.func 152) #[] #[]] w fun e w' => e = .returned (.bool (!(ls.all nameP))) ∧ Below w.heap.size w w' := by
  have C := Lib.hid (indexfunc_any A ls cap w hs hn hl)
  clear hs hl
  go_enter Tryz.func154, Tryz.ntmps154
  go_wp2_with fail
  refine C.out.mono ?_
  rintro e w1 ⟨r, rfl, hr, hb⟩
  have HR := Lib.hid hr
  clear hr C
  go_wp2
  go_ret
  rw [← HR.out]
  exact ⟨rfl, hb⟩

/-- Whether a row may be a path's names. -/
def areB (ls : List (List UInt8)) : Bool := decide (ls.length ≤ 16) && ls.all nameP
set_option maxHeartbeats 1000000 in
set_option maxRecDepth 100000 in
theorem arenames_any (A : Option Addr) (ls : List (List UInt8)) (cap : Nat) (w : World) (hs : Strs w w.heap.size A (toBs ls)) (hn : ls.length ≤ 1000000) (hl : ∀ x ∈ ls, x.length ≤ 1000000) :
    Calls Tryz.prog 125 #[.slice A ls.length cap] w fun e w' => e = .returned (.bool (areB ls)) ∧ Below w.heap.size w w' := by
  have C := Lib.hid (containsfunc_any A ls cap w hs hn hl)
  unfold areB
  clear hs hl
  by_cases h16 : 16 < ls.length
  · rw [decide_eq_false (show ¬ ls.length ≤ 16 by omega)]
    go_enter Tryz.func125, Tryz.ntmps125
    go_wp2
    go_ret
    exact ⟨rfl, Below.refl _ _⟩
  · rw [decide_eq_true (show ls.length ≤ 16 by omega)]
    generalize ls.all nameP = b at *
    go_enter Tryz.func125, Tryz.ntmps125
    go_wp2_with fail
    refine C.out.mono ?_
    rintro e w1 ⟨rfl, hb⟩
    have HB := Lib.hid hb
    clear hb C
    cases b <;> go_wp2 <;> go_ret <;> exact ⟨rfl, HB.out⟩

theorem pieces_le : ∀ (p : List UInt8), (pieces p).length ≤ p.length + 1 ∧ ∀ x ∈ pieces p, x.length ≤ p.length
  | [] => by simp [pieces]
  | c :: l => by
    obtain ⟨h1, h2⟩ := pieces_le l
    unfold pieces
    split
    · refine ⟨by simp; omega, fun x hx => ?_⟩
      rcases List.mem_cons.1 hx with rfl | hx
      · simp
      · have := h2 x hx; simp; omega
    · split
      · rename_i e; exact absurd e (pieces_ne l)
      · rename_i h t e
        rw [e] at h1 h2
        refine ⟨by simp at h1 ⊢; omega, fun x hx => ?_⟩
        rcases List.mem_cons.1 hx with rfl | hx
        · have := h2 h (by simp); simp; omega
        · have := h2 x (by simp [hx]); simp; omega

set_option maxHeartbeats 1000000 in
set_option maxRecDepth 100000 in
theorem split_any (s : ByteArray) (w : World) (hs : s.size ≤ 1000000) : Calls Tryz.prog 84 #[.string s] w (RowLeft w (pnames s)) := by
  have hsz : s.data.toList.length = s.size := by simp
  unfold pnames
  by_cases h2 : 200 < s.size
  · have hr : Hid (names nameP s.data.toList = []) := names_long (by omega)
    clear hsz
    go_enter Tryz.func84, Tryz.ntmps84
    go_wp2
    go_ret
    rw [hr.out]
    exact ⟨none, 0, rfl, fun _ => rfl, Strs.none_, Below.refl _ _⟩
  · obtain ⟨p, hp⟩ : ∃ p, s.data.toList = p := ⟨_, rfl⟩
    have C := Lib.hid (strsplit_any s w (by omega))
    rw [hp] at C hsz ⊢
    obtain ⟨hpl, hpx⟩ := pieces_le p
    have hal : Below w.heap.size w (w.alloc (.cells ((toBs (pieces p)).map Value.string).toArray 9)) := (Below.refl _ _).alloc (Nat.le_refl _) _
    have HST := Lib.hid ((strs_new w (toBs (pieces p))).more (B' := (w.alloc (.cells ((toBs (pieces p)).map Value.string).toArray 9)).heap.size) (by simp))
    have H200 : Hid (p.length ≤ 200) := by show _ ≤ _; omega
    have HX : Hid (∀ x ∈ pieces p, x.length ≤ 1000000) := fun x hx => by have := hpx x hx; omega
    have HL : Hid ((pieces p).length ≤ 1000000) := by show _ ≤ _; omega
    have HA := Lib.hid hal
    obtain ⟨q, hq⟩ : ∃ q, pieces p = q := ⟨_, rfl⟩
    have HQ := Lib.hid hq
    rw [hq] at C HST HX HL HA
    have hql := HL.out
    clear hal hpx hpl hp hsz hq
    have CF := Lib.hid (arenames_any (some ⟨w.heap.size, 0, none⟩) q q.length _ HST.out HL.out HX.out)
    cases hall : areB q with
    | false =>
      have hr : Hid (names nameP p = []) := by
        show _ = _
        unfold names
        rw [if_neg]
        rintro ⟨_, h, h'⟩
        rw [HQ.out] at h h'
        unfold areB at hall
        rw [h, decide_eq_true h'] at hall
        cases hall
      rw [hall] at CF
      clear hall
      go_enter Tryz.func84, Tryz.ntmps84
      go_wp2_with fail
      refine C.out.mono ?_
      rintro e w1 ⟨rfl, rfl⟩
      go_wp2_with fail
      refine CF.out.mono ?_
      rintro e w2 ⟨rfl, hb⟩
      have HB := Lib.hid (HA.out.trans (hb.mono HA.out.size))
      clear hb
      go_wp2
      go_ret
      rw [hr.out]
      exact ⟨none, 0, rfl, fun _ => rfl, Strs.none_, HB.out⟩
    | true =>
      have hr : Hid (names nameP p = q) := by
        show _ = _
        unfold names
        unfold areB at hall
        simp only [Bool.and_eq_true, decide_eq_true_eq] at hall
        rw [if_pos, HQ.out]
        rw [HQ.out]
        exact ⟨H200.out, hall.2, hall.1⟩
      rw [hall] at CF
      clear hall
      go_enter Tryz.func84, Tryz.ntmps84
      go_wp2_with fail
      refine C.out.mono ?_
      rintro e w1 ⟨rfl, rfl⟩
      go_wp2_with fail
      refine CF.out.mono ?_
      rintro e w2 ⟨rfl, hb⟩
      have HB := Lib.hid (HA.out.trans (hb.mono HA.out.size))
      have HS2 := Lib.hid (HST.out.on hb)
      clear hb
      go_wp2
      go_ret
      rw [hr.out]
      exact ⟨some ⟨w.heap.size, 0, none⟩, q.length, rfl, fun h => (by cases h), HS2.out, HB.out⟩

theorem pright_any (s : ByteArray) (w : World) (hs : s.size ≤ 1000000) : Calls Tryz.prog 52 #[.string s] w fun e w' => e = .returned (.bool (decide (pnames s ≠ []))) ∧ Below w.heap.size w w' := by
  have C := Lib.hid (split_any s w hs)
  have hne : decide (pnames s ≠ []) = decide (0 < (pnames s).length) := by
    rw [decide_eq_decide]
    exact List.length_pos_iff.symm
  rw [hne]
  generalize (pnames s) = l at *
  clear hne hs
  go_enter Tryz.func52, Tryz.ntmps52
  go_wp2_with fail
  refine C.out.mono ?_
  rintro e w1 ⟨A, cap, rfl, hA, hs, hb⟩
  have HB := Lib.hid hb
  clear hb hs hA C
  go_wp2
  go_ret
  exact ⟨rfl, HB.out⟩
end Go.Proofs.YtalabahjfmcnbaaGreatDoor
namespace Go.Proofs.YtalabahjfmcnbaaGreatDoor
open Go.RowKit
set_option linter.unusedVariables false

theorem nameP_empty : nameP [] = false := by decide +kernel
theorem hasprefix_any (s d : ByteArray) (b : Bool) (hb : ((d.data.toList ++ [47]).isPrefixOf s.data.toList) = b) (w : World) : Calls Tryz.prog 186 #[.string s, .string (d ++ ⟨#[47]⟩)] w fun e w' => e = .returned (.bool b) ∧ w' = w := by
  have h := Tryz.strings_HasPrefix s (d ++ ⟨#[47]⟩) w
  unfold Lib.hasPrefix at h
  rw [show (d ++ (⟨#[47]⟩ : ByteArray)).data.toList = d.data.toList ++ [47] by simp [ByteArray.data_append], hb] at h
  exact h
set_option maxHeartbeats 1000000 in
set_option maxRecDepth 100000 in
theorem within1_any (B : Nat) (d s : ByteArray) (w : World) (hB : B < w.heap.size) (hc : w.cell? ⟨B, 0, none⟩ = some (.string (d ++ ⟨#[47]⟩))) (hs : s.size ≤ 1000000) :
    Calls Tryz.prog 185 #[.string s, .pointer (some ⟨B, 0, none⟩)] w fun e w' => e = .returned (.bool ((d.data.toList ++ [47]).isPrefixOf s.data.toList && decide (pnames s ≠ []))) ∧ Below w.heap.size w w' := by
  have CR := Lib.hid (pright_any s w hs)
  generalize decide (pnames s ≠ []) = r at *
  obtain ⟨b, hb⟩ : ∃ b, ((d.data.toList ++ [47]).isPrefixOf s.data.toList) = b := ⟨_, rfl⟩
  have CP := Lib.hid (hasprefix_any s d b hb w)
  rw [hb]
  clear hb
  generalize d ++ ⟨#[47]⟩ = dd at *
  cases b with
  | false =>
    go_enter Tryz.func185, Tryz.ntmps185
    go_wp2_with fail
    refine CP.out.mono ?_
    rintro e w1 ⟨rfl, rfl⟩
    go_wp2
    go_ret
    exact ⟨rfl, Below.refl _ _⟩
  | true =>
    go_enter Tryz.func185, Tryz.ntmps185
    go_wp2_with fail
    refine CP.out.mono ?_
    rintro e w1 ⟨rfl, rfl⟩
    go_wp2_with fail
    refine CR.out.mono ?_
    rintro e w2 ⟨rfl, hb⟩
    have HB := Lib.hid hb
    clear hb
    go_wp2
    go_ret
    exact ⟨rfl, HB.out⟩
theorem within_none (w : World) :
    Calls Tryz.prog 178 #[.string ⟨#[]⟩] w fun e w' => e = .returned (.func (.func 52) #[] #[]) ∧ w' = w := by
  go_enter Tryz.func178, Tryz.ntmps178
  go_wp2
  go_ret
  exact ⟨rfl, rfl⟩
theorem within_some (d : ByteArray) (hd : d ≠ ⟨#[]⟩) (hs : d.size ≤ 1000000) (w : World) :
    Calls Tryz.prog 178 #[.string d] w fun e w' => e = .returned (.func (.func 185) #[] #[.pointer (some ⟨w.heap.size, 0, none⟩)]) ∧ w' = w.alloc (.cells #[.string (d ++ ⟨#[47]⟩)] 9) := by
  have hne : (d.toList == []) = false := by
    rw [beq_eq_false_iff_ne]
    intro h
    apply hd
    rw [toList_eq] at h
    exact bytes_inj h
  have hne2 : ¬ (d.toList = []) := by simpa using hne
  go_enter Tryz.func178, Tryz.ntmps178
  go_wp2
  go_ret
  exact ⟨rfl, rfl⟩
set_option maxHeartbeats 1000000 in
set_option maxRecDepth 100000 in
theorem pwithin_any (s t : ByteArray) (w : World) (hs : s.size ≤ 1000000) (ht : t.size ≤ 1000000) :
    Calls Tryz.prog 167 #[.string s, .string t] w fun e w' => e = .returned (.bool (withinP nameP s.data.toList t.data.toList)) ∧ Below w.heap.size w w' := by
  by_cases h0 : t = ⟨#[]⟩
  · subst h0
    rw [show withinP nameP s.data.toList (⟨#[]⟩ : ByteArray).data.toList = decide (pnames s ≠ []) from within_root nameP_empty _]
    have CR := Lib.hid (pright_any s w hs)
    generalize decide (pnames s ≠ []) = r at *
    have CW := Lib.hid (within_none w)
    go_enter Tryz.func167, Tryz.ntmps167
    go_wp2_with fail
    refine CW.out.mono ?_
    rintro e w1 ⟨rfl, rfl⟩
    go_wp2_with fail
    refine CR.out.mono ?_
    rintro e w2 ⟨rfl, hb⟩
    have HB := Lib.hid hb
    clear hb
    go_wp2
    go_ret
    exact ⟨rfl, HB.out⟩
  · have hd : t.data.toList ≠ [] := fun e => h0 (bytes_inj e)
    rw [within_dir hd]
    have hal : Below w.heap.size w (w.alloc (.cells #[.string (t ++ ⟨#[47]⟩)] 9)) := (Below.refl _ _).alloc (Nat.le_refl _) _
    have C1 := Lib.hid (within1_any w.heap.size t s (w.alloc (.cells #[.string (t ++ ⟨#[47]⟩)] 9)) (by simp) (by rw [World.cell?_alloc_new]; rfl) hs)
    have CW := Lib.hid (within_some t h0 ht w)
    have HA := Lib.hid hal
    unfold pnames at C1
    generalize ((t.data.toList ++ [47]).isPrefixOf s.data.toList && decide (names nameP s.data.toList ≠ [])) = r at *
    clear hal hd h0
    generalize (t ++ ⟨#[47]⟩) = tt at *
    go_enter Tryz.func167, Tryz.ntmps167
    go_wp2_with fail
    refine CW.out.mono ?_
    rintro e w1 ⟨rfl, rfl⟩
    go_wp2_with fail
    refine C1.out.mono ?_
    rintro e w2 ⟨rfl, hb⟩
    have HB := Lib.hid (HA.out.trans (hb.mono HA.out.size))
    clear hb
    go_wp2
    go_ret
    exact ⟨rfl, HB.out⟩
end Go.Proofs.YtalabahjfmcnbaaGreatDoor
namespace Go.Proofs.YtalabahjfmcnbaaGreatDoor
open Go.RowKit
set_option linter.unusedVariables false

end Go.Proofs.YtalabahjfmcnbaaGreatDoor
namespace Go.Proofs.YtalabahjfmcnbaaGreatDoor
open Go.RowKit
set_option linter.unusedVariables false

end Go.Proofs.YtalabahjfmcnbaaGreatDoor
namespace Go.Proofs.YtalabahjfmcnbaaGreatDoor
open Go.RowKit
set_option linter.unusedVariables false

end Go.Proofs.YtalabahjfmcnbaaGreatDoor
namespace Go.Proofs.YtalabahjfmcnbaaGreatDoor
open Go.RowKit
set_option linter.unusedVariables false

/-- A call hands back a row of files, its parts written out. -/
def RowP (w : World) (d : List Fm) (n : Nat) (e : Ending) (w' : World) : Prop := ∃ (A : Option Addr) (c : Nat), e = .returned (.slice A n c) ∧ OwnF w' w.heap.size (.slice A n c) d ∧ Below w.heap.size w w'
theorem RowF.parts {w : World} {d : List Fm} {e : Ending} {w' : World} (h : RowF w d e w') : RowP w d d.length e w' := by
  obtain ⟨v, rfl, ho, hb⟩ := h
  obtain ⟨A, c, rfl, _⟩ := ho.slice
  exact ⟨A, c, rfl, ho, hb⟩
end Go.Proofs.YtalabahjfmcnbaaGreatDoor
namespace Go.Proofs.YtalabahjfmcnbaaGreatDoor
open Go.RowKit
set_option linter.unusedVariables false

/-- A call as it lies. -/
structure Cm where
  kind : Int
  p : ByteArray
  dst : ByteArray
  a : Option Addr
  c : Nat
  ls : List (List UInt8)
def Cm.cells (c : Cm) : List Value := [.int .i64 c.kind, .string c.p, .string c.dst, .slice c.a c.ls.length c.c]
section
variable {w w' : World} {g : Nat} {c : Cm}
end
end Go.Proofs.YtalabahjfmcnbaaGreatDoor
namespace Go.Proofs.YtalabahjfmcnbaaGreatDoor
open Go.RowKit
set_option linter.unusedVariables false

def lessK (x y : PF) : Bool := lessP nameP x.1 y.1
def placeK (x : PF) (out : List PF) : Nat → Nat
  | 0 => 0
  | j + 1 => match out[j]? with
    | some g => if lessK x g then placeK x out j else j + 1
    | none => j + 1
def insK (out : List PF) (x : PF) : List PF := out.take (placeK x out out.length) ++ [x] ++ out.drop (placeK x out out.length)
def sortK (l : List PF) : List PF := l.foldl insK []
def withoutK (ks : List PF) (p : List UInt8) : List PF := ks.filter fun k => decide (k.1 ≠ p)
def withK (ks : List PF) (x : PF) : List PF := sortK (withoutK ks x.1 ++ [x])
end Go.Proofs.YtalabahjfmcnbaaGreatDoor
namespace Go.Proofs.YtalabahjfmcnbaaGreatDoor
set_option linter.unusedVariables false

/-- A rune that no line has (r, of n bytes). -/
def badRune (x : Nat × Nat) : Bool := (x.1 == 65533 && x.2 == 1) || (decide (x.1 < 32) && !(x.1 == 9))
def runesOk (s : ByteArray) : Nat → Nat → Bool
  | 0, _ => true
  | f + 1, i => if i < s.size then (if badRune (Utf8.decode s i) then false else runesOk s f (i + (Utf8.decode s i).2)) else true
/-- Are the runes from byte i on a line's? -/
def runes (s : ByteArray) (i : Nat) : Bool := runesOk s (s.size - i) i
theorem decode_pos (s : ByteArray) (i : Nat) : 1 ≤ (Utf8.decode s i).2 := by
  unfold Utf8.decode
  dsimp only
  repeat' split
  all_goals simp
theorem decode_le (s : ByteArray) (i : Nat) : (Utf8.decode s i).2 ≤ 4 := by
  unfold Utf8.decode
  dsimp only
  repeat' split
  all_goals simp
theorem runesOk_fuel (s : ByteArray) : ∀ (f g i : Nat), s.size - i ≤ f → s.size - i ≤ g → runesOk s f i = runesOk s g i
  | 0, 0, _, _, _ => rfl
  | 0, g + 1, i, hf, _ => by simp [runesOk, show ¬ i < s.size by omega]
  | f + 1, 0, i, _, hg => by simp [runesOk, show ¬ i < s.size by omega]
  | f + 1, g + 1, i, hf, hg => by
    unfold runesOk
    by_cases h : i < s.size
    · have hp := decode_pos s i
      rw [if_pos h, if_pos h, runesOk_fuel s f g _ (by omega) (by omega)]
    · rw [if_neg h, if_neg h]
theorem runes_end {s : ByteArray} {i : Nat} (h : ¬ i < s.size) : runes s i = true := by
  unfold runes
  rw [show s.size - i = 0 by omega]; rfl
theorem runes_bad {s : ByteArray} {i : Nat} (h : i < s.size) (hb : badRune (Utf8.decode s i) = true) : runes s i = false := by
  unfold runes
  obtain ⟨f, hf⟩ : ∃ f, s.size - i = f + 1 := ⟨s.size - i - 1, by omega⟩
  rw [hf]
  unfold runesOk
  rw [if_pos h, if_pos hb]
theorem runes_good {s : ByteArray} {i : Nat} (h : i < s.size) (hb : badRune (Utf8.decode s i) = false) : runes s i = runes s (i + (Utf8.decode s i).2) := by
  have hp := decode_pos s i
  have e : runes s i = runesOk s ((s.size - i - 1) + 1) i := by unfold runes; congr 1; omega
  rw [e]
  unfold runesOk
  rw [if_pos h, if_neg (by rw [hb]; simp)]
  exact runesOk_fuel s _ _ _ (by omega) (by omega)
/-- Is a text a line? -/
def lineB (s : ByteArray) : Bool := decide (s.size ≤ 200) && runes s 0
/-- The error of lines that may not be a file's: 4, too many; 6, one is none; 0. -/
def checkN (ss : List ByteArray) : Int := if 2000 < ss.length then 4 else if ss.all lineB then 0 else 6
theorem checkN_big {ss : List ByteArray} (h : 2000 < ss.length) : checkN ss = 4 := by simp [checkN, h]
theorem checkN_bad {ss : List ByteArray} {k : Nat} (hn : ¬ 2000 < ss.length) (hk : k < ss.length) (h : lineB ss[k] = false) : checkN ss = 6 := by
  have : ss.all lineB = false := by
    rw [List.all_eq_false]
    exact ⟨ss[k], List.getElem_mem _, by rw [h]; simp⟩
  simp [checkN, hn, this]
theorem checkN_ok {ss : List ByteArray} (hn : ¬ 2000 < ss.length) (h : ∀ k (hk : k < ss.length), lineB ss[k] = true) : checkN ss = 0 := by
  have : ss.all lineB = true := by
    rw [List.all_eq_true]
    intro s hs
    obtain ⟨k, hk, rfl⟩ := List.getElem_of_mem hs
    exact h k hk
  simp [checkN, hn, this]
end Go.Proofs.YtalabahjfmcnbaaGreatDoor
namespace Go.Proofs.YtalabahjfmcnbaaGreatDoor
open Go.RowKit
set_option linter.unusedVariables false

/-- unicode/utf8's two tables lie in their variables. -/
def Tabs (w : World) : Prop := Lib.Utf8Tabs 1 2 w
theorem cell_lt {w : World} {b o : Nat} {v : Value} (h : w.cell? ⟨b, o, none⟩ = some v) : b < w.heap.size := by
  unfold World.cell? at h
  rcases Nat.lt_or_ge b w.heap.size with h1 | h1
  · exact h1
  · rw [Array.getElem?_eq_none h1] at h
    simp at h
theorem Tabs.on {w w' : World} (h : Tabs w) (hb : Below w.heap.size w w') : Tabs w' :=
  ⟨fun c hc => (hb.cell (p := ⟨_, c, none⟩) (cell_lt (h.1 c hc))).trans (h.1 c hc),
   fun i hi => ⟨(hb.cell (p := ⟨_, 2 * i, none⟩) (cell_lt (h.2 i hi).1)).trans (h.2 i hi).1, (hb.cell (p := ⟨_, 2 * i + 1, none⟩) (cell_lt (h.2 i hi).2)).trans (h.2 i hi).2⟩⟩

end Go.Proofs.YtalabahjfmcnbaaGreatDoor
namespace Go.Proofs.YtalabahjfmcnbaaGreatDoor
open Go.RowKit
set_option linter.unusedVariables false

/-- Lines that are not far too long. -/
def LightK (ls : List (List UInt8)) : Prop := ls.length ≤ 60 ∧ ∀ x ∈ ls, x.length ≤ 300
/-- Lines of which no machine has too many. -/
def WideK (ls : List (List UInt8)) : Prop := ls.length ≤ 100000 ∧ ∀ x ∈ ls, x.length ≤ 100000
/-- Lines that are not far too many, behind others were laid to them. -/
def MidK (ls : List (List UInt8)) : Prop := ls.length ≤ 5000 ∧ ∀ x ∈ ls, x.length ≤ 300
theorem MidK.wide {ls : List (List UInt8)} (h : MidK ls) : WideK ls := ⟨Nat.le_trans h.1 (by decide), fun x hx => Nat.le_trans (h.2 x hx) (by decide)⟩
theorem MidK.nil : MidK [] := ⟨Nat.zero_le _, fun x h => by cases h⟩
theorem LightK.wide {ls : List (List UInt8)} (h : LightK ls) : WideK ls := ⟨Nat.le_trans h.1 (by decide), fun x hx => Nat.le_trans (h.2 x hx) (by decide)⟩
/-- What a step says. -/
structure Pk where
  kind : Int
  path : List UInt8
  dst : List UInt8
  at_ : Int
  old : List (List UInt8)
  new : List (List UInt8)
instance : DecidableEq Pk := fun a b => if h : a.kind = b.kind ∧ a.path = b.path ∧ a.dst = b.dst ∧ a.at_ = b.at_ ∧ a.old = b.old ∧ a.new = b.new then isTrue (by
    cases a; cases b
    simp_all) else isFalse (fun e => h (by subst e; exact ⟨rfl, rfl, rfl, rfl, rfl, rfl⟩))
/-- What is wrong with a step. -/
def ckP (p : Pk) : Int :=
  if p.kind < 1 ∨ 6 < p.kind ∨ (p.kind ≠ 5 ∧ p.dst ≠ []) ∨ (p.kind ≠ 6 ∧ (p.at_ ≠ 0 ∨ 0 < p.old.length + p.new.length)) then 2
  else if names nameP p.path = [] ∨ (p.kind = 5 ∧ (names nameP p.dst = [] ∨ p.path = p.dst)) then 8
  else if p.kind = 6 ∧ (p.at_ < 0 ∨ p.old.length + p.new.length = 0 ∨ checkN (toBs p.old) ≠ 0 ∨ checkN (toBs p.new) ≠ 0) then 6
  else 0
theorem ck_facts {p : Pk} (h : ckP p = 0) : 1 ≤ p.kind ∧ p.kind ≤ 6 ∧ (p.kind ≠ 5 → p.dst = []) ∧ (p.kind ≠ 6 → p.at_ = 0 ∧ p.old = [] ∧ p.new = []) ∧ names nameP p.path ≠ [] ∧ (p.kind = 5 → names nameP p.dst ≠ [] ∧ p.path ≠ p.dst) ∧ (p.kind = 6 → 0 ≤ p.at_ ∧ checkN (toBs p.old) = 0 ∧ checkN (toBs p.new) = 0) := by
  unfold ckP at h
  split at h
  · omega
  rename_i h1
  split at h
  · omega
  rename_i h2
  split at h
  · omega
  rename_i h3
  simp only [not_or, not_and] at h1 h2 h3
  obtain ⟨a1, a2, a3, a4⟩ := h1
  obtain ⟨b1, b2⟩ := h2
  refine ⟨by omega, by omega, fun e => by simpa using a3 e, fun e => ?_, b1, fun e => ?_, fun e => ?_⟩
  · obtain ⟨c1, c2⟩ := a4 e
    exact ⟨by simpa using c1, List.length_eq_zero_iff.1 (by omega), List.length_eq_zero_iff.1 (by omega)⟩
  · exact b2 e
  · obtain ⟨c1, c2, c3, c4⟩ := h3 e
    exact ⟨by omega, by simpa using c3, by simpa using c4⟩
/-- Lines that may be. -/
theorem check_iff {ls : List (List UInt8)} : checkN (toBs ls) = 0 ↔ ls.length ≤ 2000 ∧ ∀ x ∈ ls, lineB (toB x) = true := by
  unfold checkN
  rw [toBs_len]
  by_cases h : 2000 < ls.length
  · rw [if_pos h]
    constructor
    · intro e; omega
    · rintro ⟨h1, _⟩; omega
  · rw [if_neg h]
    have e : (toBs ls).all lineB = ls.all fun x => lineB (toB x) := by
      unfold toBs
      rw [List.all_map]
      rfl
    rw [e]
    by_cases ha : (ls.all fun x => lineB (toB x)) = true
    · rw [if_pos ha]
      refine ⟨fun _ => ⟨by omega, fun x hx => List.all_eq_true.1 ha x hx⟩, fun _ => rfl⟩
    · rw [if_neg ha]
      constructor
      · intro e2; omega
      · rintro ⟨_, h2⟩
        exact absurd (List.all_eq_true.2 h2) ha
end Go.Proofs.YtalabahjfmcnbaaGreatDoor
