/- strings.Split at a slash: what it leaves is what stands between slashes. Package path's Split and Right: strings.Split at a slash, and slices.ContainsFunc of what is no name. Package path's cut, Dir, Base: the last slash. Package path's within, Within, Move. Package path's Move. -/
import Derived.Shelf.Strings.Split
import Derived.Test.YtaepfahpbnpeiaaGreatDoorCk04
import Derived.Test.YtaepfahpbnpeiaaGreatDoorCk01
import Derived.Test.YtaepfahpbnpeiaaGreatDoorShelf
import Derived.Test.YtaepfahpbnpeiaaGreatDoorCk06
namespace Go.Proofs.YtaepfahpbnpeiaaGreatDoor
open Go.RowKit
set_option linter.unusedVariables false

theorem split_pieces : ∀ l : List UInt8, Lib.split l [47] = pieces l
  | [] => by
    unfold Lib.split
    rw [Lib.count_miss (by simp [Lib.index])]
    rfl
  | c :: l => by
    have ih := split_pieces l
    unfold Lib.split at ih ⊢
    by_cases h : c = 47
    · subst h
      have hix : Lib.index (47 :: l) [47] = ((0 : Nat) : Int) := by rw [Lib.index]; simp [List.isPrefixOf]
      rw [Lib.count_cons_eq, Nat.add_comm, Lib.splitK, hix, pieces, if_pos rfl]
      simp [ih]
    · have hp : ([47] : List UInt8).isPrefixOf (c :: l) = false := by simp [List.isPrefixOf, Ne.symm h]
      have hix : Lib.index (c :: l) [47] = if Lib.index l [47] == -1 then -1 else Lib.index l [47] + 1 := by rw [Lib.index, hp]; simp
      rw [Lib.count_cons_ne _ _ _ h, pieces, if_neg h, ← ih]
      by_cases hm : Lib.index l [47] = -1
      · rw [Lib.count_miss hm]
        rfl
      · have hge := Lib.index_ge l [47]
        obtain ⟨j, hj⟩ : ∃ j : Nat, Lib.index l [47] = j := ⟨(Lib.index l [47]).toNat, by omega⟩
        have hix' : Lib.index (c :: l) [47] = ((j + 1 : Nat) : Int) := by rw [hix, if_neg (fun e => hm (beq_iff_eq.1 e)), hj]; omega
        rw [Lib.count_hit (by simp) hj, Nat.add_comm 1, Lib.splitK, Lib.splitK, hix', hj]
        have n1 : ¬ (((j + 1 : Nat) : Int) == -1) = true := fun e => by have := beq_iff_eq.1 e; omega
        have n2 : ¬ (((j : Nat) : Int) == -1) = true := fun e => by have := beq_iff_eq.1 e; omega
        rw [if_neg n1, if_neg n2]
        simp
theorem split_bytes (s : ByteArray) : Lib.splitB ⟨#[47]⟩ 0 (Lib.countB s ⟨#[47]⟩) s = toBs (pieces s.data.toList) := by
  have h := Lib.splitB_data ⟨#[47]⟩ 0 (Lib.countB s ⟨#[47]⟩) s
  have e : lists (Lib.splitB ⟨#[47]⟩ 0 (Lib.countB s ⟨#[47]⟩) s) = pieces s.data.toList := by
    unfold lists
    rw [h, ← split_pieces]
    rfl
  rw [← e, toBs_lists]
theorem split_count (s : ByteArray) : Lib.countB s ⟨#[47]⟩ + 1 = (pieces s.data.toList).length := by
  have h := Lib.splitB_all ⟨#[47]⟩ (by decide) 0 _ s rfl
  rw [split_bytes, toBs_len] at h
  exact h.symm
open Go.Shelf in
set_option maxHeartbeats 1000000 in
theorem split_slash {P : Program} {ρ : Ren} (L : Lays.n146 P ρ) (hi9 : (P.info? (ρ.t 9)).map (fun i => (i.zero, i.size, i.bytes)) = some (some (.string ByteArray.empty), 1, 16)) (s : ByteArray) (w : World) (hs : s.size < 4294967281) :
    Calls P (ρ.f 146) #[.string s, .string ⟨#[47]⟩] w fun e w' => e = .returned (.slice (some ⟨w.heap.size, 0, none⟩) (pieces s.data.toList).length (pieces s.data.toList).length) ∧ w' = w.alloc (.cells ((toBs (pieces s.data.toList)).map Value.string).toArray (ρ.t 9)) := by
  have hle := Lib.countB_le ⟨#[47]⟩ (by decide) s.size s (Nat.le_refl _)
  have hI : ∀ (x : ByteArray) (c : Array Value), x.size ≤ s.size → Calls P (ρ.f 143) #[.string x, .string ⟨#[47]⟩] (w.alloc (.cells c (ρ.t 9))) fun e w' => e = .returned (.int .i64 (Lib.indexB x ⟨#[47]⟩)) ∧ w' = w.alloc (.cells c (ρ.t 9)) := fun x c _ => by
    have h := Any.strings_Index_one { L with } x 47 (w.alloc (.cells c (ρ.t 9)))
    rwa [← Lib.index_one] at h
  have hC : Calls P (ρ.f 138) #[.string s, .string ⟨#[47]⟩] w fun e w' => e = .returned (.int .i64 (Lib.countB s ⟨#[47]⟩)) ∧ w' = w := by
    have h := Any.strings_Count_one { L with } s 47 w
    unfold Lib.countByte at h
    rwa [← Lib.count_one] at h
  have c := Any.strings_genSplit_core { L with } hi9 s ⟨#[47]⟩ 0 (-1) (Lib.countB s ⟨#[47]⟩ + 1) w hs (by decide) (Nat.zero_le _) hI hC (by decide) (by decide) (by rw [if_pos (by decide)]; omega)
  rw [Nat.add_sub_cancel, split_bytes, toBs_len, split_count] at c
  have e2 : Lib.cellsOf (toBs (pieces s.data.toList)) (pieces s.data.toList).length = ((toBs (pieces s.data.toList)).map Value.string).toArray := by
    rw [← toBs_len (pieces s.data.toList)]
    exact Lib.cellsOf_full _
  rw [e2] at c
  clear e2 hI hC hle
  generalize ((toBs (pieces s.data.toList)).map Value.string).toArray = cs at *
  generalize (pieces s.data.toList).length = n at *
  have t3 := L.t3; have t9 := L.t9; have t31 := L.t31
  have a3 := L.a3; have a9 := L.a9; have a31 := L.a31
  have z3 := L.z3; have v3 := L.v3; have z9 := L.z9; have v9 := L.v9; have z31 := L.z31; have v31 := L.v31
  have e221 : ∀ args w, (callFunc (ρ.f 221) args).run P w = .ok (.enter (ρ.f 221) args) w := enters_of L.f221 (by kernel_rfl) rfl
  go_enter L.f146, Body.n146_ntmps ρ
  go_wp2_with (go_at_fn (ρ.f 221); refine c.mono ?_; rintro e w' ⟨rfl, hw⟩; rw [hw])
  go_ret
  exact ⟨rfl, rfl⟩
end Go.Proofs.YtaepfahpbnpeiaaGreatDoor
namespace Go.Proofs.YtaepfahpbnpeiaaGreatDoor
open Go.RowKit
set_option linter.unusedVariables false

theorem strsplit_any (s : ByteArray) (w : World) (hs : s.size ≤ 1000000) : Calls Tryz.prog 114 #[.string s, .string ⟨#[47]⟩] w fun e w' => e = .returned (.slice (some ⟨w.heap.size, 0, none⟩) (pieces s.data.toList).length (pieces s.data.toList).length) ∧ w' = w.alloc (.cells ((toBs (pieces s.data.toList)).map Value.string).toArray 9) := split_slash Tryz.lays146 (by kernel_rfl) s w (by omega)

theorem wrong_any (s : ByteArray) (w : World) (hs : s.size ≤ 1000000) :
    Calls Tryz.prog 126 #[.string s] w fun e w' => e = .returned (.bool (!rightB s)) ∧ Below w.heap.size w w' := by
  have C := Lib.hid (right_any s w (by omega))
  generalize rightB s = b at *
  go_enter Tryz.func126, Tryz.ntmps126
  go_wp2_with fail
  refine C.out.mono ?_
  rintro e w1 ⟨rfl, hb⟩
  go_wp2
  go_ret
  exact ⟨rfl, hb⟩

theorem all_no {ls : List (List UInt8)} {k : Nat} (hk : k < ls.length) (h : nameP ls[k] = false) : ls.all nameP = false := by
  rw [List.all_eq_false]
  exact ⟨ls[k], List.getElem_mem _, by rw [h]; exact Bool.false_ne_true⟩
theorem all_yes {ls : List (List UInt8)} (h : ∀ k (hk : k < ls.length), nameP ls[k] = true) : ls.all nameP = true := by
  rw [List.all_eq_true]
  intro x hx
  obtain ⟨k, hk, rfl⟩ := List.getElem_of_mem hx
  exact h k hk

set_option maxHeartbeats 1000000 in
set_option maxRecDepth 100000 in
theorem indexfunc_any (A : Option Addr) (ls : List (List UInt8)) (cap : Nat) (w : World) (hs : Strs w w.heap.size A (toBs ls)) (hn : ls.length ≤ 1000000) (hl : ∀ x ∈ ls, x.length ≤ 1000000) :
    Calls Tryz.prog 137 #[.slice A ls.length cap, .func (.func 126) #[] #[]] w fun e w' => ∃ r : Int, e = .returned (.int .i64 r) ∧ decide (0 ≤ r) = !(ls.all nameP) ∧ Below w.heap.size w w' := by
  have HS := Lib.hid hs
  have HL := Lib.hid hl
  clear hs hl
  go_enter Tryz.func137, Tryz.ntmps137
  go_wp2
  go_loopw [8] (fun i wr => ∃ k : Nat, k ≤ ls.length ∧ i = .int .i64 (k : Int) ∧ Hid (∀ j (hj : j < ls.length), j < k → nameP ls[j] = true) ∧ Below w.heap.size w wr) (fun i _ => ls.length - (intOf i).toNat)
  case atStart => exact ⟨0, Nat.zero_le _, rfl, fun j _ h => absurd h (by omega), Below.refl _ _⟩
  case round =>
    obtain ⟨k, hk, rfl, hall, hb⟩ := hrel
    by_cases hlt : k < ls.length
    · obtain ⟨g, off, rfl, hg, hc⟩ := (HS.out.on hb).at_ (k := k) (by rw [toBs_len]; exact hlt)
      have e1 : (toBs ls)[k]'(by rw [toBs_len]; exact hlt) = toB ls[k] := by simp [toBs]
      rw [e1] at hc
      have hz : (toB ls[k]).size ≤ 1000000 := by
        have := HL.out ls[k] (List.getElem_mem _)
        simpa [toB, ByteArray.size] using this
      have C := Lib.hid (wrong_any (toB ls[k]) wr hz)
      cases hd : rightB (toB ls[k]) with
      | false =>
        have hfin : Hid (ls.all nameP = false) := all_no hlt hd
        rw [hd] at C
        have HB := Lib.hid hb
        clear hall hd e1 hz hb
        generalize toB ls[k] = z at *
        go_wp2_with fail
        refine C.out.mono ?_
        rintro e w1 ⟨rfl, hb1⟩
        have HB2 := Lib.hid (HB.out.trans (hb1.mono HB.out.size))
        clear hb1
        go_wp2
        go_ret
        exact ⟨k, rfl, by rw [hfin.out]; simp, HB2.out⟩
      | true =>
        have hyes : Hid (∀ j (hj : j < ls.length), j < k + 1 → nameP ls[j] = true) := by
          intro j hj hjk
          by_cases hjk2 : j = k
          · subst hjk2; exact hd
          · exact hall.out j hj (by omega)
        rw [hd] at C
        have HB := Lib.hid hb
        clear hall hd e1 hz hb
        generalize toB ls[k] = z at *
        go_wp2_with fail
        refine C.out.mono ?_
        rintro e w1 ⟨rfl, hb1⟩
        have HB2 := Lib.hid (HB.out.trans (hb1.mono HB.out.size))
        clear hb1
        go_wp2
        go_roundw
        case rel => exact ⟨k + 1, by omega, by go_num, hyes, HB2.out⟩
        case measure => simp [intOf]; omega
    · obtain rfl : k = ls.length := by omega
      have hfin : Hid (ls.all nameP = true) := all_yes fun j hj => hall.out j hj hj
      clear hall
      go_wp2
      go_ret
      exact ⟨-1, rfl, by rw [hfin.out]; rfl, hb⟩
theorem containsfunc_any (A : Option Addr) (ls : List (List UInt8)) (cap : Nat) (w : World) (hs : Strs w w.heap.size A (toBs ls)) (hn : ls.length ≤ 1000000) (hl : ∀ x ∈ ls, x.length ≤ 1000000) :
    Calls Tryz.prog 128 #[.slice A ls.length cap, .func (.func 126) #[] #[]] w fun e w' => e = .returned (.bool (!(ls.all nameP))) ∧ Below w.heap.size w w' := by
  have C := Lib.hid (indexfunc_any A ls cap w hs hn hl)
  clear hs hl
  go_enter Tryz.func128, Tryz.ntmps128
  go_wp2_with fail
  refine C.out.mono ?_
  rintro e w1 ⟨r, rfl, hr, hb⟩
  have HR := Lib.hid hr
  clear hr C
  go_wp2
  go_ret
  rw [← HR.out]
  exact ⟨rfl, hb⟩

/-- Whether a row may be a path's names. -/
def areB (ls : List (List UInt8)) : Bool := decide (ls.length ≤ 16) && ls.all nameP
set_option maxHeartbeats 1000000 in
set_option maxRecDepth 100000 in
theorem arenames_any (A : Option Addr) (ls : List (List UInt8)) (cap : Nat) (w : World) (hs : Strs w w.heap.size A (toBs ls)) (hn : ls.length ≤ 1000000) (hl : ∀ x ∈ ls, x.length ≤ 1000000) :
    Calls Tryz.prog 115 #[.slice A ls.length cap] w fun e w' => e = .returned (.bool (areB ls)) ∧ Below w.heap.size w w' := by
  have C := Lib.hid (containsfunc_any A ls cap w hs hn hl)
  unfold areB
  clear hs hl
  by_cases h16 : 16 < ls.length
  · rw [decide_eq_false (show ¬ ls.length ≤ 16 by omega)]
    go_enter Tryz.func115, Tryz.ntmps115
    go_wp2
    go_ret
    exact ⟨rfl, Below.refl _ _⟩
  · rw [decide_eq_true (show ls.length ≤ 16 by omega)]
    generalize ls.all nameP = b at *
    go_enter Tryz.func115, Tryz.ntmps115
    go_wp2_with fail
    refine C.out.mono ?_
    rintro e w1 ⟨rfl, hb⟩
    have HB := Lib.hid hb
    clear hb C
    cases b <;> go_wp2 <;> go_ret <;> exact ⟨rfl, HB.out⟩

theorem pieces_le : ∀ (p : List UInt8), (pieces p).length ≤ p.length + 1 ∧ ∀ x ∈ pieces p, x.length ≤ p.length
  | [] => by simp [pieces]
  | c :: l => by
    obtain ⟨h1, h2⟩ := pieces_le l
    unfold pieces
    split
    · refine ⟨by simp; omega, fun x hx => ?_⟩
      rcases List.mem_cons.1 hx with rfl | hx
      · simp
      · have := h2 x hx; simp; omega
    · split
      · rename_i e; exact absurd e (pieces_ne l)
      · rename_i h t e
        rw [e] at h1 h2
        refine ⟨by simp at h1 ⊢; omega, fun x hx => ?_⟩
        rcases List.mem_cons.1 hx with rfl | hx
        · have := h2 h (by simp); simp; omega
        · have := h2 x (by simp [hx]); simp; omega

set_option maxHeartbeats 1000000 in
set_option maxRecDepth 100000 in
theorem split_any (s : ByteArray) (w : World) (hs : s.size ≤ 1000000) : Calls Tryz.prog 93 #[.string s] w (RowLeft w (pnames s)) := by
  have hsz : s.data.toList.length = s.size := by simp
  unfold pnames
  by_cases h2 : 200 < s.size
  · have hr : Hid (names nameP s.data.toList = []) := names_long (by omega)
    clear hsz
    go_enter Tryz.func93, Tryz.ntmps93
    go_wp2
    go_ret
    rw [hr.out]
    exact ⟨none, 0, rfl, fun _ => rfl, Strs.none_, Below.refl _ _⟩
  · obtain ⟨p, hp⟩ : ∃ p, s.data.toList = p := ⟨_, rfl⟩
    have C := Lib.hid (strsplit_any s w (by omega))
    rw [hp] at C hsz ⊢
    obtain ⟨hpl, hpx⟩ := pieces_le p
    have hal : Below w.heap.size w (w.alloc (.cells ((toBs (pieces p)).map Value.string).toArray 9)) := (Below.refl _ _).alloc (Nat.le_refl _) _
    have HST := Lib.hid ((strs_new w (toBs (pieces p))).more (B' := (w.alloc (.cells ((toBs (pieces p)).map Value.string).toArray 9)).heap.size) (by simp))
    have H200 : Hid (p.length ≤ 200) := by show _ ≤ _; omega
    have HX : Hid (∀ x ∈ pieces p, x.length ≤ 1000000) := fun x hx => by have := hpx x hx; omega
    have HL : Hid ((pieces p).length ≤ 1000000) := by show _ ≤ _; omega
    have HA := Lib.hid hal
    obtain ⟨q, hq⟩ : ∃ q, pieces p = q := ⟨_, rfl⟩
    have HQ := Lib.hid hq
    rw [hq] at C HST HX HL HA
    have hql := HL.out
    clear hal hpx hpl hp hsz hq
    have CF := Lib.hid (arenames_any (some ⟨w.heap.size, 0, none⟩) q q.length _ HST.out HL.out HX.out)
    cases hall : areB q with
    | false =>
      have hr : Hid (names nameP p = []) := by
        show _ = _
        unfold names
        rw [if_neg]
        rintro ⟨_, h, h'⟩
        rw [HQ.out] at h h'
        unfold areB at hall
        rw [h, decide_eq_true h'] at hall
        cases hall
      rw [hall] at CF
      clear hall
      go_enter Tryz.func93, Tryz.ntmps93
      go_wp2_with fail
      refine C.out.mono ?_
      rintro e w1 ⟨rfl, rfl⟩
      go_wp2_with fail
      refine CF.out.mono ?_
      rintro e w2 ⟨rfl, hb⟩
      have HB := Lib.hid (HA.out.trans (hb.mono HA.out.size))
      clear hb
      go_wp2
      go_ret
      rw [hr.out]
      exact ⟨none, 0, rfl, fun _ => rfl, Strs.none_, HB.out⟩
    | true =>
      have hr : Hid (names nameP p = q) := by
        show _ = _
        unfold names
        unfold areB at hall
        simp only [Bool.and_eq_true, decide_eq_true_eq] at hall
        rw [if_pos, HQ.out]
        rw [HQ.out]
        exact ⟨H200.out, hall.2, hall.1⟩
      rw [hall] at CF
      clear hall
      go_enter Tryz.func93, Tryz.ntmps93
      go_wp2_with fail
      refine C.out.mono ?_
      rintro e w1 ⟨rfl, rfl⟩
      go_wp2_with fail
      refine CF.out.mono ?_
      rintro e w2 ⟨rfl, hb⟩
      have HB := Lib.hid (HA.out.trans (hb.mono HA.out.size))
      have HS2 := Lib.hid (HST.out.on hb)
      clear hb
      go_wp2
      go_ret
      rw [hr.out]
      exact ⟨some ⟨w.heap.size, 0, none⟩, q.length, rfl, fun h => (by cases h), HS2.out, HB.out⟩

theorem split_c : SplitC := fun s w hs => split_any s w (by omega)
theorem pright_any (s : ByteArray) (w : World) (hs : s.size ≤ 1000000) : Calls Tryz.prog 57 #[.string s] w fun e w' => e = .returned (.bool (decide (pnames s ≠ []))) ∧ Below w.heap.size w w' := by
  have C := Lib.hid (split_any s w hs)
  have hne : decide (pnames s ≠ []) = decide (0 < (pnames s).length) := by
    rw [decide_eq_decide]
    exact List.length_pos_iff.symm
  rw [hne]
  generalize (pnames s) = l at *
  clear hne hs
  go_enter Tryz.func57, Tryz.ntmps57
  go_wp2_with fail
  refine C.out.mono ?_
  rintro e w1 ⟨A, cap, rfl, hA, hs, hb⟩
  have HB := Lib.hid hb
  clear hb hs hA C
  go_wp2
  go_ret
  exact ⟨rfl, HB.out⟩
theorem right_c : RightC := fun s w hs => pright_any s w (by omega)
end Go.Proofs.YtaepfahpbnpeiaaGreatDoor
namespace Go.Proofs.YtaepfahpbnpeiaaGreatDoor
open Go.RowKit
set_option linter.unusedVariables false

theorem at_bang {s : ByteArray} {j : Nat} (h : j < s.size) : s.data[j]! = s[j] := by
  have : j < s.data.size := h
  rw [getElem!_pos s.data j this]
  rfl
/-- Where the last slash is. -/
theorem last_cut (s : ByteArray) : (∃ x r, s.data.toList = x ++ 47 :: r ∧ (47 : UInt8) ∉ r ∧ Lib.lastIndexByte s 47 = (x.length : Int)) ∨ ((47 : UInt8) ∉ s.data.toList ∧ Lib.lastIndexByte s 47 = -1) := by
  have key : ∀ j (hj : j < s.size), ((s.data[j]!).toNat : Int) ≠ 47 → s.data.toList[j]? ≠ some 47 := by
    intro j hj h e
    rw [byte_get hj, Option.some.injEq] at e
    apply h
    rw [at_bang hj, e]
    rfl
  have hsz : s.data.toList.length = s.size := by simp
  rcases Lib.lastIndexByte_spec s 47 with ⟨e, hn⟩ | ⟨i, hi, e, hc, hn⟩
  · refine .inr ⟨fun hm => ?_, e⟩
    obtain ⟨j, hj, hv⟩ := List.getElem_of_mem hm
    rw [hsz] at hj
    exact key j hj (hn j hj) (by rw [List.getElem?_eq_getElem (by omega), hv])
  · refine .inl ⟨s.data.toList.take i, s.data.toList.drop (i + 1), ?_, fun hm => ?_, ?_⟩
    · have hv : s.data.toList[i]'(by omega) = 47 := by
        have : ((s[i].toNat : Nat) : Int) = 47 := by rw [← at_bang hi]; exact hc
        have h2 := byte_get hi
        rw [List.getElem?_eq_getElem (by omega), Option.some.injEq] at h2
        rw [h2]
        exact UInt8.toNat_inj.1 (by simpa using (by omega : s[i].toNat = 47))
      have h1 := (List.take_append_drop i s.data.toList).symm
      rwa [List.drop_eq_getElem_cons (by omega), hv] at h1
    · obtain ⟨j, hj, hv⟩ := List.getElem_of_mem hm
      rw [List.length_drop, hsz] at hj
      rw [List.getElem_drop] at hv
      refine key (i + 1 + j) (by omega) (hn _ (by omega) (by omega)) ?_
      rw [List.getElem?_eq_getElem (by omega), hv]
    · rw [e, List.length_take, hsz, Nat.min_eq_left (by omega)]
theorem lastindex_any (s : ByteArray) (i : Int) (hi : Lib.lastIndexByte s 47 = i) (w : World) (hs : s.size ≤ 1000000) : Calls Tryz.prog 130 #[.string s, .string ⟨#[47]⟩] w fun e w' => e = .returned (.int .i64 i) ∧ w' = w := by
  have h := Tryz.strings_LastIndex_one s ⟨#[47]⟩ rfl (by omega) w
  have e : (((⟨#[47]⟩ : ByteArray)[0]'(by decide)).toNat : Int) = 47 := by decide
  rw [e, hi] at h
  exact h

set_option maxHeartbeats 1000000 in
set_option maxRecDepth 100000 in
theorem cut_any (s : ByteArray) (w : World) (hs : s.size ≤ 1000000) :
    Calls Tryz.prog 117 #[.string s] w fun e w' => e = .returned (.tuple #[.string (toB (dirP nameP s.data.toList)), .string (toB (baseP nameP s.data.toList))]) ∧ Below w.heap.size w w' := by
  have C := Lib.hid (pright_any s w hs)
  unfold pnames at C
  by_cases hn : names nameP s.data.toList = []
  · obtain ⟨h1, h2⟩ := dir_no (nm := nameP) hn
    rw [h1, h2]
    rw [decide_eq_false (by simp [hn])] at C
    clear h1 h2 hn
    go_enter Tryz.func117, Tryz.ntmps117
    go_wp2_with fail
    refine C.out.mono ?_
    rintro e w1 ⟨rfl, hb⟩
    have HB := Lib.hid hb
    clear hb
    go_wp2
    go_ret2
    exact ⟨rfl, HB.out⟩
  · rw [decide_eq_true hn] at C
    rcases last_cut s with ⟨x, r, hx, hr, hi⟩ | ⟨hm, hi⟩
    · have e := dir_cut (nm := nameP) (x := x) (r := r) (by rw [← hx]; exact hn) hr
      rw [← hx] at e
      rw [e.1, e.2]
      have hl : s.size = x.length + 1 + r.length := by
        have := congrArg List.length hx
        simp at this
        omega
      have d1 : Hid (s.extract 0 x.length = toB x) := by show _ = _; rw [ext_toB, hx]; simp
      have d2 : Hid (s.extract (x.length + 1) s.size = toB r) := by
        show _ = _
        rw [ext_toB, hx, show x ++ 47 :: r = (x ++ [47]) ++ r by simp, List.drop_left' (by simp), List.take_of_length_le (by omega)]
      have CL := fun w => lastindex_any s x.length hi w hs
      have CL := Lib.hid CL
      have hi6 : x.length ≤ 1000000 := by omega
      have q1 : (x.length : Int) ≤ (s.size : Int) := by omega
      have q2 : (x.length : Int) + 1 ≤ (s.size : Int) := by omega
      clear e hx hr hi hn hl
      generalize toB x = y at *
      generalize toB r = z at *
      generalize x.length = i at *
      have hm : max (i : Int) 0 = (i : Int) := by omega
      have hw : IntKind.i64.wrap ((i : Int) + 1) = (i : Int) + 1 := IntWalk.i64_in _ (by omega)
      go_enter Tryz.func117, Tryz.ntmps117
      go_wp2_with fail
      refine C.out.mono ?_
      rintro e w1 ⟨rfl, hb⟩
      have HB := Lib.hid hb
      clear hb
      go_wp2_with fail
      refine (CL.out _).mono ?_
      rintro e w2 ⟨rfl, rfl⟩
      go_wp2
      go_quiet (fail)
      go_wp2
      go_ret2
      rw [d1.out, d2.out]
      exact ⟨rfl, below_drewN HB.out _⟩
    · have e := dir_one (nm := nameP) hn hm
      rw [e.1, e.2, toB_of]
      have CL := fun w => lastindex_any s (-1) hi w hs
      have CL := Lib.hid CL
      clear e hm hi hn
      have hw : IntKind.i64.wrap ((-1 : Int) + 1) = 0 := by decide
      have d1 : Hid (s.extract 0 (max (-1 : Int) 0).toNat = toB []) := by show _ = _; rw [ext_toB]; rfl
      go_enter Tryz.func117, Tryz.ntmps117
      go_wp2_with fail
      refine C.out.mono ?_
      rintro e w1 ⟨rfl, hb⟩
      have HB := Lib.hid hb
      clear hb
      go_wp2_with fail
      refine (CL.out _).mono ?_
      rintro e w2 ⟨rfl, rfl⟩
      go_wp2
      go_quiet (fail)
      go_wp2
      go_ret2
      rw [d1.out]
      exact ⟨rfl, below_drewN HB.out _⟩
theorem dir_c : DirC := by
  intro s w hs
  have C := Lib.hid (cut_any s w (by omega))
  generalize toB (dirP nameP s.data.toList) = x at *
  generalize toB (baseP nameP s.data.toList) = y at *
  go_enter Tryz.func95, Tryz.ntmps95
  go_wp2_with fail
  refine C.out.mono ?_
  rintro e w1 ⟨rfl, hb⟩
  have HB := Lib.hid hb
  clear hb
  go_wp2
  go_ret
  exact ⟨rfl, HB.out⟩
end Go.Proofs.YtaepfahpbnpeiaaGreatDoor
namespace Go.Proofs.YtaepfahpbnpeiaaGreatDoor
open Go.RowKit
set_option linter.unusedVariables false

theorem nameP_empty : nameP [] = false := by decide +kernel
theorem nameP_slash {x : List UInt8} (h : nameP x = true) : (47 : UInt8) ∉ x := by
  intro hm
  unfold nameP rightB at h
  rw [Bool.and_eq_true] at h
  have h2 := h.2
  unfold allIn at h2
  rw [List.all_eq_true] at h2
  have := h2 47 (by rw [of_toB]; exact hm)
  revert this
  decide +kernel

end Go.Proofs.YtaepfahpbnpeiaaGreatDoor
namespace Go.Proofs.YtaepfahpbnpeiaaGreatDoor
open Go.RowKit
set_option linter.unusedVariables false

theorem trim_self (p : List UInt8) : Lib.trimPrefix p p = [] := by
  unfold Lib.trimPrefix Lib.hasPrefix
  rw [if_pos (List.isPrefixOf_iff_prefix.2 (List.prefix_refl p)), List.drop_length]
theorem trim_in (f r : List UInt8) : Lib.trimPrefix (f ++ 47 :: r) f = 47 :: r := by
  unfold Lib.trimPrefix Lib.hasPrefix
  rw [if_pos (List.isPrefixOf_iff_prefix.2 (List.prefix_append _ _)), List.drop_left]
theorem within_is {p f : List UInt8} (hf : f ≠ []) (h : withinP nameP p f = true) : ∃ r, p = f ++ 47 :: r ∧ names nameP p ≠ [] := by
  rw [within_dir hf, Bool.and_eq_true, decide_eq_true_eq] at h
  obtain ⟨r, e⟩ := pre_of_prefix h.1
  exact ⟨r, e, h.2⟩
theorem names_nil : names nameP [] = [] := by
  have := nameP_empty
  simp [names, pieces, this]
theorem toB_size (l : List UInt8) : (toB l).size = l.length := by simp [toB, ByteArray.size]
theorem string_ne {s t : ByteArray} (h : s ≠ t) : (s.toList == t.toList) = false := by
  rw [beq_eq_false_iff_ne]
  intro e
  rw [toList_eq, toList_eq] at e
  exact h (bytes_inj e)

theorem size_app (u x : ByteArray) : (u ++ x).size = u.size + x.size := by simp
end Go.Proofs.YtaepfahpbnpeiaaGreatDoor
