
/- package code's Reader: List. -/
import Derived.Test.YtokkkjgdfnkjoaaDoorCodeReader2
import Derived.Test.YtokkkjgdfnkjoaaDoorCodeList
import Derived.Test.YtokkkjgdfnkjoaaDoorAppend
namespace Go.Proofs.YtokkkjgdfnkjoaaDoor
open Go.RowKit
set_option linter.unusedVariables false

/-- Strings as cells. -/
def scells (ss : List ByteArray) : List Value := ss.map Value.string
theorem scells_len (ss : List ByteArray) : (scells ss).length = ss.length := by simp [scells]
theorem scells_snoc (ss : List ByteArray) (s : ByteArray) : scells ss ++ [.string s] = scells (ss ++ [s]) := by simp [scells]

/-- A row of strings of the call's own, as strings at an address. -/
theorem strs_own {w : World} {base : Nat} {v : Value} {n : Nat} {ss : List ByteArray} (h : w.ownsRow base 9 1 v n (scells ss)) :
    ∃ A c, v = .slice A ss.length c ∧ Strs w w.heap.size A ss ∧ Room A ss.length c ∧ n = ss.length := by
  have hn : n = ss.length := by have := h.1; rw [scells_len] at this; omega
  subst hn
  have h' := h
  rcases h.2 with ⟨rfl, h0⟩ | ⟨g, cap, cur, rfl, _, hg, hcap, _, hsz, htake⟩
  · have : ss = [] := List.eq_nil_of_length_eq_zero h0
    subst this
    exact ⟨none, 0, rfl, Strs.none_, ⟨fun _ => rfl, Nat.le_refl _⟩, rfl⟩
  · refine ⟨_, cap, rfl, fun hp => ⟨g, 0, rfl, (Array.getElem?_eq_some_iff.1 hg).1, fun j hj => ?_⟩, ⟨(fun e => by cases e), hcap⟩, rfl⟩
    have := h'.cells (g := g) rfl j (.string ss[j]) (by simp [scells, List.getElem?_eq_getElem hj])
    have e : (⟨g, 0, none⟩ : Addr).add j = ⟨g, j, none⟩ := by unfold Addr.add; split <;> simp_all
    rw [Nat.zero_add, ← e]
    exact this

theorem own_ne {w : World} {base e size n g : Nat} {v : Value} {xs : List Value} (h : w.ownsRow base e size v n xs) (hg : g < base) : v.ownBlock ≠ some g := fun he => by
  have := (h.lt g he).1
  omega
theorem grownBy_new {w a b : World} {row row2 : Option Nat} (h : w.grownBy a row) (hg : a.grownBy b row2) (hr : ∀ k, row2 = some k → w.heap.size ≤ k) : w.grownBy b row :=
  ⟨hg.os.trans h.os, hg.tape.trans h.tape, hg.output.trans h.output, Nat.le_trans h.size hg.size, fun i hi hne => (hg.block i (Nat.lt_of_lt_of_le hi h.size) (fun e => by have := hr i e.symm; omega)).trans (h.block i hi hne)⟩
/-- What List leaves: a slice of strings in new memory. -/
def ListEnd (w : World) (g : Nat) (x : List (List UInt8) × Int × List UInt8) (e : Ending) (w' : World) : Prop :=
  ∃ (A : Option Addr) (c : Nat) (ss : List ByteArray), e = .returned (.slice A ss.length c) ∧ lists ss = x.1 ∧ Strs w' w'.heap.size A ss ∧ Room A ss.length c ∧ Rd w' g x.2.2 x.2.1 ∧ w.grownBy w' (some g)
theorem listEnd_nil {w w' : World} {g : Nat} {e : Int} (hr : Rd w' g [] e) (hg : w.grownBy w' (some g)) : ListEnd w g ([], e, []) (.returned (.slice none 0 0)) w' :=
  ⟨none, 0, [], rfl, rfl, Strs.none_, ⟨fun _ => rfl, Nat.le_refl _⟩, hr, hg⟩
theorem lists_snoc (ss : List ByteArray) (t : List UInt8) : lists (ss ++ [⟨t.toArray⟩]) = lists ss ++ [t] := by simp [lists]

set_option maxHeartbeats 1000000 in
set_option maxRecDepth 100000 in
theorem rlist_ok (g : Nat) (l : List UInt8) (w : World) (h : Rd w g l 0) (hl : l.length ≤ 1000000000000) :
    Calls Tryd.prog 30 #[.pointer (some ⟨g, 0, none⟩)] w (ListEnd w g (rList l)) := by
  obtain ⟨i0, hi, hz0, hz1, hz2⟩ := info_parts info_str
  have HC := Lib.hid (count_ok g l w h (by omega))
  have hg := h.lt
  have hlen := rCount_len l
  have hle := rCount_le l
  rcases hR : rCount l with ⟨n, e0, r⟩
  rw [hR] at HC hlen hle
  simp only at HC hlen hle
  have hT : rList l = if e0 ≠ 0 then ([], e0, []) else rTexts n r := by unfold rList; rw [hR]
  have herr := rCount_err l
  rw [hR] at herr
  simp only at herr
  clear hR h
  by_cases h0 : e0 = 0
  · subst h0
    have ht := Lib.hid (show rList l = preT [] (rTexts n r) by rw [hT, preT_nil]; simp)
    clear hT herr
    go_enter Tryd.func30, Tryd.ntmps30
    go_wp2_with (go_at_call 44; refine HC.out.mono ?_)
    rintro e w1 ⟨rfl, hr1, hg1⟩
    go_wp2
    go_loopw [4, 9] (fun v i wr => ∃ (k : Nat) (ss : List ByteArray) (lr : List UInt8), k ≤ n ∧ i = .int .i64 (k : Int) ∧ ss.length = k ∧ wr.ownsRow w.heap.size 9 1 v ss.length (scells ss) ∧ Hid (Rd wr g lr 0) ∧ w.grownBy wr (some g) ∧
        lr.length ≤ 1000000000000 ∧ Hid (rList l = preT (lists ss) (rTexts (n - k) lr))) (fun _ i _ => n - (intOf i).toNat)
    case atStart => exact ⟨0, [], r, Nat.zero_le _, rfl, rfl, World.ownsRow_nil _ _ _ _, hr1, hg1, by omega, ht.out⟩
    case round =>
      obtain ⟨k, ss, lr, hk, rfl, hss, hown, hrd, hgr, hlr, hv⟩ := hrel
      have HSS := Lib.hid hss
      have hkk : ss.length ≤ k := by omega
      clear hss ht hr1 hg1
      have hsz := hgr.size
      have hne := own_ne hown hg
      by_cases hlt : k < n
      · obtain ⟨m, hm⟩ : ∃ m, n - k = m + 1 := ⟨n - k - 1, by omega⟩
        rw [hm] at hv
        have HM := Lib.hid hm
        clear hm
        have HT := Lib.hid (rtext_ok g lr wr hrd.out (by omega))
        have hbad := preT_bad (lists ss) m lr
        have hstep := preT_step (lists ss) m lr
        have hle2 := rText_len lr
        have herr2 := rText_err lr
        rcases hRT : rText lr with ⟨t, e1, r1⟩
        rw [hRT] at HT hbad hstep hle2 herr2
        simp only at HT hbad hstep hle2 herr2
        clear hRT
        by_cases h1 : e1 = 0
        · subst h1
          have hv2 := Lib.hid (hv.out.trans (hstep rfl))
          clear hbad hstep herr2 hv hrd
          go_wp2_with (first
            | (go_at_call 45; refine HT.out.mono ?_; rintro e w2 ⟨rfl, hr2, hg2⟩; have hc1 := hr2.c1; have HR2 := Lib.hid hr2; clear hr2)
            | (at_builtin; refine wpList_append_own _ rfl _ _ 22 rfl w.heap.size 9 i0 (.string ByteArray.empty) 1 16 Tryd.underlying22 hi hz0 hz1 hz2 rfl (by decide) _ _ _ rfl ((hown.kept hg2 (.inr hne)).alloc _) ⟨w2.heap.size, 0, none⟩ 1 1 [.string ⟨t.toArray⟩] rfl rfl ?c1 ?c2 ?c3 ?c4 ?c5 ?_))
          case c1 => exact cell_one_new _ _ _
          case c2 => intro u hu; simp at hu; subst hu; rfl
          case c3 => unfold maxLen; omega
          case c4 => omega
          case c5 => have := hg2.size; simp; omega
          intro v' w3 hown' hgrow _
          rw [scells_snoc] at hown'
          have hown3 : w3.ownsRow w.heap.size 9 1 v' (ss ++ [(⟨t.toArray⟩ : ByteArray)]).length (scells (ss ++ [⟨t.toArray⟩])) := by simpa using hown'
          have hlt2 := HR2.out.lt
          have hrd3 : Hid (Rd w3 g r1 0) := by
            have h3 : (w2.alloc (.cells #[.string ⟨t.toArray⟩] 9)).heap[g]? = w2.heap[g]? := Below.heap_alloc w2 _ g hlt2
            exact (hgrow.block g (by simp; omega) (fun e => hne e.symm)).trans (h3.trans HR2.out)
          have hgr3 : w.grownBy w3 (some g) :=
            grownBy_new (grownBy_new (grownBy_trans hgr hg2) (World.grownBy_alloc w2 _ none) (fun _ h => by cases h)) hgrow (fun k hk => (hown.lt k hk).1)
          have hm3 : n - (k + 1) = m := by have := HM.out; omega
          have hv3 : Hid (rList l = preT (lists (ss ++ [⟨t.toArray⟩])) (rTexts (n - (k + 1)) r1)) := by
            show _ = _
            rw [hm3, lists_snoc]; exact hv2.out
          have hss3 : (ss ++ [⟨t.toArray⟩] : List ByteArray).length = k + 1 := by have := HSS.out; simp; omega
          have HSS3 := Lib.hid hss3
          clear hss3 hm3 hgrow hown' hown hg2 hgr hv2 HR2
          go_wp2
          go_roundw
          case rel => exact ⟨k + 1, ss ++ [⟨t.toArray⟩], r1, by omega, by go_num, HSS3.out, hown3, hrd3, hgr3, by omega, hv3⟩
          case measure => simp [intOf]; omega
        · have hv2 := Lib.hid (hv.out.trans (hbad h1))
          have hn : (e1 != 0) = true := by rw [bne_iff_ne]; exact h1
          obtain ⟨rfl, rfl⟩ := herr2 h1
          clear hbad hstep herr2 hv hrd
          go_wp2_with (go_at_call 45; refine HT.out.mono ?_; rintro e w2 ⟨rfl, hr2, hg2⟩; have hc1 := hr2.c1; have HR2 := Lib.hid hr2; clear hr2)
          go_ret
          rw [hv2.out]
          exact listEnd_nil HR2.out (grownBy_trans hgr hg2)
      · have hk2 : n - k = 0 := by omega
        rw [hk2, preT_end] at hv
        have hshape := strs_own hown
        obtain ⟨A, c, hv', hs1, hs2, _⟩ := hshape
        have HV := Lib.hid hv'
        clear hv' hk2
        go_wp2
        go_ret
        rw [hv.out]
        exact ⟨A, c, ss, by rw [HV.out]; rfl, rfl, hs1, hs2, hrd.out, hgr⟩
  · obtain ⟨rfl, rfl⟩ := herr h0
    have ht := Lib.hid (show rList l = ([], e0, []) by rw [hT]; simp [h0])
    rw [ht.out]
    clear ht hT herr
    go_enter Tryd.func30, Tryd.ntmps30
    go_wp2_with (go_at_call 44; refine HC.out.mono ?_)
    rintro e w1 ⟨rfl, hr1, hg1⟩
    have HR := Lib.hid hr1
    clear hr1
    go_wp2
    refine wp_loop_rounds 1 ?_
    rw [rounds_succ]
    go_wp2
    go_ret
    exact listEnd_nil HR.out hg1
end Go.Proofs.YtokkkjgdfnkjoaaDoor
