
/- Package ident's Root, Begin, End; Has: the library's Index, Contains of ids. -/
import Derived.Test.YthenlajknoddcaaDoorIdEq
import Derived.Test.YthenlajknoddcaaDoorIdRet
import Derived.BigQuiet
import Derived.Deep.QuietTactic
namespace Go.Proofs.YthenlajknoddcaaDoor
open Go.RowKit
set_option linter.unusedVariables false

theorem root_any (w : World) : Calls Tryd.prog 14 #[] w fun e w' => e = .returned (Im.val ⟨⟨#[]⟩, 0⟩) ∧ Below w.heap.size w w' := by
  obtain ⟨hb, hx⟩ := id_box w ⟨⟨#[]⟩, 0⟩
  have HX := Lib.hid hx
  have HB := Lib.hid hb
  clear hb hx
  go_enter Tryd.func14, Tryd.ntmps14
  go_wp2
  (try simp only [Exit.inBlock, Exit.then])
  refine bodyPost_ret (ret_id rfl _ _ _ ⟨⟨#[]⟩, 0⟩ rfl HX.out) rfl ?_
  exact ⟨rfl, HB.out⟩
theorem begin_any (w : World) : Calls Tryd.prog 15 #[] w fun e w' => e = .returned (Im.val ⟨⟨#[]⟩, 1⟩) ∧ Below w.heap.size w w' := by
  obtain ⟨hb, hx⟩ := id_box w ⟨⟨#[]⟩, 1⟩
  have HX := Lib.hid hx
  have HB := Lib.hid hb
  clear hb hx
  go_enter Tryd.func15, Tryd.ntmps15
  go_wp2
  (try simp only [Exit.inBlock, Exit.then])
  refine bodyPost_ret (ret_id rfl _ _ _ ⟨⟨#[]⟩, 1⟩ rfl HX.out) rfl ?_
  exact ⟨rfl, HB.out⟩
theorem end_any (w : World) : Calls Tryd.prog 16 #[] w fun e w' => e = .returned (Im.val ⟨⟨#[]⟩, 2⟩) ∧ Below w.heap.size w w' := by
  obtain ⟨hb, hx⟩ := id_box w ⟨⟨#[]⟩, 2⟩
  have HX := Lib.hid hx
  have HB := Lib.hid hb
  clear hb hx
  go_enter Tryd.func16, Tryd.ntmps16
  go_wp2
  (try simp only [Exit.inBlock, Exit.then])
  refine bodyPost_ret (ret_id rfl _ _ _ ⟨⟨#[]⟩, 2⟩ rfl HX.out) rfl ?_
  exact ⟨rfl, HB.out⟩
set_option maxHeartbeats 2000000 in
set_option maxRecDepth 100000 in
theorem iindex_any (A : Option Addr) (l : List Im) (cap : Nat) (x : Im) (w : World) (hs : Ids w w.heap.size A l) (hn : l.length ≤ 1000000) :
    Calls Tryd.prog 33 #[.slice A l.length cap, .agg #[.string x.p, .int .i64 x.n]] w fun e w' => ∃ r : Int, e = .returned (.int .i64 r) ∧ Hid (decide (0 ≤ r) = decide (x ∈ l)) ∧ Below w.heap.size w w' := by
  obtain ⟨hb, hx⟩ := id_box w x
  have HS := Lib.hid (hs.on hb)
  have HX := Lib.hid hx
  have HB := Lib.hid hb
  clear hs hb hx
  go_enter Tryd.func33, Tryd.ntmps33
  go_wp2
  generalize (w.alloc (.cells #[.string x.p, .int .i64 x.n] 23)) = wb at *
  go_loopw [8] (fun i wr => ∃ k : Nat, k ≤ l.length ∧ i = .int .i64 (k : Int) ∧ Hid (∀ j (hj : j < l.length), j < k → l[j] ≠ x) ∧ Hid (Below wb.heap.size wb wr)) (fun i _ => l.length - (intOf i).toNat)
  case atStart => exact ⟨0, Nat.zero_le _, rfl, fun j _ h => absurd h (by omega), Below.refl _ _⟩
  case round =>
    obtain ⟨k, hk, rfl, hall, hbr⟩ := hrel
    by_cases hlt : k < l.length
    · have hS := HS.out.on hbr.out
      have hX := HX.out.on hbr.out
      obtain ⟨g, off, rfl, hg, c0, c1⟩ := ids_get hS hlt
      have d0 := id_c0 hX
      have d1 := id_c1 hX
      have hq : ∀ q, Hid (Below wb.heap.size wb (wr.drewN q)) := fun q => below_drewN hbr.out q
      have hfin : ∀ q, Hid (Below w.heap.size w (wr.drewN q)) := fun q => HB.out.trans (((hq q).out).mono HB.out.size)
      have EQ := fun W => eql_id x l[k] W
      by_cases he : x = l[k]
      · have hyes : Hid (decide (0 ≤ (k : Int)) = decide (x ∈ l)) := by
          show _ = _
          have h1 : x ∈ l := by rw [he]; exact List.getElem_mem _
          simp [h1]
        rw [decide_eq_true he] at EQ
        generalize l[k] = y at *
        clear hS hX hall hbr he
        go_wp2
        go_quiet (fail)
        go_wp2
        go_ret
        exact ⟨_, rfl, hyes, (hfin _).out⟩
      · rw [decide_eq_false he] at EQ
        have hnew : Hid (∀ j (hj : j < l.length), j < k + 1 → l[j] ≠ x) := by
          intro j hj hjk
          by_cases e : j = k
          · subst e; exact fun e => he e.symm
          · exact hall.out j hj (by omega)
        generalize l[k] = y at *
        clear hS hX hall hbr he hfin
        go_wp2
        go_quiet (fail)
        go_wp2
        go_roundw
        case rel => exact ⟨k + 1, by omega, by go_num, hnew, hq _⟩
        case measure => simp [intOf]; omega
    · obtain rfl : k = l.length := by omega
      have hno : Hid (decide (0 ≤ (-1 : Int)) = decide (x ∈ l)) := by
        show _ = _
        rw [decide_eq_false (by decide), eq_comm, decide_eq_false_iff_not]
        intro h
        obtain ⟨j, hj, e⟩ := List.getElem_of_mem h
        exact hall.out j hj hj e
      have hfin := Lib.hid (HB.out.trans (hbr.out.mono HB.out.size))
      clear hall
      go_wp2
      go_ret
      exact ⟨_, rfl, hno, hfin.out⟩
set_option maxHeartbeats 2000000 in
set_option maxRecDepth 100000 in
theorem icontains_any (A : Option Addr) (l : List Im) (cap : Nat) (x : Im) (w : World) (hs : Ids w w.heap.size A l) (hn : l.length ≤ 1000000) :
    Calls Tryd.prog 24 #[.slice A l.length cap, .agg #[.string x.p, .int .i64 x.n]] w fun e w' => e = .returned (.bool (decide (x ∈ l))) ∧ Below w.heap.size w w' := by
  obtain ⟨hb, hx⟩ := id_box w x
  have HB := Lib.hid hb
  have x0 := id_c0 hx
  have x1 := id_c1 hx
  have CI := Lib.hid (iindex_any A l cap x _ (hs.on hb) hn)
  clear hs hb hx
  go_enter Tryd.func24, Tryd.ntmps24
  go_wp2_with fail
  refine CI.out.mono ?_
  rintro e w1 ⟨r, rfl, hr, hb1⟩
  have HF := Lib.hid (HB.out.trans (hb1.mono HB.out.size))
  clear hb1 x0 x1 CI
  go_wp2
  go_ret
  rw [← hr.out]
  exact ⟨rfl, HF.out⟩
set_option maxHeartbeats 2000000 in
set_option maxRecDepth 100000 in
/-- Package ident's Has. -/
theorem idhas_any (A : Option Addr) (l : List Im) (cap : Nat) (x : Im) (w : World) (hs : Ids w w.heap.size A l) (hn : l.length ≤ 1000000) :
    Calls Tryd.prog 12 #[.slice A l.length cap, x.val] w fun e w' => e = .returned (.bool (decide (x ∈ l))) ∧ Below w.heap.size w w' := by
  obtain ⟨hb, hx⟩ := id_box w x
  unfold Im.val
  have HB := Lib.hid hb
  have x0 := id_c0 hx
  have x1 := id_c1 hx
  have CI := Lib.hid (icontains_any A l cap x _ (hs.on hb) hn)
  generalize decide (x ∈ l) = r at *
  clear hs hb hx
  go_enter Tryd.func12, Tryd.ntmps12
  go_wp2_with fail
  refine CI.out.mono ?_
  rintro e w1 ⟨rfl, hb1⟩
  have HF := Lib.hid (HB.out.trans (hb1.mono HB.out.size))
  clear hb1 x0 x1 CI
  go_wp2
  go_ret
  exact ⟨rfl, HF.out⟩
end Go.Proofs.YthenlajknoddcaaDoor
