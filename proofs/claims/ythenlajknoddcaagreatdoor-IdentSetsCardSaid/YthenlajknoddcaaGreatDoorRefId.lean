
/- The reference's Less, Has, Same of ids. -/
import Derived.Test.YthenlajknoddcaaGreatDoorId
import Derived.Test.YthenlajknoddcaaGreatDoorIdEq
namespace Go.Proofs.YthenlajknoddcaaGreatDoor
open Go.RowKit
set_option linter.unusedVariables false

theorem ltI_eq (p : ByteArray) (n m : Int) : decide (ltI (Im.key ⟨p, n⟩) (Im.key ⟨p, m⟩)) = decide (n < m) := by
  unfold ltI Im.key
  refine decide_eq_decide.2 ⟨fun h => ?_, fun h => .inr ⟨rfl, h⟩⟩
  rcases h with h | h
  · exact absurd h (t_irrefl _)
  · exact h.2
theorem ltI_ne {p q : ByteArray} (h : p ≠ q) (n m : Int) : decide (ltI (Im.key ⟨p, n⟩) (Im.key ⟨q, m⟩)) = Op.bytesLess p.toList q.toList := by
  rw [bytesLess_eq, toList_eq, toList_eq]
  unfold ltI Im.key
  exact decide_eq_decide.2 ⟨fun h2 => h2.elim id fun h3 => absurd (bytes_inj h3.1) h, .inl⟩

set_option maxHeartbeats 2000000 in
set_option maxRecDepth 100000 in
theorem refiless_any (x y : Im) (w : World) :
    Calls Tryz.prog 7 #[x.val, y.val] w fun e w' => e = .returned (.bool (decide (ltI x.key y.key))) ∧ Below w.heap.size w w' := by
  obtain ⟨hb, _, _⟩ := id_box2 w x y
  obtain ⟨p, n⟩ := x
  obtain ⟨q, m⟩ := y
  unfold Im.val
  simp only at hb
  have HB := Lib.hid hb
  clear hb
  by_cases h : p = q
  · subst h
    rw [ltI_eq]
    go_enter Tryz.func7, Tryz.ntmps7
    go_wp2
    go_ret
    exact ⟨rfl, HB.out⟩
  · rw [ltI_ne h]
    have h1 := str_ne h
    go_enter Tryz.func7, Tryz.ntmps7
    go_wp2
    go_ret
    exact ⟨rfl, HB.out⟩
set_option maxHeartbeats 2000000 in
set_option maxRecDepth 100000 in
theorem refihas_any (A : Option Addr) (l : List Im) (cap : Nat) (x : Im) (w : World) (hs : Ids w w.heap.size A l) (hn : l.length ≤ 1000000) :
    Calls Tryz.prog 12 #[.slice A l.length cap, x.val] w fun e w' => e = .returned (.bool (decide (x ∈ l))) ∧ Below w.heap.size w w' := by
  obtain ⟨hb, hx⟩ := id_box w x
  unfold Im.val
  have HS := Lib.hid (hs.on hb)
  have HX := Lib.hid hx
  have HB := Lib.hid hb
  clear hs hb hx
  go_enter Tryz.func12, Tryz.ntmps12
  go_wp2
  generalize (w.alloc (.cells #[.string x.p, .int .i64 x.n] 24)) = wb at *
  go_loopw [5] (fun i wr => ∃ k : Nat, k ≤ l.length ∧ i = .int .i64 (k : Int) ∧ Hid (∀ j (hj : j < l.length), j < k → l[j] ≠ x) ∧ Hid (Below wb.heap.size wb wr)) (fun i _ => l.length - (intOf i).toNat)
  case atStart => exact ⟨0, Nat.zero_le _, rfl, fun j _ h => absurd h (by omega), Below.refl _ _⟩
  case round =>
    obtain ⟨k, hk, rfl, hall, hbr⟩ := hrel
    by_cases hlt : k < l.length
    · have hS := HS.out.on hbr.out
      have hX := HX.out.on hbr.out
      obtain ⟨g, off, rfl, hg, c0, c1⟩ := ids_get hS hlt
      have d0 := id_c0 hX
      have d1 := id_c1 hX
      have hq : ∀ q, Hid (Below wb.heap.size wb (wr.drewN q)) := fun q => below_drewN hbr.out q
      have hfin : ∀ q, Hid (Below w.heap.size w (wr.drewN q)) := fun q => HB.out.trans (((hq q).out).mono HB.out.size)
      have EQ := fun W => eql_id l[k] x W
      by_cases he : l[k] = x
      · have hyes : Hid (decide (x ∈ l) = true) := decide_eq_true (he ▸ List.getElem_mem _)
        rw [decide_eq_true he] at EQ
        generalize l[k] = y at *
        clear hS hX hall hbr he
        go_wp2
        go_quiet (fail)
        go_wp2
        go_ret
        rw [hyes.out]
        exact ⟨rfl, (hfin _).out⟩
      · rw [decide_eq_false he] at EQ
        have hnew : Hid (∀ j (hj : j < l.length), j < k + 1 → l[j] ≠ x) := fun j hj hjk => by
          by_cases h : j = k
          · subst h; exact he
          · exact hall.out j hj (by omega)
        generalize l[k] = y at *
        clear hS hX hall hbr he
        go_wp2
        go_quiet (fail)
        go_wp2
        go_roundw
        case rel => exact ⟨k + 1, by omega, by go_num, hnew, hq _⟩
        case measure => simp [intOf]; omega
    · obtain rfl : k = l.length := by omega
      have hno : Hid (decide (x ∈ l) = false) := decide_eq_false fun h => by
        obtain ⟨j, hj, e⟩ := List.getElem_of_mem h
        exact hall.out j hj hj e
      have hfin : Hid (Below w.heap.size w wr) := HB.out.trans (hbr.out.mono HB.out.size)
      clear hall hbr
      go_wp2
      go_ret
      rw [hno.out]
      exact ⟨rfl, hfin.out⟩
set_option maxHeartbeats 2000000 in
set_option maxRecDepth 100000 in
theorem refisame_any (A A2 : Option Addr) (l m : List Im) (cap cap2 : Nat) (w : World) (hs : Ids w w.heap.size A l) (ht : Ids w w.heap.size A2 m) (hn : l.length ≤ 1000000) (hn2 : m.length ≤ 1000000) :
    Calls Tryz.prog 8 #[.slice A l.length cap, .slice A2 m.length cap2] w fun e w' => e = .returned (.bool (decide (l = m))) ∧ Below w.heap.size w w' := by
  by_cases hl : l.length = m.length
  · have Hl := Lib.hid hl
    have hb1 : (((l.length : Int)) != (m.length : Int)) = false := by simp; omega
    have HS := Lib.hid hs
    have HM := Lib.hid ht
    clear hl hs ht
    go_enter Tryz.func8, Tryz.ntmps8
    go_wp2
    go_loopw [5] (fun i wr => ∃ k : Nat, k ≤ l.length ∧ i = .int .i64 (k : Int) ∧ Hid (∀ j (hj : j < l.length) (hj2 : j < m.length), j < k → l[j] = m[j]) ∧ Hid (Below w.heap.size w wr)) (fun i _ => l.length - (intOf i).toNat)
    case atStart => exact ⟨0, Nat.zero_le _, rfl, fun j _ _ h => absurd h (by omega), Below.refl _ _⟩
    case round =>
      obtain ⟨k, hk, rfl, hall, hbr⟩ := hrel
      by_cases hlt : k < l.length
      · have hlt2 : k < m.length := by have := Hl.out; omega
        obtain ⟨g, off, rfl, _, c0, c1⟩ := ids_get (HS.out.on hbr.out) hlt
        obtain ⟨g2, off2, rfl, _, d0, d1⟩ := ids_get (HM.out.on hbr.out) hlt2
        have hq : ∀ q, Hid (Below w.heap.size w (wr.drewN q)) := fun q => below_drewN hbr.out q
        have EQ := fun W => neq_id l[k] m[k] W
        by_cases he : l[k] = m[k]
        · rw [decide_eq_true he, Bool.not_true] at EQ
          have hnew : Hid (∀ j (hj : j < l.length) (hj2 : j < m.length), j < k + 1 → l[j] = m[j]) := fun j hj hj2 hjk => by
            by_cases h : j = k
            · subst h; exact he
            · exact hall.out j hj hj2 (by omega)
          generalize l[k] = y at *
          generalize m[k] = z at *
          clear hall hbr he
          go_wp2
          go_quiet (fail)
          go_wp2
          go_roundw
          case rel => exact ⟨k + 1, by omega, by go_num, hnew, hq _⟩
          case measure => simp [intOf]; omega
        · rw [decide_eq_false he, Bool.not_false] at EQ
          have hno : Hid (decide (l = m) = false) := decide_eq_false fun h => by subst h; exact he rfl
          generalize l[k] = y at *
          generalize m[k] = z at *
          clear hall hbr he
          go_wp2
          go_quiet (fail)
          go_wp2
          go_ret
          rw [hno.out]
          exact ⟨rfl, (hq _).out⟩
      · obtain rfl : k = l.length := by omega
        have hyes : Hid (decide (l = m) = true) := decide_eq_true (List.ext_getElem Hl.out fun j h1 h2 => hall.out j h1 h2 h1)
        clear hall
        go_wp2
        go_ret
        rw [hyes.out]
        exact ⟨rfl, hbr.out⟩
  · have hno : Hid (decide (l = m) = false) := decide_eq_false fun h => hl (by rw [h])
    have hb1 : (((l.length : Int)) != (m.length : Int)) = true := by simp; omega
    have HB : Hid (Below w.heap.size w w) := Below.refl _ _
    clear hs ht hl
    go_enter Tryz.func8, Tryz.ntmps8
    go_wp2
    go_ret
    rw [hno.out]
    exact ⟨rfl, HB.out⟩
set_option maxHeartbeats 2000000 in
set_option maxRecDepth 100000 in
theorem refimeet_any (A A2 : Option Addr) (l m : List Im) (cap cap2 : Nat) (w : World) (hs : Ids w w.heap.size A l) (ht : Ids w w.heap.size A2 m) (hn : l.length ≤ 1000000) (hn2 : m.length ≤ 1000000) :
    Calls Tryz.prog 14 #[.slice A l.length cap, .slice A2 m.length cap2] w fun e w' => e = .returned (.bool (meetI (ikeys l) (ikeys m))) ∧ Below w.heap.size w w' := by
  have HS := Lib.hid hs
  have HM := Lib.hid ht
  clear hs ht
  go_enter Tryz.func14, Tryz.ntmps14
  go_wp2
  go_loopw [5] (fun i wr => ∃ k : Nat, k ≤ l.length ∧ i = .int .i64 (k : Int) ∧ Hid (∀ j (hj : j < l.length), j < k → l[j] ∉ m) ∧ Hid (Below w.heap.size w wr)) (fun i _ => l.length - (intOf i).toNat)
  case atStart => exact ⟨0, Nat.zero_le _, rfl, fun j _ h => absurd h (by omega), Below.refl _ _⟩
  case round =>
    obtain ⟨k, hk, rfl, hall, hbr⟩ := hrel
    by_cases hlt : k < l.length
    · obtain ⟨g, off, rfl, _, c0, c1⟩ := ids_get (HS.out.on hbr.out) hlt
      have CH := Lib.hid (refihas_any A2 m cap2 l[k] wr (HM.out.on hbr.out) hn2)
      by_cases he : l[k] ∈ m
      · have hyes : Hid (meetI (ikeys l) (ikeys m) = true) := by
          show _ = _
          unfold meetI
          rw [List.any_eq_true]
          exact ⟨l[k].key, mem_ikeys.2 (List.getElem_mem _), decide_eq_true (mem_ikeys.2 he)⟩
        rw [decide_eq_true he] at CH
        generalize l[k] = y at *
        unfold Im.val at CH
        clear hall he
        go_wp2_with fail
        refine CH.out.mono ?_
        rintro e w1 ⟨rfl, hb⟩
        have hf := Lib.hid (hbr.out.trans (hb.mono hbr.out.size))
        clear CH hb
        go_wp2
        go_ret
        rw [hyes.out]
        exact ⟨rfl, hf.out⟩
      · rw [decide_eq_false he] at CH
        have hnew : Hid (∀ j (hj : j < l.length), j < k + 1 → l[j] ∉ m) := fun j hj hjk => by
          by_cases h : j = k
          · subst h; exact he
          · exact hall.out j hj (by omega)
        generalize l[k] = y at *
        unfold Im.val at CH
        clear hall he
        go_wp2_with fail
        refine CH.out.mono ?_
        rintro e w1 ⟨rfl, hb⟩
        have hf := Lib.hid (hbr.out.trans (hb.mono hbr.out.size))
        clear CH hb
        go_wp2
        go_roundw
        case rel => exact ⟨k + 1, by omega, by go_num, hnew, hf⟩
        case measure => simp [intOf]; omega
    · obtain rfl : k = l.length := by omega
      have hno : Hid (meetI (ikeys l) (ikeys m) = false) := by
        show _ = _
        unfold meetI
        rw [List.any_eq_false]
        intro z hz h
        obtain ⟨j, hj, rfl⟩ := List.getElem_of_mem hz
        rw [ikeys_get, decide_eq_true_eq, mem_ikeys] at h
        rw [ikeys_len] at hj
        exact hall.out j hj hj h
      clear hall
      go_wp2
      go_ret
      rw [hno.out]
      exact ⟨rfl, hbr.out⟩
end Go.Proofs.YthenlajknoddcaaGreatDoor
