/- The statements' Light of files (layer 6) and of steps (layer 7). What a slice of strings that comes in holds. -/
import Derived.Test.YtaepfahpbnpeiaaGreatDoorCk20
import Derived.Test.YtaepfahpbnpeiaaGreatDoorCk01
import Derived.ChangeOld
import Derived.SliceStrings
import Derived.WideShapes
namespace Go.Proofs.YtaepfahpbnpeiaaGreatDoor
open Go.RowKit
set_option linter.unusedVariables false

theorem light3_facts {ls : List (List UInt8)} (h : light3B (toBs ls) = true) : LightK ls := by
  refine ⟨by have := light3B_len h; rwa [toBs_len] at this, fun x hx => ?_⟩
  unfold light3B at h
  rw [Bool.and_eq_true, List.all_eq_true] at h
  have := h.1 (toB x) (List.mem_map.2 ⟨x, hx, rfl⟩)
  rw [decide_eq_true_eq, toB_size] at this
  exact this
def light6One (f : Fm) : Bool := decide (f.p.size ≤ 300) && light3B (toBs f.ls)
def light6B (l : List Fm) : Bool := l.all light6One && decide (l.length ≤ 40)
theorem light6_no {l : List Fm} {k : Nat} (hk : k < l.length) (h : light6One l[k] = false) : light6B l = false := by
  have : l.all light6One = false := by
    rw [List.all_eq_false]
    exact ⟨l[k], List.getElem_mem _, by rw [h]; simp⟩
  simp [light6B, this]
theorem light6_yes {l : List Fm} (h : ∀ j (hj : j < l.length), light6One l[j] = true) : light6B l = decide (l.length ≤ 40) := by
  have : l.all light6One = true := by
    rw [List.all_eq_true]
    intro s hs
    obtain ⟨j, hj, rfl⟩ := List.getElem_of_mem hs
    exact h j hj
  simp [light6B, this]
theorem light6_facts {l : List Fm} (h : light6B l = true) : l.length ≤ 40 ∧ ∀ x ∈ l, light6One x = true := by
  unfold light6B at h
  rw [Bool.and_eq_true, List.all_eq_true] at h
  exact ⟨by simpa using h.2, h.1⟩
set_option maxHeartbeats 4000000 in
set_option maxRecDepth 100000 in
theorem light6_any (A : Option Addr) (l : List Fm) (cap : Nat) (w : World) (hk : Fs w w.heap.size A l) (hn : l.length ≤ 9223372036854775807) (hm : ∀ f ∈ l, f.ls.length ≤ 9223372036854775807) :
    Calls Tryz.prog 5 #[.slice A l.length cap] w fun e w' => e = .returned (.bool (light6B l)) ∧ w = w' := by
  have HK := Lib.hid hk
  clear hk
  go_enter Tryz.func5, Tryz.ntmps5
  go_wp2
  go_loop [3] (fun i => ∃ k : Nat, k ≤ l.length ∧ i = .int .i64 (k : Int) ∧ Hid (∀ j (hj : j < l.length), j < k → light6One l[j] = true)) (fun i => l.length - (intOf i).toNat)
  case atStart => exact ⟨0, Nat.zero_le _, rfl, fun j _ h => absurd h (by omega)⟩
  case round =>
    obtain ⟨k, hk, rfl, hall⟩ := hrel
    by_cases hlt : k < l.length
    · obtain ⟨b, off, rfl, _, h1, h2, h3⟩ := HK.out.get hlt
      have ok := HK.out.ok l[k] (List.getElem_mem _)
      have c1 := light3_any l[k].a (toBs l[k].ls) l[k].c w ok.ls (by rw [toBs_len]; exact hm l[k] (List.getElem_mem _))
      rw [toBs_len] at c1
      have hno := Lib.hid (light6_no hlt)
      have hyes : Hid (light6One l[k] = true → ∀ j (hj : j < l.length), j < k + 1 → light6One l[j] = true) := by
        intro h j hj hjk
        by_cases he : j = k
        · subst he; exact h
        · exact hall.out j hj (by omega)
      have hone : Hid (light6One l[k] = (decide (l[k].p.size ≤ 300) && light3B (toBs l[k].ls))) := rfl
      generalize light3B (toBs l[k].ls) = d1 at *
      generalize l[k].p = p at *
      have C1 := Lib.hid c1
      clear c1 ok hall
      generalize l[k].ls.length = m1 at *
      by_cases hp : 300 < p.size
      · have hfin := Lib.hid (hno.out (by rw [hone.out, decide_eq_false (by omega)]; rfl))
        clear C1
        clear hno hyes hone
        go_wp2
        go_ret
        rw [hfin.out]
        exact ⟨rfl, rfl⟩
      · have hp2 : p.size ≤ 300 := by omega
        cases d1
        · have hfin := Lib.hid (hno.out (by rw [hone.out, Bool.and_false]))
          clear hno hyes hone
          go_wp2_with fail
          refine C1.out.mono ?_
          rintro e w' ⟨rfl, rfl⟩
          go_wp2
          go_ret
          rw [hfin.out]
          exact ⟨rfl, rfl⟩
        · have hnew := Lib.hid (hyes.out (by rw [hone.out, decide_eq_true hp2]; rfl))
          clear hno hyes hone
          go_wp2_with fail
          refine C1.out.mono ?_
          rintro e w' ⟨rfl, rfl⟩
          go_wp2
          go_round
          case rel => exact ⟨k + 1, by omega, by go_num, hnew⟩
          case measure => simp [intOf]; omega
    · have hk2 : k = l.length := by omega
      subst hk2
      have hy := Lib.hid (light6_yes (fun j hj => hall.out j hj hj))
      clear hall
      go_wp2
      go_ret
      rw [hy.out]
      exact ⟨by simp; omega, rfl⟩
def light7One (x : Pm) : Bool := decide (x.p.size ≤ 300) && decide (x.dst.size ≤ 300) && light3B (toBs x.old) && light3B (toBs x.new)
def light7B (l : List Pm) : Bool := l.all light7One && decide (l.length ≤ 40)
theorem light7_no {l : List Pm} {k : Nat} (hk : k < l.length) (h : light7One l[k] = false) : light7B l = false := by
  have : l.all light7One = false := by
    rw [List.all_eq_false]
    exact ⟨l[k], List.getElem_mem _, by rw [h]; simp⟩
  simp [light7B, this]
theorem light7_yes {l : List Pm} (h : ∀ j (hj : j < l.length), light7One l[j] = true) : light7B l = decide (l.length ≤ 40) := by
  have : l.all light7One = true := by
    rw [List.all_eq_true]
    intro s hs
    obtain ⟨j, hj, rfl⟩ := List.getElem_of_mem hs
    exact h j hj
  simp [light7B, this]
theorem light7_facts {l : List Pm} (h : light7B l = true) : l.length ≤ 40 ∧ ∀ x ∈ l, light7One x = true := by
  unfold light7B at h
  rw [Bool.and_eq_true, List.all_eq_true] at h
  exact ⟨by simpa using h.2, h.1⟩
theorem light7_light {x : Pm} (h : light7One x = true) : x.Light := by
  unfold light7One at h
  simp only [Bool.and_eq_true, decide_eq_true_eq] at h
  exact ⟨h.1.1.1, h.1.1.2, light3_facts h.1.2, light3_facts h.2⟩
set_option maxHeartbeats 4000000 in
set_option maxRecDepth 100000 in
theorem light7_any (A : Option Addr) (l : List Pm) (cap : Nat) (w : World) (hk : Ps w w.heap.size A l) (hn : l.length ≤ 9223372036854775807) :
    Calls Tryz.prog 6 #[.slice A l.length cap] w fun e w' => e = .returned (.bool (light7B l)) ∧ w = w' := by
  have HK := Lib.hid hk
  clear hk
  go_enter Tryz.func6, Tryz.ntmps6
  go_wp2
  go_loop [3] (fun i => ∃ k : Nat, k ≤ l.length ∧ i = .int .i64 (k : Int) ∧ Hid (∀ j (hj : j < l.length), j < k → light7One l[j] = true)) (fun i => l.length - (intOf i).toNat)
  case atStart => exact ⟨0, Nat.zero_le _, rfl, fun j _ h => absurd h (by omega)⟩
  case round =>
    obtain ⟨k, hk, rfl, hall⟩ := hrel
    by_cases hlt : k < l.length
    · obtain ⟨b, off, rfl, _, h1, h2, h3, h4, h5, h6⟩ := HK.out.get hlt
      have ok := HK.out.ok l[k] (List.getElem_mem _)
      have c1 := light3_any l[k].a1 (toBs l[k].old) l[k].c1 w ok.h.old (by rw [toBs_len]; exact ok.h.n1)
      have c2 := light3_any l[k].a2 (toBs l[k].new) l[k].c2 w ok.h.new (by rw [toBs_len]; exact ok.h.n2)
      rw [toBs_len] at c1 c2
      have hno := Lib.hid (light7_no hlt)
      have hyes : Hid (light7One l[k] = true → ∀ j (hj : j < l.length), j < k + 1 → light7One l[j] = true) := by
        intro h j hj hjk
        by_cases he : j = k
        · subst he; exact h
        · exact hall.out j hj (by omega)
      have hone : Hid (light7One l[k] = (decide (l[k].p.size ≤ 300) && decide (l[k].dst.size ≤ 300) && light3B (toBs l[k].old) && light3B (toBs l[k].new))) := rfl
      generalize light3B (toBs l[k].old) = d1 at *
      generalize light3B (toBs l[k].new) = d2 at *
      generalize l[k].p = p at *
      generalize l[k].dst = q at *
      have C1 := Lib.hid c1
      have C2 := Lib.hid c2
      clear c1 c2 ok hall
      generalize l[k].old.length = m1 at *
      generalize l[k].new.length = m2 at *
      by_cases hp : 300 < p.size
      · have hfin := Lib.hid (hno.out (by rw [hone.out, decide_eq_false (by omega)]; rfl))
        clear C1 C2
        clear hno hyes hone
        go_wp2
        go_ret
        rw [hfin.out]
        exact ⟨rfl, rfl⟩
      · have hp2 : p.size ≤ 300 := by omega
        by_cases hq : 300 < q.size
        · have hfin := Lib.hid (hno.out (by rw [hone.out, decide_eq_true hp2, decide_eq_false (by omega)]; rfl))
          clear C1 C2
          clear hno hyes hone
          go_wp2
          go_ret
          rw [hfin.out]
          exact ⟨rfl, rfl⟩
        · have hq2 : q.size ≤ 300 := by omega
          cases d1
          · have hfin := Lib.hid (hno.out (by rw [hone.out, Bool.and_false]; rfl))
            clear hno hyes hone C2
            go_wp2_with fail
            refine C1.out.mono ?_
            rintro e w' ⟨rfl, rfl⟩
            go_wp2
            go_ret
            rw [hfin.out]
            exact ⟨rfl, rfl⟩
          · cases d2
            · have hfin := Lib.hid (hno.out (by rw [hone.out, Bool.and_false]))
              clear hno hyes hone
              go_wp2_with fail
              refine C1.out.mono ?_
              rintro e w' ⟨rfl, rfl⟩
              go_wp2_with fail
              refine C2.out.mono ?_
              rintro e w' ⟨rfl, rfl⟩
              go_wp2
              go_ret
              rw [hfin.out]
              exact ⟨rfl, rfl⟩
            · have hnew := Lib.hid (hyes.out (by rw [hone.out, decide_eq_true hp2, decide_eq_true hq2]; rfl))
              clear hno hyes hone
              go_wp2_with fail
              refine C1.out.mono ?_
              rintro e w' ⟨rfl, rfl⟩
              go_wp2_with fail
              refine C2.out.mono ?_
              rintro e w' ⟨rfl, rfl⟩
              go_wp2
              go_round
              case rel => exact ⟨k + 1, by omega, by go_num, hnew⟩
              case measure => simp [intOf]; omega
    · have hk2 : k = l.length := by omega
      subst hk2
      have hy := Lib.hid (light7_yes (fun j hj => hall.out j hj hj))
      clear hall
      go_wp2
      go_ret
      rw [hy.out]
      exact ⟨by simp; omega, rfl⟩
end Go.Proofs.YtaepfahpbnpeiaaGreatDoor
namespace Go.Proofs.YtaepfahpbnpeiaaGreatDoor
open Go.ChangeShapes Go.WideShapes Go.RowKit
set_option linter.unusedVariables false

theorem open_strs {H : Type} {enc : TypeId × Value → H} {W : World} {fuel : Nat} {v : Value} {y : DataW H × List MemPlace} (hf : DataW.trod enc Tryz.prog W 0 (fun _ => true) true fuel 36 [v] = some y) :
    ∃ (A : Option Addr) (ss : List ByteArray) (cap : Nat), v = .slice A ss.length cap ∧ Strs W W.heap.size A ss ∧ ss.length ≤ 9223372036854775807 ∧ Room A ss.length cap := by
  have hlt := DataW.trod_lt fuel _ _ _ hf
  rcases open_strings Tryz.underlying36 Tryz.underlying9 (by kernel_rfl) hf with ⟨hcs, hx⟩ | ⟨x, l, c, zs, hcs, _, hl, hm, hz, hx, hcell, hwz⟩
  · simp at hcs
    subst hcs
    exact ⟨none, [], 0, rfl, Strs.none_, by simp, fun _ => rfl, Nat.le_refl _⟩
  · simp at hcs
    subst hcs
    simp only [if_true] at hz
    subst hx
    unfold maxLen at hm
    have hl2 : (zs.take l).length = l := by rw [List.length_take]; omega
    refine ⟨some x, zs.take l, c, by rw [hl2], fun hpos => ?_, by omega, (fun e => by cases e), by omega⟩
    rw [hl2] at hpos
    obtain ⟨b, off, spot⟩ := x
    have hspot : spot = none := by simpa [Addr.add] using World.cell?_spot (hcell 0 (by omega))
    subst hspot
    refine ⟨b, off, rfl, ?_, fun j hj => ?_⟩
    · have := hlt (.cell b off) (MemPlace.mem_row.2 ⟨0, by omega, by simp⟩)
      exact this
    · have hj2 : j < l := by omega
      have hc := hcell j (by omega)
      have e : (⟨b, off, none⟩ : Addr).add j = ⟨b, off + j, none⟩ := by unfold Addr.add; split <;> simp_all
      rw [e] at hc
      rw [hc, List.getElem_take]
      simp [List.getD_eq_getElem?_getD, List.getElem?_eq_getElem (show j < zs.length by omega)]
end Go.Proofs.YtaepfahpbnpeiaaGreatDoor
