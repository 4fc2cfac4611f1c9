
/- Layer 11: light; the law IdentRows, over package ident's calls. -/
import Derived.Test.YthenlajknoddcaaGreatDoorIdAwake
namespace Go.Proofs.YthenlajknoddcaaGreatDoor
open Go.RowKit
set_option linter.unusedVariables false

def lightI (l : List Im) : Bool := l.all (fun x => decide (x.p.size ≤ 100)) && decide (l.length ≤ 40)
theorem lightI_facts {l : List Im} (h : lightI l = true) : (∀ x ∈ l, x.p.size ≤ 100) ∧ l.length ≤ 40 := by
  unfold lightI at h
  rw [Bool.and_eq_true, List.all_eq_true, decide_eq_true_eq] at h
  exact ⟨fun x hx => of_decide_eq_true (h.1 x hx), h.2⟩
set_option maxHeartbeats 2000000 in
set_option maxRecDepth 100000 in
theorem idlight_any (A : Option Addr) (l : List Im) (c : Nat) (w : World) (hs : Ids w w.heap.size A l) (hn : l.length ≤ 9223372036854775807) :
    Calls Tryz.prog 4 #[.slice A l.length c] w fun e w' => e = .returned (.bool (lightI l)) ∧ w = w' := by
  go_enter Tryz.func4, Tryz.ntmps4
  go_wp2
  go_loop [3] (fun i => ∃ k : Nat, k ≤ l.length ∧ i = .int .i64 (k : Int) ∧ Hid (∀ j (hj : j < l.length), j < k → l[j].p.size ≤ 100)) (fun i => l.length - (intOf i).toNat)
  case atStart => exact ⟨0, Nat.zero_le _, rfl, fun j _ h => absurd h (by omega)⟩
  case round =>
    -- @M0
    obtain ⟨k, hk, rfl, hall⟩ := hrel
    by_cases hlt : k < l.length
    · obtain ⟨g, off, rfl, hg, c0, c1⟩ := ids_get hs hlt
      by_cases he : l[k].p.size ≤ 100
      · have hnew : Hid (∀ j (hj : j < l.length), j < k + 1 → l[j].p.size ≤ 100) := fun j hj hjk => by
          by_cases h : j = k
          · subst h; exact he
          · exact hall.out j hj (by omega)
        generalize l[k] = y at *
        have g1 : ¬ (100 : Int) < (y.p.size : Int) := by omega
        have g2 : ¬ (y.p.size : Int) > 100 := g1
        clear hall he hs c1
        go_wp2
        go_round
        case rel => exact ⟨k + 1, by omega, by go_num, hnew⟩
        case measure => simp [intOf]; omega
      · have hno : Hid (lightI l = false) := by
          show _ = _
          cases h : lightI l
          · rfl
          · exact absurd ((lightI_facts h).1 _ (List.getElem_mem hlt)) he
        generalize l[k] = y at *
        have g1 : (100 : Int) < (y.p.size : Int) := by omega
        have g2 : (y.p.size : Int) > 100 := g1
        clear hall he hs c1
        go_wp2
        go_ret
        rw [hno.out]
        exact ⟨rfl, rfl⟩
    · obtain rfl : k = l.length := by omega
      have hv : Hid (lightI l = decide ((l.length : Int) ≤ 40)) := by
        show _ = _
        unfold lightI
        rw [show l.all (fun x => decide (x.p.size ≤ 100)) = true from List.all_eq_true.2 fun x hx => by
          obtain ⟨j, hj, rfl⟩ := List.getElem_of_mem hx
          exact decide_eq_true (hall.out j hj hj), Bool.true_and]
        exact decide_eq_decide.2 ⟨fun h => by omega, fun h => by omega⟩
      clear hall hs
      go_wp2
      go_ret
      rw [hv.out]
      exact ⟨rfl, rfl⟩
theorem rowI_out {p : List UInt8} {first n : Int} (h : ¬ (0 ≤ first ∧ 1 ≤ n ∧ n ≤ 2000)) : rowI p first n = [] := by
  unfold rowI
  rw [if_neg h]
theorem rowI_in {p : List UInt8} {first : Int} {m : Nat} (h : 0 ≤ first) (h1 : 1 ≤ m) (h2 : m ≤ 2000) : rowI p first (m : Int) = (List.range m).map fun (i : Nat) => (p, first + (i : Int)) := by
  unfold rowI
  rw [if_pos ⟨h, by omega, by omega⟩, Int.toNat_natCast]
theorem row_len {l : List Im} {p : List UInt8} {first : Int} {m : Nat} (h : ikeys l = (List.range m).map fun (i : Nat) => (p, first + (i : Int))) : l.length = m := by
  rw [← ikeys_len, h]
  simp
theorem row_get {l : List Im} {p : ByteArray} {first : Int} {m : Nat} (h : ikeys l = (List.range m).map fun (i : Nat) => (p.data.toList, first + (i : Int))) (k : Nat) (hk : k < l.length) : l[k].p = p ∧ l[k].n = first + (k : Int) := by
  have h1 : (ikeys l)[k]? = some l[k].key := by rw [List.getElem?_eq_getElem (by rw [ikeys_len]; exact hk), ikeys_get]
  have hm := row_len h
  rw [h, List.getElem?_map, List.getElem?_range (by omega)] at h1
  simp only [Option.map_some, Option.some.injEq, Im.key, Prod.mk.injEq] at h1
  exact ⟨(bytes_inj h1.1).symm, h1.2.symm⟩
end Go.Proofs.YthenlajknoddcaaGreatDoor
