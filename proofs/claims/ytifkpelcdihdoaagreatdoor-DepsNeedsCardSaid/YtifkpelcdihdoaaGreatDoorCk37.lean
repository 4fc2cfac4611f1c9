/- Package deps' calls, whole. Rows of patches that come in. -/
import Derived.Test.YtifkpelcdihdoaaGreatDoorProg
import Derived.WalkKit
import Derived.WalkSpells
import Derived.Handy
import Derived.Lib.Hide
import Derived.Shelf.Strings.BuilderK
import Derived.BigQuiet
import Derived.Deep.QuietTactic
import Derived.Lib.AtoiAllCases
import Derived.Lib.ItoaMem
import Derived.Test.YtifkpelcdihdoaaGreatDoorShelf
import Derived.Deep.RegionHeld3
import Derived.Deep.CutRange
import Derived.Lib.AppendIntMem
import Derived.BigRegion
import Derived.Deep.RegionWith
import Derived.Lib.QuietBelow
import Derived.Deep.MidRow
import Derived.StillTailTactics
import Derived.Deep.RegionLaw
import Derived.Test.YtifkpelcdihdoaaGreatDoorCk34
import Derived.Test.YtifkpelcdihdoaaGreatDoorCk35
import Derived.Test.YtifkpelcdihdoaaGreatDoorCk36
namespace Go.Proofs.YtifkpelcdihdoaaGreatDoor
open Go.RowKit
set_option linter.unusedVariables false

theorem dep_c : DepC := ⟨dneed_any, dall_any, dusers_any, dpick_any, dorder_any, dcheck_any, dordered_any,
  fun A l c w hd hk => by
    have h := names_any_d A l c w hd.pats (by have := hd.few; omega) (fun x hx => by have := (hd.inn x hx).name; omega)
    rw [hk] at h
    have e : setS (namesD [awB, awA]) = [[97], [98]] := by decide +kernel
    rw [e] at h
    exact h,
  fun x y w ox oy kx ky => dbeside_any x y w ox oy kx ky⟩
theorem aw_d : AwD := depaw_any dep_c
end Go.Proofs.YtifkpelcdihdoaaGreatDoor
namespace Go.Proofs.YtifkpelcdihdoaaGreatDoor
open Go.ChangeShapes Go.WideShapes Go.RowKit
set_option linter.unusedVariables false

theorem open_pats {H : Type} {enc : TypeId × Value → H} {W : World} {fuel : Nat} {v : Value} {y : DataW H × List MemPlace} (hf : DataW.trod enc Tryz.prog W 0 (fun _ => true) true fuel 22 [v] = some y) :
    ∃ (A : Option Addr) (hs : List Ptm) (cap : Nat), v = .slice A hs.length cap ∧ Pats W W.heap.size A hs ∧ hs.length ≤ 9223372036854775807 ∧ Room A hs.length cap ∧ ((y.1.weights Tryz.prog 22).all (· ≤ reachBytes) = true → ∀ h ∈ hs, h.In) := by
  have hlt := DataW.trod_lt fuel _ _ _ hf
  have hC : Tryz.prog.cellsOf 35 = 3 := by kernel_rfl
  rcases Go.Deep.open_slice Tryz.underlying22 hf with ⟨hcs, _⟩ | ⟨a, len, cap, m, n, D, Pl, hcs, _, hl, hm, hmm, hx, hi⟩
  · obtain rfl : v = .slice none 0 0 := by simpa using hcs
    exact ⟨none, [], 0, rfl, ⟨Rk.Row.nil, fun x hx => by simp at hx⟩, by simp, ⟨fun _ => rfl, Nat.le_refl _⟩, fun _ h hh => by simp at hh⟩
  · obtain rfl : v = .slice (some a) len cap := by simpa using hcs
    simp only [if_true] at hmm
    unfold maxLen at hm
    obtain ⟨b, off, spot⟩ := a
    have each : ∀ i, i < len → ∃ h : Ptm, (∀ j (u : Value), (patR.enc h)[j]? = some u → W.cell? ((⟨b, off, spot⟩ : Addr).add (i * 3 + j)) = some u) ∧ h.Ok W W.heap.size ∧ (((D i).weights Tryz.prog 35).all (· ≤ reachBytes) = true → h.In) := by
      intro i hil
      obtain ⟨cs', hc, ht'⟩ := hi i (by omega)
      rw [hC] at hc
      obtain ⟨_, hcl, hat⟩ := World.cells?_some hc
      obtain ⟨h, rfl, hok, hin⟩ := open_pat ht' hcl
      refine ⟨h, fun j u hj => ?_, hok, hin⟩
      rw [← Go.Deep.add_add]
      have hj2 : j < 3 := (List.getElem?_eq_some_iff.1 hj).1
      rw [hat j hj2]
      exact hj
    obtain ⟨hs, hlen, hp⟩ := listof_id len each
    subst hlen
    refine ⟨some ⟨b, off, spot⟩, hs, cap, rfl, ⟨fun hpos => ?_, fun x hx => ?_⟩, by omega, ⟨(fun e => by cases e), hl⟩, fun hall h hh => ?_⟩
    · have h0 := (hp 0 hpos).1 0 _ rfl
      have hspot : spot = none := by simpa [Addr.add] using World.cell?_spot h0
      subst hspot
      have e : ∀ i, (⟨b, off, none⟩ : Addr).add i = ⟨b, off + i, none⟩ := fun i => by unfold Addr.add; split <;> simp_all
      refine ⟨b, off, rfl, ?_, fun i u hu => ?_⟩
      · have h1 := (hp 0 hpos).1 0 _ rfl
        rw [e] at h1
        exact rec_cell_lt h1
      · have hi2 := (List.getElem?_eq_some_iff.1 hu).1
        rw [patR.cells_len] at hi2
        obtain ⟨j, r, hj, hr, rfl⟩ := patR.at_place hs hi2
        rw [patR.cells_get hs j hj r hr] at hu
        have h1 := (hp j hj).1 r u hu
        rw [e] at h1
        exact h1
    · obtain ⟨j, hj, rfl⟩ := List.getElem_of_mem hx
      exact (hp j hj).2.1
    · obtain ⟨j, hj, rfl⟩ := List.getElem_of_mem hh
      refine (hp j hj).2.2 ?_
      rw [hx] at hall
      exact weigh_elem Tryz.underlying22 (List.mem_map.2 ⟨j, List.mem_range.2 hj, rfl⟩) hall
end Go.Proofs.YtifkpelcdihdoaaGreatDoor
