/- What a slice of files that comes in holds. -/
import Derived.BigQuiet
import Derived.Deep.QuietTactic
import Derived.Handy
import Derived.Deep.Slices
import Derived.Deep.Fields
import Derived.ChangeSame
import Derived.Test.YtalabahjfmcnbaaGreatDoorCk22
import Derived.Test.YtalabahjfmcnbaaGreatDoorCk48
namespace Go.Proofs.YtalabahjfmcnbaaGreatDoor
open Go.ChangeShapes Go.WideShapes Go.RowKit
set_option linter.unusedVariables false

set_option maxRecDepth 10000 in
theorem open_file {H : Type} {enc : TypeId × Value → H} {W : World} {fuel : Nat} {cs : List Value} {y : DataW H × List MemPlace} (hf : DataW.trod enc Tryz.prog W 0 (fun _ => true) true fuel 62 cs = some y) (hl : cs.length = 3) :
    ∃ h : Fm, cs = h.cells ∧ h.Ok W W.heap.size ∧ h.p.size ≤ 9223372036854775807 ∧ h.ls.length ≤ 9223372036854775807 := by
  obtain ⟨xs, n, _, _, _, hlen, hg⟩ := DataW.trod_struct Tryz.underlying62 hf
  match cs, hl with
  | [c0, c1, c2], _ =>
    match xs, hlen with
    | [y0, y1, y2], _ =>
      have g0 : DataW.trod enc Tryz.prog W 0 (fun _ => true) true n 9 [c0] = some y0 := hg 0 _ rfl
      have g1 : DataW.trod enc Tryz.prog W 0 (fun _ => true) true n 4 [c1] = some y1 := hg 1 _ rfl
      have g2 : DataW.trod enc Tryz.prog W 0 (fun _ => true) true n 31 [c2] = some y2 := hg 2 _ rfl
      obtain ⟨s0, hc0, _, z0⟩ := DataW.trod_string Tryz.underlying9 g0
      obtain rfl : c0 = .string s0 := by simpa using hc0
      obtain ⟨d, hc1, _⟩ := DataW.trod_bool Tryz.underlying4 g1
      obtain rfl : c1 = .bool d := by simpa using hc1
      obtain ⟨A2, s2, p2, rfl, hs2, hm2, hr2⟩ := open_strs g2
      clear g0 g1 g2 hc0 hc1
      refine ⟨⟨s0, d, A2, p2, lists s2⟩, by simp [Fm.cells, lists_len], ⟨by rw [toBs_lists]; exact hs2, by rw [lists_len]; exact hr2⟩, Nat.le_trans z0 (by decide), by rw [lists_len]; exact hm2⟩

theorem open_files {H : Type} {enc : TypeId × Value → H} {W : World} {fuel : Nat} {v : Value} {y : DataW H × List MemPlace} (hf : DataW.trod enc Tryz.prog W 0 (fun _ => true) true fuel 38 [v] = some y) :
    ∃ (A : Option Addr) (hs : List Fm) (cap : Nat), v = .slice A hs.length cap ∧ Fs W W.heap.size A hs ∧ hs.length ≤ 9223372036854775807 ∧ Room A hs.length cap ∧ ∀ h ∈ hs, h.p.size ≤ 9223372036854775807 ∧ h.ls.length ≤ 9223372036854775807 := by
  have hlt := DataW.trod_lt fuel _ _ _ hf
  have hC : Tryz.prog.cellsOf 62 = 3 := by kernel_rfl
  rcases Go.Deep.open_slice Tryz.underlying38 hf with ⟨hcs, _⟩ | ⟨a, len, cap, m, n, D, Pl, hcs, _, hl, hm, hmm, hx, hi⟩
  · obtain rfl : v = .slice none 0 0 := by simpa using hcs
    exact ⟨none, [], 0, rfl, Fs.nil, by simp, ⟨fun _ => rfl, Nat.le_refl _⟩, by simp⟩
  · obtain rfl : v = .slice (some a) len cap := by simpa using hcs
    simp only [if_true] at hmm
    unfold maxLen at hm
    obtain ⟨b, off, spot⟩ := a
    have each : ∀ i, i < len → ∃ h : Fm, (∀ j (u : Value), h.cells[j]? = some u → W.cell? ((⟨b, off, spot⟩ : Addr).add (i * 3 + j)) = some u) ∧ h.Ok W W.heap.size ∧ h.p.size ≤ 9223372036854775807 ∧ h.ls.length ≤ 9223372036854775807 := by
      intro i hil
      obtain ⟨cs', hc, ht'⟩ := hi i (by omega)
      rw [hC] at hc
      obtain ⟨_, hcl, hat⟩ := World.cells?_some hc
      obtain ⟨h, rfl, hok⟩ := open_file ht' hcl
      refine ⟨h, fun j u hj => ?_, hok⟩
      rw [← Go.Deep.add_add]
      have hj3 : j < 3 := by
        have := (List.getElem?_eq_some_iff.1 hj).1
        exact this
      rw [hat j hj3, hj]
    obtain ⟨hs, hlen, hp⟩ := list_of_steps len each
    subst hlen
    refine ⟨some ⟨b, off, spot⟩, hs, cap, rfl, ⟨fun hpos => ?_, fun h hh => ?_⟩, by omega, ⟨(fun e => by cases e), hl⟩, fun h hh => by
      obtain ⟨j, hj, rfl⟩ := List.getElem_of_mem hh
      exact (hp j hj).2.2⟩
    · have h0 := (hp 0 hpos).1 0 _ rfl
      have hspot : spot = none := by simpa [Addr.add] using World.cell?_spot h0
      subst hspot
      have e : ∀ i, (⟨b, off, none⟩ : Addr).add i = ⟨b, off + i, none⟩ := fun i => by unfold Addr.add; split <;> simp_all
      refine ⟨b, off, rfl, ?_, fun j hj => ?_⟩
      · have h1 := (hp 0 hpos).1 0 _ rfl
        rw [e] at h1
        unfold World.cell? at h1
        rcases Nat.lt_or_ge b W.heap.size with h2 | h2
        · exact h2
        · rw [Array.getElem?_eq_none h2] at h1; simp at h1
      · have k0 := (hp j hj).1 0 _ rfl
        have k1 := (hp j hj).1 1 _ rfl
        have k2 := (hp j hj).1 2 _ rfl
        rw [e] at k0 k1 k2
        exact ⟨k0, k1, k2⟩
    · obtain ⟨j, hj, rfl⟩ := List.getElem_of_mem hh
      exact (hp j hj).2.1
end Go.Proofs.YtalabahjfmcnbaaGreatDoor
