
/- Words for memory: rows of calls of a tree; what a call's answer is made of. -/
import Derived.Test.YtcjiipmageddhaaDoorTreeDo
import Derived.Test.YtcjiipmageddhaaDoorLight03
import Derived.Test.YtcjiipmageddhaaDoorRefFiles
namespace Go.Proofs.YtcjiipmageddhaaDoor
open Go.RowKit
set_option linter.unusedVariables false

structure Cm.Ok (c : Cm) (w : World) (B : Nat) : Prop where
  ls : Strs w B c.a (toBs c.ls)
  r : Room c.a c.ls.length c.c
  n : c.ls.length ≤ 9223372036854775807
  p : c.p.size ≤ 9223372036854775807
  q : c.dst.size ≤ 9223372036854775807
  lo : -9223372036854775808 ≤ c.kind
  hi : c.kind ≤ 9223372036854775807
/-- Calls lie at A, four cells each, in a block below B. -/
structure Cs (w : World) (B : Nat) (A : Option Addr) (cs : List Cm) : Prop where
  at_ : 0 < cs.length → ∃ b off, A = some ⟨b, off, none⟩ ∧ b < B ∧ ∀ j (h : j < cs.length), w.cell? ⟨b, off + j * 4, none⟩ = some (.int .i64 cs[j].kind) ∧ w.cell? ⟨b, off + j * 4 + 1, none⟩ = some (.string cs[j].p) ∧
    w.cell? ⟨b, off + j * 4 + 2, none⟩ = some (.string cs[j].dst) ∧ w.cell? ⟨b, off + j * 4 + 3, none⟩ = some (.slice cs[j].a cs[j].ls.length cs[j].c)
  ok : ∀ c ∈ cs, c.Ok w B
section
variable {w w' : World} {B B' : Nat} {A : Option Addr} {cs : List Cm} {c : Cm}
theorem Cm.Ok.below (k : c.Ok w B) (hb : Below B w w') : c.Ok w' B := ⟨k.ls.below hb, k.r, k.n, k.p, k.q, k.lo, k.hi⟩
theorem Cm.Ok.more (k : c.Ok w B) (hB : B ≤ B') : c.Ok w B' := ⟨k.ls.more hB, k.r, k.n, k.p, k.q, k.lo, k.hi⟩
theorem Cm.Ok.on (k : c.Ok w w.heap.size) (hb : Below w.heap.size w w') : c.Ok w' w'.heap.size := (k.below hb).more hb.size
theorem Cs.nil : Cs w B A [] := ⟨fun h => absurd h (by simp), fun h hh => by cases hh⟩
theorem Cs.get (k : Cs w B A cs) (hb : Below B w w') {j : Nat} (hj : j < cs.length) : ∃ b off, A = some ⟨b, off, none⟩ ∧ b < B ∧ w'.cell? ⟨b, off + j * 4, none⟩ = some (.int .i64 cs[j].kind) ∧ w'.cell? ⟨b, off + j * 4 + 1, none⟩ = some (.string cs[j].p) ∧
    w'.cell? ⟨b, off + j * 4 + 2, none⟩ = some (.string cs[j].dst) ∧ w'.cell? ⟨b, off + j * 4 + 3, none⟩ = some (.slice cs[j].a cs[j].ls.length cs[j].c) := by
  obtain ⟨b, off, e, hlt, hc⟩ := k.at_ (by omega)
  obtain ⟨h1, h2, h3, h4⟩ := hc j hj
  exact ⟨b, off, e, hlt, (hb.cell (p := ⟨b, _, none⟩) hlt).trans h1, (hb.cell (p := ⟨b, _, none⟩) hlt).trans h2, (hb.cell (p := ⟨b, _, none⟩) hlt).trans h3, (hb.cell (p := ⟨b, _, none⟩) hlt).trans h4⟩
end
/-- Of what the files are made that a call leaves. -/
theorem do_mem {fs : List Fm} {c : Cm} {ck : Int} {g : Fm} (h : g ∈ (doF fs c ck).2) : g ∈ fs ∨ ((g.p = c.p ∨ g.p = c.dst) ∧ (g.ls = [] ∨ g.ls = c.ls ∨ ∃ f ∈ fs, g.ls = f.ls)) := by
  unfold doF at h
  split at h
  · exact .inl h
  · split at h
    · split at h
      · split at h
        · exact .inl h
        · rcases with_mem h with h | rfl
          · exact .inl h
          · exact .inr ⟨.inl rfl, .inl rfl⟩
      · split at h
        · split at h
          · exact .inl h
          · split at h
            · exact .inl h
            · rcases with_mem h with h | rfl
              · exact .inl h
              · exact .inr ⟨.inl rfl, .inr (.inl rfl)⟩
        · exact .inl h
    · rename_i f hf
      have hfm := List.mem_of_find?_eq_some hf
      split at h
      · exact .inl h
      · split at h
        · split at h
          · exact .inl h
          · split at h
            · exact .inl h
            · rcases with_mem h with h | rfl
              · exact .inl h
              · exact .inr ⟨.inl rfl, .inr (.inl rfl)⟩
        · split at h
          · split at h
            · exact .inl h
            · exact .inl (List.mem_filter.1 h).1
          · split at h
            · exact .inl h
            · split at h
              · exact .inl h
              · split at h
                · exact .inl h
                · rcases with_mem h with h | rfl
                  · exact .inl (List.mem_filter.1 h).1
                  · exact .inr ⟨.inr rfl, .inr (.inr ⟨f, hfm, rfl⟩)⟩
theorem do_len (fs : List Fm) (c : Cm) (ck : Int) : (doF fs c ck).2.length ≤ fs.length + 1 := by
  unfold doF
  split
  · exact Nat.le_succ _
  · split
    · split
      · split
        · exact Nat.le_succ _
        · exact with_len _ _
      · split
        · split
          · exact Nat.le_succ _
          · split
            · exact Nat.le_succ _
            · exact with_len _ _
        · exact Nat.le_succ _
    · split
      · exact Nat.le_succ _
      · split
        · split
          · exact Nat.le_succ _
          · split
            · exact Nat.le_succ _
            · exact with_len _ _
        · split
          · split
            · exact Nat.le_succ _
            · exact Nat.le_trans (without_len _ _) (Nat.le_succ _)
          · split
            · exact Nat.le_succ _
            · split
              · exact Nat.le_succ _
              · split
                · exact Nat.le_succ _
                · refine Nat.le_trans (with_len _ _) ?_
                  have := without_len fs c.p
                  show _ ≤ _
                  omega
theorem light_short {ls : List (List UInt8)} (h : light3B (toBs ls) = true) : LightK ls := by
  unfold light3B at h
  rw [Bool.and_eq_true, List.all_eq_true, decide_eq_true_eq, toBs_len] at h
  refine ⟨h.2, fun x hx => ?_⟩
  have := h.1 (toB x) (List.mem_map.2 ⟨x, hx, rfl⟩)
  simpa [toB, ByteArray.size] using this
end Go.Proofs.YtcjiipmageddhaaDoor
