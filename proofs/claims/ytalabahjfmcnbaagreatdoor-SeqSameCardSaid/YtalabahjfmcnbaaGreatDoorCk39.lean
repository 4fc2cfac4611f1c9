/- Words for memory: rows of files. Rows of files that a call makes: append; parts of rows. Rows held while blocks are made. -/
import Derived.Deep.AppendLies
import Derived.BigQuiet
import Derived.Deep.QuietTactic
import Derived.Handy
import Derived.Laws.AppendOwnNone
import Derived.OwnWalk
import Derived.Test.YtalabahjfmcnbaaGreatDoorCk01
namespace Go.Proofs.YtalabahjfmcnbaaGreatDoor
open Go.RowKit
set_option linter.unusedVariables false

theorem fkeys_len (fs : List Fm) : (fkeys fs).length = fs.length := by simp [fkeys]
theorem fkeys_get (fs : List Fm) (j : Nat) (h : j < (fkeys fs).length) : (fkeys fs)[j] = (fs[j]'(by rw [fkeys_len] at h; exact h)).key := by simp [fkeys]
section
variable {w w' : World} {B B' : Nat} {A : Option Addr} {fs : List Fm} {f : Fm}
end

section
variable {w w' : World} {g : Nat} {f : Fm}
end

theorem info_file : (Tryz.prog.info? 62).map (fun i => (i.zero, i.size, i.bytes)) = some (some (.agg #[.string ByteArray.empty, .bool false, .slice none 0 0]), 3, 48) := by kernel_rfl
end Go.Proofs.YtalabahjfmcnbaaGreatDoor
namespace Go.Proofs.YtalabahjfmcnbaaGreatDoor
open Go.RowKit
set_option linter.unusedVariables false

theorem oneCell_file (fs : List Fm) : ∀ u ∈ fcells fs, u.oneCell' = true := by
  intro u hu
  unfold fcells at hu
  rw [List.mem_flatMap] at hu
  obtain ⟨f, _, h⟩ := hu
  simp only [Fm.cells, List.mem_cons, List.not_mem_nil, or_false] at h
  rcases h with rfl | rfl | rfl <;> rfl
theorem wpList_append_files {w : World} {ops : Array Oper} {rest : List Oper} {o : Oper} {a : Act} {Q : Exit → Act → World → Prop} (hgd : o.guard = none) (s x : Operand)
    (ho : o.op = .call { callee := .builtin .append, args := #[s, x], argTypes := #[38, 38] })
    (B : Nat) (v : Value) (fs tt : List Fm) (hs : a.eval s = v) (hown : OwnF w B v fs) (A : Option Addr) (cap n : Nat) (hx : a.eval x = .slice A n cap) (hn : n = tt.length) (hnil : A = none → cap = 0) (ht : FCells w A tt) (hB : B ≤ w.heap.size) (hle : fs.length + tt.length ≤ 1000000)
    (h : ∀ v' w', OwnF w' B v' (fs ++ tt) → w.grownBy w' v.ownBlock → wpList Tryz.prog ops Q rest (a.put o.dst v') w') : wpList Tryz.prog ops Q (o :: rest) a w := by
  subst hn
  obtain ⟨i0, hi, hz0, hz1, hz2⟩ := info_parts info_file
  cases A with
  | none =>
    have h0 : tt = [] := by
      cases tt with
      | nil => rfl
      | cons y r => exact absurd (ht (by simp)) (by rintro ⟨_, _, e, _⟩; cases e)
    subst h0
    rw [hnil rfl] at hx
    refine wpList_append_own_none hgd s x 38 ho B 62 i0 3 Tryz.underlying38 hi v _ _ hs hown hx ?_
    exact h v w (by simpa using hown) ⟨rfl, rfl, rfl, Nat.le_refl _, fun _ _ _ => rfl⟩
  | some ad =>
    refine wpList_append_own w hgd s x 38 ho B 62 i0 _ 3 48 Tryz.underlying38 hi hz0 hz1 hz2 rfl (by decide) v fs.length (fcells fs) hs hown ad tt.length cap (fcells tt) hx (fcells_len tt) ?_ (oneCell_file tt) (by unfold maxLen; omega) (by omega) hB ?_
    · intro j u hu
      obtain ⟨hj, hju⟩ := List.getElem?_eq_some_iff.1 hu
      rw [fcells_len] at hj
      obtain ⟨b, off, e, hc⟩ := ht (by omega)
      simp only [Option.some.injEq] at e
      subst e
      rw [addr_add]
      exact hc j u hu
    · intro v' w' hown' hgrow _
      refine h v' w' ?_ hgrow
      unfold OwnF
      rw [List.length_append, fcells_app]
      exact hown'
/-- The same, the new row's address and room named. -/
theorem wpList_append_frow {w : World} {ops : Array Oper} {rest : List Oper} {o : Oper} {a : Act} {Q : Exit → Act → World → Prop} (hgd : o.guard = none) (s x : Operand)
    (ho : o.op = .call { callee := .builtin .append, args := #[s, x], argTypes := #[38, 38] })
    (B : Nat) (v : Value) (fs tt : List Fm) (hs : a.eval s = v) (hown : OwnF w B v fs) (A : Option Addr) (cap n : Nat) (hx : a.eval x = .slice A n cap) (hn : n = tt.length) (hnil : A = none → cap = 0) (ht : FCells w A tt) (hB : B ≤ w.heap.size) (hle : fs.length + tt.length ≤ 1000000)
    (m : Nat) (hm : m = fs.length + tt.length)
    (h : ∀ A' cap' w', OwnF w' B (.slice A' m cap') (fs ++ tt) → w.grownBy w' v.ownBlock → wpList Tryz.prog ops Q rest (a.put o.dst (.slice A' m cap')) w') : wpList Tryz.prog ops Q (o :: rest) a w := by
  refine wpList_append_files hgd s x ho B v fs tt hs hown A cap n hx hn hnil ht hB hle fun v' w' ho' hg' => ?_
  obtain ⟨A', cap', rfl, _, _, _⟩ := ho'.slice
  have e : (fs ++ tt).length = m := by rw [List.length_append, hm]
  rw [e] at ho' ⊢
  exact h A' cap' w' ho' hg'
/-- Where a row that a call made begins. -/
theorem OwnF.addr {w : World} {B n cap : Nat} {A : Option Addr} {fs : List Fm} (h : OwnF w B (.slice A n cap) fs) : n = fs.length ∧ Room A fs.length cap ∧ (A = none ∨ ∃ b off, A = some ⟨b, off, none⟩) := by
  rcases h.2 with ⟨e, h0⟩ | ⟨g, c, cur, e, _, hg, hcap, _⟩
  · simp only [Value.slice.injEq] at e
    obtain ⟨rfl, rfl, rfl⟩ := e
    exact ⟨h0.symm, ⟨fun _ => rfl, by omega⟩, .inl rfl⟩
  · simp only [Value.slice.injEq] at e
    obtain ⟨rfl, rfl, rfl⟩ := e
    exact ⟨rfl, ⟨fun e => (by cases e), hcap⟩, .inr ⟨g, 0, rfl⟩⟩
theorem below_appendf {w0 w w' : World} {B : Nat} {v : Value} {fs : List Fm} (hb : Below B w0 w) (ho : OwnF w B v fs) (hg : w.grownBy w' v.ownBlock) (hB : B ≤ w0.heap.size) : Below B w0 w' :=
  hb.grown hg (Nat.le_trans hB hb.size) (ownBlock_gef ho)
theorem own_madef (w : World) (B : Nat) (hB : B ≤ w.heap.size) : OwnF (w.alloc (.cells #[] 62)) B (.slice (some ⟨w.heap.size, 0, none⟩) 0 0) [] :=
  w.ownsRow_made #[] 0 hB (Nat.zero_le _) rfl
/-- A part of a row of files: its address, its room. -/
structure PartF (A : Option Addr) (A' : Option Addr) (cap' : Nat) (fs fd : List Fm) (i : Nat) : Prop where
  cells : ∀ (w : World), FCells w A fs → FCells w A' fd
  room : Room A' fd.length cap'
theorem size_file : (Tryz.prog.info? 62).map (·.size) = some 3 := by kernel_rfl
theorem run_slice_files (A : Option Addr) (n cap i j : Nat) (low high : Option Value) (w : World) (hij : i ≤ j) (hj : j ≤ n) (hn : n ≤ cap) (hlow : low = some (.int .i64 (i : Int)) ∨ (low = none ∧ i = 0)) (hhigh : high = some (.int .i64 (j : Int)) ∨ (high = none ∧ j = n)) :
    (Instr.slice 38 (.slice A n cap) low high none).run Tryz.prog w = .ok (.slice (if cap = i then A else A.map (·.add (i * 3))) (j - i) (cap - i)) w := by
  have hb : ∀ w, (Instr.sliceBounds true n cap low high none).run Tryz.prog w = .ok (i, j, cap) w := by
    intro w
    have hi2 : (i : Int) ≤ (j : Int) := by omega
    have hj2 : (j : Int) ≤ (cap : Int) := by omega
    have hi3 : (i : Int) ≤ (n : Int) := by omega
    rcases hlow with rfl | ⟨rfl, rfl⟩ <;> rcases hhigh with rfl | ⟨rfl, rfl⟩ <;> simp [Instr.sliceBounds, Instr.sliceBound, asIntOf, go_sem, hij, show j ≤ cap by omega] <;> intros <;> omega
  obtain ⟨d, hd, hs⟩ : ∃ d, Tryz.prog.info? 62 = some d ∧ d.size = 3 := by
    have := size_file
    cases h : Tryz.prog.info? 62 with
    | none => rw [h] at this; cases this
    | some d => rw [h] at this; exact ⟨d, rfl, by simpa using this⟩
  unfold Instr.slice
  rw [Sem.run_bind, run_underlying Tryz.underlying38, Result.andThen_ok]
  simp only []
  rw [Sem.run_bind, hb, Result.andThen_ok]
  simp [sizeOf, typeInfo, hd, hs, Sem.run_bind]
theorem partf_of (A : Option Addr) (fs : List Fm) (cap i j : Nat) (hr : Room A fs.length cap) (hA : A = none ∨ ∃ b off, A = some ⟨b, off, none⟩) (hij : i ≤ j) (hj : j ≤ fs.length) :
    ∃ A' cap' fd, fd = (fs.drop i).take (j - i) ∧ PartF A A' cap' fs fd i ∧ ∀ (low high : Option Value) (w : World), (low = some (.int .i64 (i : Int)) ∨ (low = none ∧ i = 0)) → (high = some (.int .i64 (j : Int)) ∨ (high = none ∧ j = fs.length)) →
      (Instr.slice 38 (.slice A fs.length cap) low high none).run Tryz.prog w = .ok (.slice A' fd.length cap') w := by
  have hl : ((fs.drop i).take (j - i)).length = j - i := by rw [List.length_take, List.length_drop]; omega
  refine ⟨if cap = i then A else A.map (·.add (i * 3)), cap - i, (fs.drop i).take (j - i), rfl, ⟨fun w hs => ?_, ?_⟩, fun low high w h1 h2 => ?_⟩
  · by_cases hc : cap = i
    · have hz : (fs.drop i).take (j - i) = [] := by
        rw [← List.length_eq_zero_iff, hl]
        have := hr.2
        omega
      rw [hz]
      exact fun h => absurd h (by simp)
    · rw [if_neg hc]
      rcases hA with rfl | ⟨b, off, rfl⟩
      · have := hr.1 rfl
        have := hr.2
        have hz : (fs.drop i).take (j - i) = [] := by
          rw [← List.length_eq_zero_iff, hl]
          omega
        rw [hz]
        exact fun h => absurd h (by simp)
      · rw [Option.map_some, addr_add]
        exact (hs.drop i).take (j - i)
  · rw [hl]
    refine ⟨fun hA => ?_, by have := hr.2; omega⟩
    by_cases hc : cap = i
    · omega
    · rw [if_neg hc] at hA
      have : A = none := by cases A <;> simp_all
      have := hr.1 this
      omega
  · rw [hl]
    exact run_slice_files A fs.length cap i j low high w hij hj hr.2 h1 h2
end Go.Proofs.YtalabahjfmcnbaaGreatDoor
namespace Go.Proofs.YtalabahjfmcnbaaGreatDoor
open Go.RowKit
set_option linter.unusedVariables false

theorem below_dr {w w' : World} (h : Below w.drew.heap.size w.drew w') : Below w.heap.size w w' := ⟨h.os, h.tape, h.output, h.size, h.block⟩
theorem cell_on2 {w w' : World} {b off : Nat} {v : Value} (h : w.cell? ⟨b, off, none⟩ = some v) (hb : Below w.drew.heap.size w.drew w') : w'.cell? ⟨b, off, none⟩ = some v := ((below_dr hb).cell (p := ⟨b, off, none⟩) (World.block_lt_of_cell? _ _ h)).trans h
/-- A row of strings and an error come back: the row, or none. -/
def Told (w : World) (ls : List (List UInt8)) (er : Int) (e : Ending) (w' : World) : Prop :=
  ∃ A cap l, e = .returned (.tuple #[.slice A (List.length (α := List UInt8) l) cap, .int .i64 er]) ∧ ((er = 0 → l = ls) ∧ (er ≠ 0 → l = [])) ∧ Room A l.length cap ∧ Strs w' w'.heap.size A (toBs l) ∧ Below w.heap.size w w'
theorem told_none (w w' : World) (ls : List (List UInt8)) (er : Int) (h : er ≠ 0) (hb : Below w.heap.size w w') : Told w ls er (.returned (.tuple #[.slice none 0 0, .int .i64 er])) w' :=
  ⟨none, 0, [], rfl, ⟨fun e => absurd e h, fun _ => rfl⟩, ⟨fun _ => rfl, Nat.le_refl _⟩, fun h => absurd h (by simp [toBs]), hb⟩
end Go.Proofs.YtalabahjfmcnbaaGreatDoor
