/- Trees, plainly: files in order, each path once; what With and Without make of them. Trees, plainly: what holds of each tree that calls make. Lines in a block of strings. Package tree's copied, copies, All, Get. Package tree's Same. What a tree is; package tree's All, Get, Size, Same. Package tree's In. lines.Right and lines.Check. How lists differ, plainly: most alike, the walk, hunks done and taken back. Pairs of steps, plainly: what they touch, whether they are apart, the other way round. Rows of steps that change places, plainly. -/
import Derived.BigQuiet
import Derived.Deep.QuietTactic
import Derived.Handy
import Derived.Deep.RegionHeld3
import Derived.Deep.DrawnRows
import Derived.Deep.RegionLaw
import Derived.Laws.Cover1
import Derived.Sort.OwnSorted
import Derived.Lib.ValidLaws
import Derived.Lib.TrimUEq
import Derived.Lib.OthersKept
import Derived.Shelf.Unicode.ValidAny
import Derived.Test.YtalabahjfmcnbaaGreatDoorCk03
namespace Go.Proofs.YtalabahjfmcnbaaGreatDoor
open Go.RowKit
set_option linter.unusedVariables false

/-- In order, each path once. -/
def Rise (ks : List PF) : Prop := ks.Pairwise fun x y => lessK x y = true
theorem lessK_asymm {x y : PF} (h : lessK x y = true) : lessK y x = false := by
  cases h2 : lessK y x with
  | false => rfl
  | true => exact absurd ⟨h, h2⟩ (lessP_asymm nameP x.1 y.1)
theorem lessK_trans {x y z : PF} (h : lessK x y = true) (h2 : lessK y z = true) : lessK x z = true := lessP_trans nameP h h2
theorem lessK_or {x y : PF} (h : x.1 ≠ y.1) : lessK x y = true ∨ lessK y x = true := by
  rcases lessP_total nameP x.1 y.1 with h1 | h1 | h1
  · exact .inl h1
  · exact .inr h1
  · exact absurd h1 h
theorem Rise.without {ks : List PF} (h : Rise ks) (p : List UInt8) : Rise (withoutK ks p) := List.Pairwise.sublist List.filter_sublist h
theorem without_not {ks : List PF} {p : List UInt8} {k : PF} (h : k ∈ withoutK ks p) : k.1 ≠ p ∧ k ∈ ks := by
  have := List.mem_filter.1 h
  exact ⟨by simpa using this.2, this.1⟩
/-- Where a file goes, told by its neighbours. -/
theorem place_at {x : PF} {out : List PF} {i : Nat} (hi : i ≤ out.length) (h1 : ∀ j (hj : j < out.length), j < i → lessK out[j] x = true) (h2 : ∀ j (hj : j < out.length), i ≤ j → lessK x out[j] = true) : placeK x out out.length = i := by
  have key : ∀ n, i ≤ n → n ≤ out.length → placeK x out n = i := by
    intro n
    induction n with
    | zero => intro h _; simp [placeK]; omega
    | succ n ih =>
      intro hin hn
      have hlt : n < out.length := by omega
      rw [placeK, List.getElem?_eq_getElem hlt]
      by_cases he : i = n + 1
      · have := lessK_asymm (h1 n hlt (by omega))
        simp [this, he]
      · have := h2 n hlt (by omega)
        simp [this, ih (by omega) (by omega)]
  exact key out.length hi (Nat.le_refl _)
theorem insK_at {x : PF} {out : List PF} {i : Nat} (hi : i ≤ out.length) (h1 : ∀ j (hj : j < out.length), j < i → lessK out[j] x = true) (h2 : ∀ j (hj : j < out.length), i ≤ j → lessK x out[j] = true) : insK out x = out.take i ++ [x] ++ out.drop i := by
  unfold insK
  rw [place_at hi h1 h2]
theorem foldl_rise : ∀ (l out : List PF), Rise (out ++ l) → l.foldl insK out = out ++ l
  | [], out, _ => by simp
  | x :: l, out, h => by
    have hx : ∀ g ∈ out, lessK g x = true := fun g hg => (List.pairwise_append.1 h).2.2 g hg x (by simp)
    have e : insK out x = out ++ [x] := by
      rw [insK_at (i := out.length) (Nat.le_refl _) (fun j hj _ => hx _ (List.getElem_mem _)) (fun j hj h => by omega), List.take_length, List.drop_length, List.append_nil]
    rw [List.foldl_cons, e, foldl_rise l (out ++ [x]) (by rw [List.append_assoc]; exact h), List.append_assoc]
    rfl
theorem sort_rise {l : List PF} (h : Rise l) : sortK l = l := foldl_rise l [] (by simpa using h)
theorem with_rise {ks : List PF} (h : Rise ks) (x : PF) : withK ks x = insK (withoutK ks x.1) x := by
  unfold withK
  have e : sortK (withoutK ks x.1 ++ [x]) = insK (sortK (withoutK ks x.1)) x := by
    unfold sortK
    rw [List.foldl_append]
    rfl
  rw [e, sort_rise (h.without _)]
/-- There is a place. -/
theorem place_is : ∀ {out : List PF} {x : PF}, Rise out → (∀ k ∈ out, k.1 ≠ x.1) → ∃ i, i ≤ out.length ∧ (∀ j (hj : j < out.length), j < i → lessK out[j] x = true) ∧ (∀ j (hj : j < out.length), i ≤ j → lessK x out[j] = true)
  | [], x, _, _ => ⟨0, Nat.le_refl _, fun j hj => by simp at hj, fun j hj => by simp at hj⟩
  | k :: l, x, h, hn => by
    obtain ⟨h1, h2⟩ := List.pairwise_cons.1 h
    rcases lessK_or (hn k (by simp)) with hk | hk
    · obtain ⟨i, hi, a, b⟩ := place_is (out := l) (x := x) h2 fun g hg => hn g (List.mem_cons_of_mem _ hg)
      refine ⟨i + 1, by simp; omega, fun j hj hji => ?_, fun j hj hji => ?_⟩
      · cases j with
        | zero => exact hk
        | succ j => exact a j (by simpa using hj) (by omega)
      · cases j with
        | zero => omega
        | succ j => exact b j (by simpa using hj) (by omega)
    · refine ⟨0, Nat.zero_le _, fun j hj h => by omega, fun j hj _ => ?_⟩
      cases j with
      | zero => exact hk
      | succ j => exact lessK_trans hk (h1 _ (List.getElem_mem _))
theorem insK_rise {out : List PF} {x : PF} (h : Rise out) (hn : ∀ k ∈ out, k.1 ≠ x.1) : Rise (insK out x) := by
  obtain ⟨i, hi, a, b⟩ := place_is h hn
  rw [insK_at hi a b]
  have h' : Rise (out.take i ++ out.drop i) := by rw [List.take_append_drop]; exact h
  obtain ⟨p1, p2, p3⟩ := List.pairwise_append.1 h'
  have ha : ∀ g ∈ out.take i, lessK g x = true := fun g hg => by
    obtain ⟨j, hj, rfl⟩ := List.getElem_of_mem hg
    rw [List.length_take] at hj
    rw [List.getElem_take]
    exact a j (by omega) (by omega)
  have hb : ∀ g ∈ out.drop i, lessK x g = true := fun g hg => by
    obtain ⟨j, hj, rfl⟩ := List.getElem_of_mem hg
    rw [List.length_drop] at hj
    rw [List.getElem_drop]
    exact b (i + j) (by omega) (by omega)
  refine List.pairwise_append.2 ⟨List.pairwise_append.2 ⟨p1, by simp, fun g hg y hy => ?_⟩, p2, fun g hg y hy => ?_⟩
  · rw [List.mem_singleton] at hy
    subst hy
    exact ha g hg
  · rcases List.mem_append.1 hg with hg | hg
    · exact p3 g hg y hy
    · rw [List.mem_singleton] at hg
      subst hg
      exact hb y hy
theorem Rise.with_ {ks : List PF} (h : Rise ks) (x : PF) : Rise (withK ks x) := by
  rw [with_rise h x]
  exact insK_rise (h.without _) fun k hk => (without_not hk).1
theorem insK_mem (out : List PF) (x f : PF) : f ∈ insK out x ↔ f ∈ out ∨ f = x := by
  have e : f ∈ out ↔ f ∈ out.take (placeK x out out.length) ∨ f ∈ out.drop (placeK x out out.length) := by
    rw [← List.mem_append, List.take_append_drop]
  rw [e]
  unfold insK
  simp only [List.mem_append, List.mem_singleton]
  constructor
  · rintro ((h | h) | h)
    · exact .inl (.inl h)
    · exact .inr h
    · exact .inl (.inr h)
  · rintro ((h | h) | h)
    · exact .inl (.inl h)
    · exact .inr h
    · exact .inl (.inr h)
theorem with_memK {ks : List PF} (h : Rise ks) {x f : PF} : f ∈ withK ks x ↔ (f ∈ ks ∧ f.1 ≠ x.1) ∨ f = x := by
  rw [with_rise h x, insK_mem]
  constructor
  · rintro (h | h)
    · exact .inl ⟨(without_not h).2, (without_not h).1⟩
    · exact .inr h
  · rintro (⟨h1, h2⟩ | h)
    · exact .inl (List.mem_filter.2 ⟨h1, by simpa using h2⟩)
    · exact .inr h
end Go.Proofs.YtalabahjfmcnbaaGreatDoor
namespace Go.Proofs.YtalabahjfmcnbaaGreatDoor
open Go.RowKit
set_option linter.unusedVariables false

/-- In order, each in a directory, lines that may be. -/
structure Well (ks : List PF) : Prop where
  rise : Rise ks
  paths : ∀ k ∈ ks, names nameP k.1 ≠ []
  up : ∀ k ∈ ks, dirP nameP k.1 = [] ∨ ∃ d ∈ ks, d.1 = dirP nameP k.1 ∧ d.2.1 = true
  lines : ∀ k ∈ ks, checkN (toBs k.2.2) = 0
  dirs : ∀ k ∈ ks, k.2.1 = true → k.2.2 = []
theorem Well.nil : Well [] := ⟨List.Pairwise.nil, by simp, by simp, by simp, by simp⟩
/-- A new one, or a file in the place of a file. -/
theorem Well.put {ks : List PF} (h : Well ks) {x : PF} (hp : names nameP x.1 ≠ []) (hu : dirP nameP x.1 = [] ∨ ∃ d ∈ ks, d.1 = dirP nameP x.1 ∧ d.2.1 = true) (hl : checkN (toBs x.2.2) = 0) (hd : x.2.1 = true → x.2.2 = []) (ho : ∀ k ∈ ks, k.1 = x.1 → k.2.1 = false) : Well (withK ks x) := by
  have keep : ∀ {q : List UInt8}, (q = [] ∨ ∃ d ∈ ks, d.1 = q ∧ d.2.1 = true) → (q = [] ∨ ∃ d ∈ withK ks x, d.1 = q ∧ d.2.1 = true) := by
    rintro q (e | ⟨d, hm, e, hdd⟩)
    · exact .inl e
    · refine .inr ⟨d, (with_memK h.rise).2 (.inl ⟨hm, fun e2 => ?_⟩), e, hdd⟩
      rw [ho d hm e2] at hdd
      cases hdd
  refine ⟨h.rise.with_ x, fun k hk => ?_, fun k hk => ?_, fun k hk => ?_, fun k hk hkd => ?_⟩ <;> rcases (with_memK h.rise).1 hk with ⟨hm, hne⟩ | rfl
  · exact h.paths k hm
  · exact hp
  · exact keep (h.up k hm)
  · exact keep hu
  · exact h.lines k hm
  · exact hl
  · exact h.dirs k hm hkd
  · exact hd hkd
/-- One gone in which nothing lies. -/
theorem Well.take {ks : List PF} (h : Well ks) {p : List UInt8} (hn : ∀ k ∈ ks, dirP nameP k.1 = p → p = [] ∨ ∀ d ∈ ks, d.1 = p → d.2.1 = false) (hp : p ≠ []) : Well (withoutK ks p) := by
  refine ⟨h.rise.without p, fun k hk => h.paths k (without_not hk).2, fun k hk => ?_, fun k hk => h.lines k (without_not hk).2, fun k hk => h.dirs k (without_not hk).2⟩
  have hm := (without_not hk).2
  rcases h.up k hm with e | ⟨d, hd, e, hdd⟩
  · exact .inl e
  · refine .inr ⟨d, List.mem_filter.2 ⟨hd, ?_⟩, e, hdd⟩
    have : d.1 ≠ p := fun e2 => by
      rcases hn k hm (by rw [← e, e2]) with h0 | h0
      · exact hp h0
      · rw [h0 d hd e2] at hdd
        cases hdd
    simpa using this
end Go.Proofs.YtalabahjfmcnbaaGreatDoor
namespace Go.Proofs.YtalabahjfmcnbaaGreatDoor
open Go.RowKit
set_option linter.unusedVariables false

/-- Lines lie in a block of strings. -/
def StrBlk (w : World) (A : Option Addr) (ls : List (List UInt8)) : Prop := 0 < ls.length → ∃ b off cur fz, A = some ⟨b, off, none⟩ ∧ w.heap[b]? = some (.cells cur 9 fz)
theorem OwnS.blk {w : World} {B n c : Nat} {A : Option Addr} {ls : List (List UInt8)} (o : OwnS w B (.slice A n c) ls) : StrBlk w A ls := fun hp => by
  rcases o.2 with ⟨e, h0⟩ | ⟨g, cap, cur, e, hb, hg, _⟩
  · omega
  · simp only [Value.slice.injEq] at e
    exact ⟨g, 0, cur, _, e.1, hg⟩
theorem StrBlk.on {w w' : World} {A : Option Addr} {ls : List (List UInt8)} (s : StrBlk w A ls) (hb : Below w.heap.size w w') : StrBlk w' A ls := fun hp => by
  obtain ⟨b, off, cur, fz, e, h⟩ := s hp
  exact ⟨b, off, cur, fz, e, (hb.block b (Array.getElem?_eq_some_iff.1 h).1).trans h⟩
theorem StrBlk.grown {w w' : World} {A : Option Addr} {ls : List (List UInt8)} (s : StrBlk w A ls) {g : Nat} {cur2 : Array Value} {t : TypeId} {fz2 : Nat × Nat} (h2 : w.heap[g]? = some (.cells cur2 t fz2)) (ht : t ≠ 9) (hg : w.grownBy w' (some g)) : StrBlk w' A ls := fun hp => by
  obtain ⟨b, off, cur, fz, e, h⟩ := s hp
  have hne : b ≠ g := fun e2 => by
    rw [e2, h2] at h
    simp only [Option.some.injEq, Obj.cells.injEq] at h
    exact ht h.2.1
  exact ⟨b, off, cur, fz, e, (hg.block b (Array.getElem?_eq_some_iff.1 h).1 (by simpa using hne)).trans h⟩
theorem StrBlk.strs {w w' : World} {A : Option Addr} {ls : List (List UInt8)} (s : StrBlk w A ls) (k : Strs w w.heap.size A (toBs ls)) {g : Nat} {cur2 : Array Value} {t : TypeId} {fz2 : Nat × Nat} (h2 : w.heap[g]? = some (.cells cur2 t fz2)) (ht : t ≠ 9) (hg : w.grownBy w' (some g)) : Strs w' w'.heap.size A (toBs ls) := fun hp => by
  obtain ⟨b, off, e, hlt, hc⟩ := k hp
  obtain ⟨b2, off2, cur, fz, e2, h⟩ := s (by rw [toBs_len] at hp; exact hp)
  rw [e] at e2
  simp only [Option.some.injEq, Addr.mk.injEq] at e2
  obtain ⟨rfl, _, _⟩ := e2
  have hne : b ≠ g := fun e2 => by
    rw [e2, h2] at h
    simp only [Option.some.injEq, Obj.cells.injEq] at h
    exact ht h.2.1
  refine ⟨b, off, e, Nat.lt_of_lt_of_le hlt hg.size, fun j hj => ?_⟩
  exact World.grownBy.cell hg (hc j hj) (by simpa using hne)
end Go.Proofs.YtalabahjfmcnbaaGreatDoor
namespace Go.Proofs.YtalabahjfmcnbaaGreatDoor
open Go.RowKit
set_option linter.unusedVariables false

/-- A file whose lines lie in a block of strings. -/
def Fm.Sep (f : Fm) (w : World) : Prop := f.Ok w w.heap.size ∧ StrBlk w f.a f.ls
theorem Fm.Sep.on {f : Fm} {w w' : World} (h : f.Sep w) (hb : Below w.heap.size w w') : f.Sep w' := ⟨h.1.on hb, h.2.on hb⟩
theorem Fm.Sep.grown {f : Fm} {w w' : World} (h : f.Sep w) {g : Nat} {cur2 : Array Value} {t : TypeId} {fz2 : Nat × Nat} (h2 : w.heap[g]? = some (.cells cur2 t fz2)) (ht : t ≠ 9) (hg : w.grownBy w' (some g)) : f.Sep w' :=
  ⟨⟨h.2.strs h.1.ls h2 ht hg, h.1.r⟩, h.2.grown h2 ht hg⟩
theorem Fm.Sep.row {f : Fm} {w w' : World} (h : f.Sep w) {B : Nat} {v : Value} {fs : List Fm} (ho : OwnF w B v fs) (hg : w.grownBy w' v.ownBlock) : f.Sep w' := by
  rcases own_row_cases ho with ⟨rfl, rfl⟩ | ⟨g, cap, rfl, hB, hrow⟩
  · exact h.on ⟨hg.os, hg.tape, hg.output, hg.size, fun k hk => hg.block k hk (by simp [Value.ownBlock])⟩
  · obtain ⟨cur, h1, _⟩ := hrow.h
    exact h.grown h1 (by decide) hg
theorem OwnF.apart {w w' : World} {B g : Nat} {v : Value} {fs : List Fm} (h : OwnF w B v fs) (hg : w.grownBy w' (some g)) (hne : ∀ k, v.ownBlock = some k → k ≠ g) : OwnF w' B v fs := by
  refine World.ownsRow.kept h (row := some g) hg ?_
  cases hv : v.ownBlock with
  | none => simp
  | some k =>
    have := hne k hv
    simp
    omega
theorem FileAt.set2 {w : World} {g : Nat} {f : Fm} (k : FileAt w g f) (A : Option Addr) (c n : Nat) (hn : n = f.ls.length) : FileAt (w.setCell ⟨g, 2, none⟩ (.slice A n c)) g ⟨f.p, f.d, A, c, f.ls⟩ := by
  subst hn
  unfold FileAt at k ⊢
  simp [World.setCell, Array.getElem?_modify, k, Fm.cells]
end Go.Proofs.YtalabahjfmcnbaaGreatDoor
namespace Go.Proofs.YtalabahjfmcnbaaGreatDoor
open Go.RowKit
set_option linter.unusedVariables false

end Go.Proofs.YtalabahjfmcnbaaGreatDoor
namespace Go.Proofs.YtalabahjfmcnbaaGreatDoor
open Go.RowKit
set_option linter.unusedVariables false

/-- A tree: its files in a row, each path once, in order, each in a directory. -/
structure TreeIs (w : World) (A : Option Addr) (n c : Nat) (ks : List PF) (fs : List Fm) : Prop where
  len : n = fs.length
  row : Fs w w.heap.size A fs
  room : Room A fs.length c
  flat : Flat A
  keys : fkeys fs = ks
  well : Well ks
def TrC (w : World) (A : Option Addr) (n c : Nat) (ks : List PF) : Prop := ∃ fs, TreeIs w A n c ks fs
theorem TrC.on {w w' : World} {A : Option Addr} {n c : Nat} {ks : List PF} (h : TrC w A n c ks) (hb : Below w.heap.size w w') : TrC w' A n c ks := by
  obtain ⟨fs, h⟩ := h
  exact ⟨fs, h.len, h.row.on hb, h.room, h.flat, h.keys, h.well⟩
theorem TAt.not_str {w : World} {G n c : Nat} {A : Option Addr} (k : TAt w G A n c) (i : Nat) (s : ByteArray) : w.cell? ⟨G, i, none⟩ ≠ some (.string s) := by
  unfold TAt at k
  simp only [World.cell?, k]
  match i with
  | 0 => simp
  | i + 1 => simp
theorem TrC.set {w w' : World} {A : Option Addr} {n c : Nat} {ks : List PF} {G : Nat} {A2 : Option Addr} {n2 c2 : Nat} (h : TrC w A n c ks) (k : TAt w G A2 n2 c2) (hg : w.grownBy w' (some G)) : TrC w' A n c ks := by
  obtain ⟨fs, h⟩ := h
  refine ⟨fs, h.len, ⟨fun hp => ?_, fun f hf => ⟨fun hp => ?_, (h.row.ok f hf).r⟩⟩, h.room, h.flat, h.keys, h.well⟩
  · obtain ⟨b, off, e, hlt, hc⟩ := h.row.at_ hp
    have hne : b ≠ G := fun e2 => by
      have := (hc 0 hp).1
      rw [e2] at this
      exact k.not_str _ _ this
    refine ⟨b, off, e, Nat.lt_of_lt_of_le hlt hg.size, fun j hj => ?_⟩
    obtain ⟨c0, c1, c2⟩ := hc j hj
    exact ⟨World.grownBy.cell hg c0 (by simpa using hne), World.grownBy.cell hg c1 (by simpa using hne), World.grownBy.cell hg c2 (by simpa using hne)⟩
  · obtain ⟨b, off, e, hlt, hc⟩ := (h.row.ok f hf).ls hp
    have hne : b ≠ G := fun e2 => by
      have := hc 0 hp
      rw [e2] at this
      exact k.not_str _ _ this
    exact ⟨b, off, e, Nat.lt_of_lt_of_le hlt hg.size, fun j hj => World.grownBy.cell hg (hc j hj) (by simpa using hne)⟩
theorem TrC.zero (w : World) : TrC w none 0 0 [] := ⟨[], rfl, Fs.nil, ⟨fun _ => rfl, Nat.le_refl _⟩, .inl rfl, rfl, Well.nil⟩
section
variable {w : World} {A : Option Addr} {n c : Nat} {ks : List PF} {fs : List Fm}
theorem check_len {ls : List (List UInt8)} (h : checkN (toBs ls) = 0) : ls.length ≤ 2000 := by
  unfold checkN at h
  rw [toBs_len] at h
  split at h
  · omega
  · omega
theorem TreeIs.lines (h : TreeIs w A n c ks fs) : ∀ f ∈ fs, f.ls.length ≤ 2000 := fun f hf => by
  have : f.key ∈ ks := by rw [← h.keys]; exact List.mem_map_of_mem hf
  exact check_len (h.well.lines _ this)
theorem TreeIs.paths (h : TreeIs w A n c ks fs) : ∀ f ∈ fs, f.p.size ≤ 200 := fun f hf => by
  have hm : f.key ∈ ks := by rw [← h.keys]; exact List.mem_map_of_mem hf
  have h1 := (names_pieces nameP (h.well.paths _ hm)).2.1
  have h2 : f.p.data.toList.length = f.p.size := by simp
  have h3 : f.key.1.length = f.p.size := h2
  omega
end
end Go.Proofs.YtalabahjfmcnbaaGreatDoor
namespace Go.Proofs.YtalabahjfmcnbaaGreatDoor
open Go.RowKit
set_option linter.unusedVariables false

end Go.Proofs.YtalabahjfmcnbaaGreatDoor
namespace Go.Proofs.YtalabahjfmcnbaaGreatDoor
open Go.RowKit
set_option linter.unusedVariables false

/-- Is what stands from byte k on valid UTF-8? -/
def vd (s : ByteArray) (k : Nat) : Bool := Lib.validD (s.data.toList.drop k)
theorem vd_step (s : ByteArray) (k : Nat) (h : k < s.size) : vd s k = if (Utf8.decode s k).1 = 65533 ∧ (Utf8.decode s k).2 = 1 then false else vd s (k + (Utf8.decode s k).2) := by
  unfold vd
  have hne : s.data.toList.drop k ≠ [] := by
    intro e
    have := congrArg List.length e
    simp at this
    omega
  rw [Lib.validD_step _ hne, Lib.decodeL_drop, List.drop_drop]
theorem vd_runes (s : ByteArray) : ∀ (f k : Nat), s.size - k ≤ f → vd s k = false → runes s k = false
  | 0, k, hf, h => by
    have e : s.data.toList.drop k = [] := List.drop_of_length_le (by simp; omega)
    unfold vd at h
    rw [e] at h
    cases h
  | f + 1, k, hf, h => by
    by_cases hk : k < s.size
    · have hp := decode_pos s k
      rw [vd_step s k hk] at h
      by_cases hb : badRune (Utf8.decode s k) = true
      · exact runes_bad hk hb
      · rw [Bool.not_eq_true] at hb
        rw [runes_good hk hb]
        split at h
        · rename_i hx
          obtain ⟨h1, h2⟩ := hx
          simp [badRune, h1, h2] at hb
        · exact vd_runes s f _ (by omega) h
    · have e : s.data.toList.drop k = [] := List.drop_of_length_le (by simp; omega)
      unfold vd at h
      rw [e] at h
      cases h
theorem vd_next {s : ByteArray} {k : Nat} (h : k < s.size) (hv : vd s k = true) : vd s (k + (Utf8.decode s k).2) = true ∧ (badRune (Utf8.decode s k) = decide ((Utf8.decode s k).1 < 32 ∧ (Utf8.decode s k).1 ≠ 9)) := by
  rw [vd_step s k h] at hv
  split at hv
  · cases hv
  · rename_i hx
    refine ⟨hv, ?_⟩
    unfold badRune
    rw [Bool.eq_iff_iff]
    simp only [Bool.or_eq_true, Bool.and_eq_true, beq_iff_eq, decide_eq_true_eq, Bool.not_eq_true', beq_eq_false_iff_ne]
    constructor
    · rintro (h1 | h1)
      · exact absurd h1 hx
      · exact h1
    · exact fun h1 => .inr h1

theorem valid_any (s : ByteArray) (w : World) (hs : s.size ≤ 9223372036854775807) (hT : Tabs w) :
    Calls Tryz.prog 130 #[.string s] w fun e w' => e = .returned (.bool (vd s 0)) ∧ Below w.heap.size w w' :=
  Any.utf8_ValidString Tryz.lays196 s w hs hT

set_option maxRecDepth 100000 in
theorem lright_any (s : ByteArray) (w : World) (hs : s.size ≤ 9223372036854775807) (hT : Tabs w) :
    Calls Tryz.prog 88 #[.string s] w fun e w' => e = .returned (.bool (lineB s)) ∧ Below w.heap.size w w' := by
  have HV := Lib.hid (valid_any s w hs hT)
  clear hT
  by_cases h2 : 200 < s.size
  · have hr : lineB s = false := by simp [lineB]; omega
    rw [hr]
    go_enter Tryz.func88, Tryz.ntmps88
    go_wp2
    go_ret
    exact ⟨rfl, Below.refl _ _⟩
  · have hr : Hid (lineB s = runes s 0) := by show _ = _; simp [lineB]; omega
    cases hv : vd s 0 with
    | false =>
      have hno : Hid (lineB s = false) := by show _ = _; rw [hr.out]; exact vd_runes s s.size 0 (by omega) hv
      rw [hv] at HV
      clear hr hv
      go_enter Tryz.func88, Tryz.ntmps88
      go_wp2_with (go_at_call 130; refine HV.out.mono ?_; rintro e w1 ⟨rfl, hb⟩)
      go_ret
      rw [hno.out]
      exact ⟨rfl, hb⟩
    | true =>
      rw [hv] at HV
      have HD := Lib.hid hv
      clear hv
      go_enter Tryz.func88, Tryz.ntmps88
      go_wp2_with (go_at_call 130; refine HV.out.mono ?_; rintro e w1 ⟨rfl, hb⟩)
      have hk0 : (w1.iter s 0).heap[w1.heap.size]? = some (.stringIter s 0) := World.iter_heap w1 s 0
      have hb0 : Below w.heap.size w (w1.iter s 0) := hb.alloc hb.size _
      have hB := hb.size
      go_loopw [4] (fun _ wr => ∃ pos : Nat, wr.heap[w1.heap.size]? = some (.stringIter s pos) ∧ Hid (vd s pos = true) ∧ Hid (runes s 0 = runes s pos) ∧ Below w.heap.size w wr) (fun _ wr => s.size - wr.iterPos w1.heap.size)
      case atStart => exact ⟨0, hk0, HD.out, rfl, hb0⟩
      case round =>
        obtain ⟨pos, hk, hvd, heq, hbr⟩ := hrel
        have hmu : wr.iterPos w1.heap.size = pos := by simp [World.iterPos, hk]
        clear hk0 hb0 HD
        by_cases hp : pos < s.size
        · have hnext : ∀ ty, (Instr.next (.pointer (some ⟨w1.heap.size, 0, none⟩)) true ty).run Tryz.prog wr = _ := fun ty => Lib.run_next_any_at wr w1.heap.size s pos ty hk hp
          have hk1 := Lib.iterAt_heap wr w1.heap.size s pos (pos + (Utf8.decode s pos).2) hk
          have hb1 : Below w.heap.size w (wr.iterAt w1.heap.size s (pos + (Utf8.decode s pos).2)) := Lib.below_iterAt hbr hB s _
          obtain ⟨hv1, hbad⟩ := vd_next hp hvd.out
          have hwp := decode_pos s pos
          have hrl := decode_le s pos
          have hgood := runes_good (s := s) (i := pos) hp
          have hfalse := runes_bad (s := s) (i := pos) hp
          by_cases hx : (Utf8.decode s pos).1 < 32 ∧ (Utf8.decode s pos).1 ≠ 9
          · have hno : Hid (lineB s = false) := by
              show _ = _
              rw [hr.out, heq.out]
              exact hfalse (by rw [hbad, decide_eq_true_eq]; exact hx)
            obtain ⟨x1, x2⟩ := hx
            have q1 : ((Utf8.decode s pos).1 : Int) < 32 := by omega
            have q2 : (((Utf8.decode s pos).1 : Int) != 9) = true := by simp; omega
            clear hbad hgood hfalse heq hvd
            generalize Utf8.decode s pos = d at *
            go_wp2
            go_ret
            rw [hno.out]
            exact ⟨rfl, hb1⟩
          · have hok : Hid (runes s 0 = runes s (pos + (Utf8.decode s pos).2)) := by
              show _ = _
              rw [heq.out]
              exact hgood (by rw [hbad, decide_eq_false_iff_not]; exact hx)
            have HV1 := Lib.hid hv1
            have hk2 := hk1
            clear hbad hgood hfalse heq hvd hv1
            generalize Utf8.decode s pos = d at *
            by_cases h9 : d.1 = 9
            · have q1 : ((d.1 : Int) != 9) = false := by rw [h9]; rfl
              have q2 : ((d.1 : Int) < 32) := by omega
              clear h9 hx
              go_wp2
              go_roundw
              case rel => exact ⟨pos + d.2, hk2, HV1.out, hok, hb1⟩
              case measure =>
                have e : (wr.iterAt w1.heap.size s (pos + d.2)).iterPos w1.heap.size = pos + d.2 := by simp [World.iterPos, hk2]
                rw [e, hmu]; omega
            · have q2 : ¬ ((d.1 : Int) < 32) := by omega
              clear h9 hx
              go_wp2
              go_roundw
              case rel => exact ⟨pos + d.2, hk2, HV1.out, hok, hb1⟩
              case measure =>
                have e : (wr.iterAt w1.heap.size s (pos + d.2)).iterPos w1.heap.size = pos + d.2 := by simp [World.iterPos, hk2]
                rw [e, hmu]; omega
        · have hnext : ∀ ty, (Instr.next (.pointer (some ⟨w1.heap.size, 0, none⟩)) true ty).run Tryz.prog wr = _ := fun ty => Lib.run_next_end_at wr w1.heap.size s pos ty hk hp
          have hfin : Hid (lineB s = true) := by show _ = _; rw [hr.out, heq.out]; exact runes_end hp
          clear heq hvd
          go_wp2
          go_ret
          rw [hfin.out]
          exact ⟨rfl, hbr⟩

set_option maxRecDepth 100000 in
theorem lcheck_any (A : Option Addr) (ss : List ByteArray) (cap : Nat) (w : World) (hs : Strs w w.heap.size A ss) (hn : ss.length ≤ 9223372036854775807) (hz : ∀ s ∈ ss, s.size ≤ 9223372036854775807) (hT : Tabs w) :
    Calls Tryz.prog 54 #[.slice A ss.length cap] w fun e w' => e = .returned (.int .i64 (checkN ss)) ∧ Below w.heap.size w w' := by
  by_cases h2 : 2000 < ss.length
  · rw [checkN_big h2]
    go_enter Tryz.func54, Tryz.ntmps54
    go_wp2
    go_ret
    exact ⟨rfl, Below.refl _ _⟩
  · have HT := Lib.hid hT
    have HS := Lib.hid hs
    have HZ := Lib.hid hz
    clear hT hs hz
    go_enter Tryz.func54, Tryz.ntmps54
    go_wp2
    go_loopw [10] (fun i wr => ∃ k : Nat, k ≤ ss.length ∧ i = .int .i64 (k : Int) ∧ Hid (∀ j (hj : j < ss.length), j < k → lineB ss[j] = true) ∧ Below w.heap.size w wr) (fun i _ => ss.length - (intOf i).toNat)
    case atStart => exact ⟨0, Nat.zero_le _, rfl, fun j _ h => absurd h (by omega), Below.refl _ _⟩
    case round =>
      obtain ⟨k, hk, rfl, hall, hb⟩ := hrel
      by_cases hlt : k < ss.length
      · obtain ⟨g, off, rfl, hg, hc⟩ := (HS.out.below hb).at_ hlt
        have hl := Lib.hid (lright_any ss[k] wr (HZ.out _ (List.getElem_mem _)) (HT.out.on hb))
        cases hx : lineB ss[k] with
        | true =>
          have hall2 : Hid (∀ j (hj : j < ss.length), j < k + 1 → lineB ss[j] = true) := by
            intro j hj hjk
            by_cases h : j = k
            · subst h; exact hx
            · exact hall.out j hj (by omega)
          rw [hx] at hl
          generalize ss[k] = s at *
          clear hall hx
          go_wp2_with (go_at_call 88; refine hl.out.mono ?_; rintro e w1 ⟨rfl, hb1⟩)
          have hb2 := hb.trans (hb1.mono hb.size)
          go_roundw
          case rel => exact ⟨k + 1, by omega, by go_num, hall2, hb2⟩
          case measure => simp [intOf]; omega
        | false =>
          have hno : Hid (checkN ss = 6) := checkN_bad h2 hlt hx
          rw [hx] at hl
          generalize ss[k] = s at *
          clear hall hx
          go_wp2_with (go_at_call 88; refine hl.out.mono ?_; rintro e w1 ⟨rfl, hb1⟩)
          go_ret
          rw [hno.out]
          exact ⟨rfl, hb.trans (hb1.mono hb.size)⟩
      · have hk2 : k = ss.length := by omega
        subst hk2
        have hyes : Hid (checkN ss = 0) := checkN_ok h2 fun j hj => hall.out j hj hj
        clear hall
        go_wp2
        go_ret
        rw [hyes.out]
        exact ⟨rfl, hb⟩
end Go.Proofs.YtalabahjfmcnbaaGreatDoor
namespace Go.Proofs.YtalabahjfmcnbaaGreatDoor
set_option linter.unusedVariables false
set_option linter.unusedSectionVars false

/-- A hunk: its place, what goes, what comes. -/
structure Hk (α : Type) where
  at_ : Nat
  old : List α
  new : List α

section
variable {α : Type} [DecidableEq α]

/-- How much is alike: one line of the first list more. -/
def lcsStep (x : α) (f : List α → Nat) : List α → Nat
  | [] => 0
  | y :: b => if x = y then f b + 1 else max (f (y :: b)) (lcsStep x f b)
def lcs : List α → List α → Nat
  | [], _ => 0
  | x :: a, b => lcsStep x (lcs a) b
/-- A hunk that is something comes ahead. -/
def flush (h : Hk α) (l : List (Hk α)) : List (Hk α) := if h.old = [] ∧ h.new = [] then l else h :: l
/-- The walk through both lists from place i of the first one on; h: the hunk that is open. -/
def walk : Nat → Nat → List α → List α → Hk α → List (Hk α)
  | 0, _, _, _, h => flush h []
  | f + 1, i, x :: a, y :: b, h =>
    if x = y then flush h (walk f (i + 1) a b ⟨i + 1, [], []⟩)
    else if lcs (x :: a) b ≤ lcs a (y :: b) then walk f (i + 1) a (y :: b) ⟨h.at_, h.old ++ [x], h.new⟩
    else walk f i (x :: a) b ⟨h.at_, h.old, h.new ++ [y]⟩
  | f + 1, i, x :: a, [], h => walk f (i + 1) a [] ⟨h.at_, h.old ++ [x], h.new⟩
  | f + 1, i, [], y :: b, h => walk f i [] b ⟨h.at_, h.old, h.new ++ [y]⟩
  | f + 1, i, [], [], h => flush h []
/-- The hunks by which two lists differ. -/
def hunks (a b : List α) : List (Hk α) := walk (a.length + b.length) 0 a b ⟨0, [], []⟩

/-- Hunks take a list (from place i on) to another one. -/
def Done : Nat → List (Hk α) → List α → List α → Prop
  | _, [], a, b => a = b
  | i, h :: l, a, b => ∃ c a' b', a = c ++ (h.old ++ a') ∧ b = c ++ (h.new ++ b') ∧ h.at_ = i + c.length ∧ Done (h.at_ + h.old.length) l a' b'
/-- The first hunk is not below place e. -/
def From (e : Nat) : List (Hk α) → Prop
  | [] => True
  | h :: _ => e ≤ h.at_
/-- May hunks be? -/
def May : List (Hk α) → Prop
  | [] => True
  | h :: l => (h.old ≠ [] ∨ h.new ≠ []) ∧ From (h.at_ + h.old.length + 1) l ∧ May l
theorem Done.shift {i : Nat} {x : α} : ∀ {l : List (Hk α)} {a b : List α}, Done (i + 1) l a b → Done i l (x :: a) (x :: b)
  | [], a, b, h => by simp only [Done] at h ⊢; rw [h]
  | g :: l, a, b, h => by
    obtain ⟨c, a', b', rfl, rfl, h3, h4⟩ := h
    exact ⟨x :: c, a', b', rfl, rfl, by rw [h3]; simp only [List.length_cons]; omega, h4⟩
theorem From.mono {e e' : Nat} {l : List (Hk α)} (h : From e l) (he : e' ≤ e) : From e' l := by
  cases l with
  | nil => trivial
  | cons g l => exact Nat.le_trans he h
end
end Go.Proofs.YtalabahjfmcnbaaGreatDoor
namespace Go.Proofs.YtalabahjfmcnbaaGreatDoor
open Go.RowKit
set_option linter.unusedVariables false

/-- What a step touches. -/
def touches (p : Pk) : List (List UInt8) := if p.kind = 5 then [p.path, p.dst] else [p.path]
/-- A path lies within a directory (by their names alone). -/
def inDir (x d : List UInt8) : Bool := decide ((names nameP d).length < (names nameP x).length) && beginsP (names nameP x) (names nameP d)
def nearP (p : Pk) (mine other : List UInt8) : Bool := decide (mine = other) || (decide (p.kind ≤ 2) && inDir other mine)
/-- Are two steps apart (that may be, both)? -/
def apartP (p q : Pk) : Bool := (touches p).all fun x => (touches q).all fun y => !nearP p x y && !nearP q y x
theorem apart_iff {p q : Pk} : apartP p q = true ↔ ∀ x ∈ touches p, ∀ y ∈ touches q, x ≠ y ∧ (p.kind ≤ 2 → inDir y x = false) ∧ (q.kind ≤ 2 → inDir x y = false) := by
  unfold apartP nearP
  simp only [List.all_eq_true]
  refine forall_congr' fun x => forall_congr' fun _ => forall_congr' fun y => forall_congr' fun _ => ?_
  have hc : y = x ↔ x = y := ⟨Eq.symm, Eq.symm⟩
  by_cases e : x = y
  · simp [e]
  · have e2 : ¬ y = x := fun h => e h.symm
    by_cases h1 : p.kind ≤ 2 <;> by_cases h2 : q.kind ≤ 2 <;> simp [e, e2, h1, h2]
theorem touch_names {p : Pk} (hc : ckP p = 0) {x : List UInt8} (h : x ∈ touches p) : names nameP x ≠ [] := by
  obtain ⟨k1, k6, f5, fz, fn, fm, fh⟩ := ck_facts hc
  unfold touches at h
  split at h
  · rename_i e
    simp only [List.mem_cons, List.not_mem_nil, or_false] at h
    rcases h with rfl | rfl
    · exact fn
    · exact (fm e).1
  · simp only [List.mem_cons, List.not_mem_nil, or_false] at h
    subst h
    exact fn
theorem touch_path (p : Pk) : p.path ∈ touches p := by unfold touches; split <;> simp
/-- Two hunks of one file, the second one ahead. -/
def shiftP (p q : Pk) : Option (Pk × Pk) :=
  if p.at_ + p.new.length < q.at_ then some (⟨q.kind, q.path, q.dst, wrap64 (q.at_ - p.new.length + p.old.length), q.old, q.new⟩, p)
  else if q.at_ + q.old.length < p.at_ then some (q, ⟨p.kind, p.path, p.dst, wrap64 (p.at_ + q.new.length - q.old.length), p.old, p.new⟩)
  else none
def zeroP : Pk := ⟨0, [], [], 0, [], []⟩
/-- The second one, as it is ahead, and the first one, as it is behind it. -/
def pairP (p q : Pk) : Int × Pk × Pk :=
  if ckP p ≠ 0 then (ckP p, zeroP, zeroP)
  else if ckP q ≠ 0 then (ckP q, zeroP, zeroP)
  else if p.kind = 6 ∧ q.kind = 6 ∧ p.path = q.path then (match shiftP p q with
    | some r => (0, r.1, r.2)
    | none => (13, zeroP, zeroP))
  else if p.kind = 5 ∧ q.kind = 6 ∧ q.path = p.dst then (0, ⟨q.kind, p.path, q.dst, q.at_, q.old, q.new⟩, p)
  else if p.kind = 6 ∧ q.kind = 5 ∧ q.path = p.path then (0, q, ⟨p.kind, q.dst, p.dst, p.at_, p.old, p.new⟩)
  else if apartP p q = true then (0, q, p) else (13, zeroP, zeroP)
theorem ck_nums {p : Pk} (h : ckP p = 0) (e : p.kind = 6) : 0 ≤ p.at_ ∧ p.old.length ≤ 2000 ∧ p.new.length ≤ 2000 := by
  obtain ⟨_, _, _, _, _, _, fh⟩ := ck_facts h
  obtain ⟨a, b, c⟩ := fh e
  exact ⟨a, (check_iff.1 b).1, (check_iff.1 c).1⟩
end Go.Proofs.YtalabahjfmcnbaaGreatDoor
namespace Go.Proofs.YtalabahjfmcnbaaGreatDoor
open Go.RowKit
set_option linter.unusedVariables false

/-- A step passes a row: the row as it is ahead of it, and the step behind it; or the first error. -/
def pastP (p : Pk) : List Pk → Int × List Pk × Pk
  | [] => (0, [], p)
  | x :: l => match pairP p x with
    | (n, b, a) => if n ≠ 0 then (n, [], zeroP) else match pastP a l with
      | (m, out, q) => if m ≠ 0 then (m, [], zeroP) else (0, b :: out, q)
/-- A row passes a row, its last step first. -/
def rowsP : List Pk → List Pk → Int × List Pk × List Pk
  | [], b => (0, b, [])
  | p :: a, b => match rowsP a b with
    | (n, x, y) => if n ≠ 0 then (n, [], []) else match pastP p x with
      | (m, x', q) => if m ≠ 0 then (m, [], []) else (0, x', q :: y)
/-- A step comes to the front of those ahead of it (the nearest one first): it, and these behind it. -/
def aheadP : List Pk → Pk → Int × Pk × List Pk
  | [], x => (0, x, [])
  | r :: rs, x => match pairP r x with
    | (n, b, a) => if n ≠ 0 then (n, zeroP, []) else match aheadP rs b with
      | (m, y, out) => if m ≠ 0 then (m, zeroP, []) else (0, y, out ++ [a])
/-- The places that a step needs, of those ahead of it (the nearest one first); the row that comes to the front so far, the places so far. -/
def needsP : List Pk → List Pk → List Nat → List Nat
  | [], _, out => out
  | r :: rs, g, out => match pastP r g with
    | (n, x, _) => if n = 0 then needsP rs x out else needsP rs (r :: g) (rs.length :: out)
/-- The row that begins with step i; or an error. -/
def frontP (l : List Pk) (i : Nat) : Int × List Pk :=
  if h : i < l.length then (match aheadP (l.take i).reverse l[i] with
    | (n, y, out) => if n ≠ 0 then (n, []) else (0, y :: out ++ l.drop (i + 1)))
  else (3, [])
end Go.Proofs.YtalabahjfmcnbaaGreatDoor
