/- Package tree's at; the library's IndexFunc over it. Variables of trees and files; trees and files handed back by value. Package tree's look. Rows of files that a call made, written over. The library's DeleteFunc over package tree's at. The library's Clone over a row of files; package tree's without. -/
import Derived.Laws.Rows
import Derived.Laws.ResultCell
import Derived.Deep.RegionHeld3
import Derived.Lib.SliceRun
import Derived.Laws.IdiomCopy
import Derived.Test.YtalabahjfmcnbaaGreatDoorCk02
import Derived.Test.YtalabahjfmcnbaaGreatDoorCk39
namespace Go.Proofs.YtalabahjfmcnbaaGreatDoor
open Go.RowKit
set_option linter.unusedVariables false

theorem at_any (p : ByteArray) (w : World) : Calls Tryz.prog 129 #[.string p] w fun e w' => e = .returned (.func (.func 157) #[] #[.pointer (some ⟨w.heap.size, 0, none⟩)]) ∧ w' = w.alloc (.cells #[.string p] 9) := by
  go_enter Tryz.func129, Tryz.ntmps129
  go_wp2
  go_ret
  exact ⟨rfl, rfl⟩
theorem at1_any (B : Nat) (p q : ByteArray) (d : Bool) (a : Option Addr) (n c : Nat) (w : World) (hB : B < w.heap.size) (hc : w.cell? ⟨B, 0, none⟩ = some (.string p)) (r : Bool) (hr : decide (q = p) = r) :
    Calls Tryz.prog 157 #[.agg #[.string q, .bool d, .slice a n c], .pointer (some ⟨B, 0, none⟩)] w fun e w' => e = .returned (.bool r) ∧ Below w.heap.size w w' := by
  have hb : Below w.heap.size w (w.alloc (.cells #[.string q, .bool d, .slice a n c] 62)) := (Below.refl _ _).alloc (Nat.le_refl _) _
  have hs : (q.toList == p.toList) = r := by rw [str_beq]; exact hr
  have HB := Lib.hid hb
  clear hb hr
  go_enter Tryz.func157, Tryz.ntmps157
  go_wp2
  go_ret
  exact ⟨rfl, HB.out⟩
/-- Where a path stands, or -1. -/
def IsAt (fs : List Fm) (p : ByteArray) (r : Int) : Prop := (∃ k, ∃ hk : k < fs.length, r = (k : Int) ∧ fs[k].p = p ∧ ∀ j (hj : j < fs.length), j < k → fs[j].p ≠ p) ∨ (r = -1 ∧ ∀ j (hj : j < fs.length), fs[j].p ≠ p)
set_option maxHeartbeats 1000000 in
set_option maxRecDepth 100000 in
theorem index_any (A : Option Addr) (fs : List Fm) (cap : Nat) (p : ByteArray) (r : Int) (hr : IsAt fs p r) (B : Nat) (w : World) (hs : Fs w w.heap.size A fs) (hB : B < w.heap.size) (hc : w.cell? ⟨B, 0, none⟩ = some (.string p)) (hn : fs.length ≤ 1000000) :
    Calls Tryz.prog 128 #[.slice A fs.length cap, .func (.func 157) #[] #[.pointer (some ⟨B, 0, none⟩)]] w fun e w' => e = .returned (.int .i64 r) ∧ Below w.heap.size w w' := by
  have HS := Lib.hid hs
  have HC := Lib.hid hc
  have HR := Lib.hid hr
  clear hs hc hr
  go_enter Tryz.func128, Tryz.ntmps128
  go_wp2
  go_loopw [8] (fun i wr => ∃ k : Nat, k ≤ fs.length ∧ i = .int .i64 (k : Int) ∧ Hid (∀ j (hj : j < fs.length), j < k → fs[j].p ≠ p) ∧ Below w.heap.size w wr) (fun i _ => fs.length - (intOf i).toNat)
  case atStart => exact ⟨0, Nat.zero_le _, rfl, fun j _ h => absurd h (by omega), Below.refl _ _⟩
  case round =>
    obtain ⟨k, hk, rfl, hall, hb⟩ := hrel
    by_cases hlt : k < fs.length
    · have hS := HS.out.on hb
      have hcw : wr.cell? ⟨B, 0, none⟩ = some (.string p) := (hb.cell (p := ⟨B, 0, none⟩) hB).trans HC.out
      obtain ⟨b, off, rfl, bl1, h1, h2, h3⟩ := hS.get hlt
      have CA := fun (r : Bool) (hr : decide ((fs[k]'hlt).p = p) = r) => at1_any B p fs[k].p fs[k].d fs[k].a fs[k].ls.length fs[k].c wr (Nat.lt_of_lt_of_le hB hb.size) hcw r hr
      by_cases he : fs[k].p = p
      · have hres : Hid (r = (k : Int)) := by
          rcases HR.out with ⟨k2, hk2, e, e2, hn2⟩ | ⟨_, hn2⟩
          · have : k2 = k := by
              rcases Nat.lt_trichotomy k2 k with h | h | h
              · exact absurd e2 (hall.out k2 hk2 h)
              · exact h
              · exact absurd he (hn2 k hlt h)
            rw [this] at e
            exact e
          · exact absurd he (hn2 k hlt)
        have C := Lib.hid (CA true (decide_eq_true he))
        have HB := Lib.hid hb
        clear CA he hall hS hcw hb
        generalize fs[k].p = x0 at *
        generalize fs[k].d = x1 at *
        generalize fs[k].a = x2 at *
        generalize fs[k].ls.length = x3 at *
        generalize fs[k].c = x4 at *
        go_wp2_with fail
        refine C.out.mono ?_
        rintro e w1 ⟨rfl, hb1⟩
        have HB2 := Lib.hid (HB.out.trans (hb1.mono HB.out.size))
        clear hb1
        go_wp2
        go_ret
        rw [hres.out]
        exact ⟨rfl, HB2.out⟩
      · have hnew : Hid (∀ j (hj : j < fs.length), j < k + 1 → fs[j].p ≠ p) := by
          intro j hj hjk
          by_cases e : j = k
          · subst e; exact he
          · exact hall.out j hj (by omega)
        have C := Lib.hid (CA false (decide_eq_false he))
        have HB := Lib.hid hb
        clear CA he hall hS hcw hb
        generalize fs[k].p = x0 at h1 C
        generalize fs[k].d = x1 at h2 C
        generalize fs[k].a = x2 at h3 C
        generalize fs[k].ls.length = x3 at h3 C
        generalize fs[k].c = x4 at h3 C
        go_wp2_with fail
        refine C.out.mono ?_
        rintro e w1 ⟨rfl, hb1⟩
        have HB2 := Lib.hid (HB.out.trans (hb1.mono HB.out.size))
        clear hb1
        go_wp2
        go_roundw
        case rel => exact ⟨k + 1, by omega, by go_num, hnew, HB2.out⟩
        case measure => simp [intOf]; omega
    · have hk2 : k = fs.length := by omega
      subst hk2
      have hres : Hid (r = -1) := by
        rcases HR.out with ⟨k2, hk2, e, e2, hn2⟩ | ⟨e, hn2⟩
        · exact absurd e2 (hall.out k2 hk2 hk2)
        · exact e
      clear hall
      go_wp2
      go_ret
      rw [hres.out]
      exact ⟨rfl, hb⟩
end Go.Proofs.YtalabahjfmcnbaaGreatDoor
namespace Go.Proofs.YtalabahjfmcnbaaGreatDoor
open Go.RowKit
set_option linter.unusedVariables false

section
variable {w w' : World} {G n c : Nat} {A : Option Addr}
theorem below_set {w0 : World} {B g i : Nat} {v : Value} (h : Below B w0 w) (hg : B ≤ g) (hB : B ≤ w.heap.size) : Below B w0 (w.setCell ⟨g, i, none⟩ v) :=
  h.grown (grown_cell w g i v) hB fun k hk => by simp only [Option.some.injEq] at hk; omega
end
theorem size_tree : (Tryz.prog.info? 43).map (·.size) = some 1 := by kernel_rfl
theorem load_tree {w : World} {g n c : Nat} {A : Option Addr} (k : TAt w g A n c) : (loadVar 43 ⟨g, 0, none⟩).run Tryz.prog w = .ok (.agg #[.slice A n c]) w :=
  run_loadVar_row w g 43 43 #[.slice A n c] (0, 0) _ k Tryz.underlying43 rfl size_tree
theorem ret_tree2 {fn : Func} {p u : Tmp} (h : fn.results = #[.cell p 43, .tmp u]) (tmps : Array Value) (w : World) (g : Nat) (A : Option Addr) (n c : Nat) (v : Value) (hp : tmps.getD p undef = .pointer (some ⟨g, 0, none⟩)) (hv : tmps.getD u undef = v) (k : TAt w g A n c) :
    (results fn tmps).run Tryz.prog w = .ok (.tuple #[.agg #[.slice A n c], v]) w := by
  rw [results_cell_tmp h, hp, hv]
  simp [asAddr, load_tree k, Result.andThen]
theorem ret_tree {fn : Func} {p : Tmp} (h : fn.results = #[.cell p 43]) (tmps : Array Value) (w : World) (g : Nat) (A : Option Addr) (n c : Nat) (hp : tmps.getD p undef = .pointer (some ⟨g, 0, none⟩)) (k : TAt w g A n c) :
    (results fn tmps).run Tryz.prog w = .ok (.agg #[.slice A n c]) w :=
  results_cell_row h tmps w g 43 _ (0, 0) _ hp k Tryz.underlying43 rfl size_tree
theorem sized_file : (Tryz.prog.info? 62).map (·.size) = some 3 := by kernel_rfl
theorem load_filev {w : World} {g : Nat} {f : Fm} (k : FileAt w g f) : (loadVar 62 ⟨g, 0, none⟩).run Tryz.prog w = .ok (.agg f.cells.toArray) w :=
  run_loadVar_row w g 62 62 f.cells.toArray (0, 0) _ k Tryz.underlying62 rfl sized_file
theorem ret_file2 {fn : Func} {p u : Tmp} (h : fn.results = #[.cell p 62, .tmp u]) (tmps : Array Value) (w : World) (g : Nat) (x : Fm) (v : Value) (hp : tmps.getD p undef = .pointer (some ⟨g, 0, none⟩)) (hv : tmps.getD u undef = v) (k : FileAt w g x) :
    (results fn tmps).run Tryz.prog w = .ok (.tuple #[.agg x.cells.toArray, v]) w := by
  rw [results_cell_tmp h, hp, hv]
  simp [asAddr, load_filev k, Result.andThen]
/-- A file written over, cell by cell. -/
def setFile (w : World) (g : Nat) (f : Fm) : World := ((w.setCell ⟨g, 0, none⟩ (.string f.p)).setCell ⟨g, 1, none⟩ (.bool f.d)).setCell ⟨g, 2, none⟩ (.slice f.a f.ls.length f.c)
theorem setFile_at {w : World} {g : Nat} {f0 : Fm} (k : FileAt w g f0) (f : Fm) : FileAt (setFile w g f) g f := by
  unfold FileAt at k ⊢
  simp [setFile, World.setCell, Array.getElem?_modify, k, Fm.cells]
theorem setFile_grown (w : World) (g : Nat) (f : Fm) : w.grownBy (setFile w g f) (some g) := by
  refine ⟨rfl, rfl, rfl, by simp [setFile, World.setCell], fun k hk hne => ?_⟩
  have h : k ≠ g := fun e => hne (by simp [e])
  have e1 := Below.heap_setCell w ⟨g, 0, none⟩ (.string f.p) k h
  have e2 := Below.heap_setCell (w.setCell ⟨g, 0, none⟩ (.string f.p)) ⟨g, 1, none⟩ (.bool f.d) k h
  have e3 := Below.heap_setCell ((w.setCell ⟨g, 0, none⟩ (.string f.p)).setCell ⟨g, 1, none⟩ (.bool f.d)) ⟨g, 2, none⟩ (.slice f.a f.ls.length f.c) k h
  unfold setFile
  rw [e3, e2, e1]
theorem below_file {w0 w : World} {B g : Nat} (f : Fm) (h : Below B w0 w) (hg : B ≤ g) (hB : B ≤ w.heap.size) : Below B w0 (setFile w g f) :=
  h.grown (setFile_grown w g f) hB fun k hk => by simp only [Option.some.injEq] at hk; omega
end Go.Proofs.YtalabahjfmcnbaaGreatDoor
namespace Go.Proofs.YtalabahjfmcnbaaGreatDoor
open Go.RowKit
set_option linter.unusedVariables false

/-- What look hands back. -/
def Looked (fs : List Fm) (r : Int) (w : World) (e : Ending) (w' : World) : Prop :=
  ∃ f : Fm, e = .returned (.tuple #[.agg #[.string f.p, .bool f.d, .slice f.a f.ls.length f.c], .bool (decide (0 ≤ r))]) ∧ Hid ((0 ≤ r → fs[r.toNat]? = some f) ∧ (r < 0 → f = Fm.zero)) ∧ Below w.heap.size w w'
set_option maxHeartbeats 2000000 in
set_option maxRecDepth 100000 in
theorem look_any (A : Option Addr) (fs : List Fm) (cap : Nat) (p : ByteArray) (r : Int) (hr : IsAt fs p r) (w : World) (hs : Fs w w.heap.size A fs) (hn : fs.length ≤ 1000000) :
    Calls Tryz.prog 87 #[.agg #[.slice A fs.length cap], .string p] w (Looked fs r w) := by
  have hal : Below w.heap.size w ((w.alloc (.cells #[.slice A fs.length cap] 43)).alloc (.cells #[.string ⟨#[]⟩, .bool false, .slice none 0 0] 62)) := ((Below.refl _ _).alloc (Nat.le_refl _) _).alloc (by simp) _
  have hT : TAt ((w.alloc (.cells #[.slice A fs.length cap] 43)).alloc (.cells #[.string ⟨#[]⟩, .bool false, .slice none 0 0] 62)) w.heap.size A fs.length cap := (TAt.new_ w A fs.length cap).on ((Below.refl _ _).alloc (Nat.le_refl _) _)
  have hF : FileAt ((w.alloc (.cells #[.slice A fs.length cap] 43)).alloc (.cells #[.string ⟨#[]⟩, .bool false, .slice none 0 0] 62)) (w.heap.size + 1) Fm.zero := by
    have h := FileAt.new_ (w.alloc (.cells #[.slice A fs.length cap] 43)) Fm.zero
    exact (by simpa using h : FileAt _ (w.heap.size + 1) Fm.zero)
  have hS := hs.on hal
  have HA := Lib.hid hal
  have HG : Hid (w.heap.size ≤ w.heap.size + 1) := Nat.le_succ _
  clear hal hs
  go_enter Tryz.func87, Tryz.ntmps87
  go_wp2_with fail
  generalize ((w.alloc (.cells #[.slice A fs.length cap] 43)).alloc (.cells #[.string ⟨#[]⟩, .bool false, .slice none 0 0] 62)) = wa at *
  generalize hGe : w.heap.size = G at *
  have HGe := Lib.hid hGe
  clear hGe
  have CA := Lib.hid (fun W => at_any p W)
  have hb2 : Below wa.heap.size wa (wa.drew.alloc (.cells #[.string p] 9)) := (Below.refl _ _).drew.alloc (Nat.le_refl _) _
  have CI := Lib.hid (index_any A fs cap p r hr wa.heap.size (wa.drew.alloc (.cells #[.string p] 9)) (hS.on hb2) (by simp) (by have h := World.cell?_alloc_new wa.drew #[.string p] 9 0; exact h) hn)
  have HB2 := Lib.hid hb2
  have t0 := hT.c0
  have HT := Lib.hid hT
  clear hT hb2
  go_region_held3 (fun w' => w'.cell? ⟨G, 0, none⟩ = some (.slice A fs.length cap)) (first | exact t0 | exact (HT.out.on (by first | exact HB2.out | exact HB2.out.trans (hb9.mono HB2.out.size))).c0 | (go_keep; done)) (first
    | (go_at_call 129; refine (CA.out _).mono ?_; rintro e w1 ⟨rfl, rfl⟩)
    | (go_at_call 128; refine CI.out.mono ?_; rintro e w9 ⟨rfl, hb9⟩))
  have hb := HB2.out.trans (hb9.mono HB2.out.size)
  have hF9 := hF.on hb
  have hS9 := hS.on hb
  have HBB := Lib.hid (HA.out.trans (hb.mono (by have h := HA.out.size; rw [HGe.out] at h; exact h)))
  have f0 := hF9.c0
  have f1 := hF9.c1
  have f2 := hF9.c2
  have z0 := hF9.fz 0
  have z1 := hF9.fz 1
  have z2 := hF9.fz 2
  have HF9 := Lib.hid hF9
  have hG0 : Hid (G < w9.heap.size) := HT.out.lt |> fun h => Nat.lt_of_lt_of_le h hb.size
  clear hF hF9 hb CI CA t0 hb9 HB2 hS
  unfold Fm.zero at f0 f1 f2
  simp only [] at f0 f1 f2
  rcases hr with ⟨k, hk, rfl, he, hno⟩ | ⟨rfl, hno⟩
  · obtain ⟨b, off, rfl, bl, h1, h2, h3⟩ := hS9.get hk
    have hfin : Hid (Looked fs (k : Int) w (.returned (.tuple #[.agg #[.string fs[k].p, .bool fs[k].d, .slice fs[k].a fs[k].ls.length fs[k].c], .bool true])) (setFile w9 (G + 1) fs[k])) :=
      ⟨fs[k], by rw [show decide (0 ≤ (k : Int)) = true by simp], ⟨fun _ => by simp [hk], fun h => by omega⟩, by have h := below_file (g := G + 1) fs[k] HBB.out (Nat.le_succ _) (Nat.le_of_lt hG0.out); rw [← HGe.out] at h ⊢; exact h⟩
    have HS := Lib.hid (setFile_at HF9.out fs[k])
    clear hno he
    generalize hf : fs[k] = f at *
    have r1 : (k : Int) < (fs.length : Int) := by omega
    go_wp2
    (try simp only [Exit.inBlock, Exit.then])
    refine bodyPost_ret (ret_file2 rfl _ _ _ f (.bool true) rfl rfl HS.out) rfl ?_
    exact hfin.out
  · have hfin : Hid (Looked fs (-1) w (.returned (.tuple #[.agg #[.string ⟨#[]⟩, .bool false, .slice none 0 0], .bool false])) (setFile w9 (G + 1) Fm.zero)) :=
      ⟨Fm.zero, rfl, ⟨fun h => by omega, fun _ => rfl⟩, by have h := below_file (g := G + 1) Fm.zero HBB.out (Nat.le_succ _) (Nat.le_of_lt hG0.out); rw [← HGe.out] at h ⊢; exact h⟩
    have HS := Lib.hid (setFile_at HF9.out Fm.zero)
    clear hno
    go_wp2
    (try simp only [Exit.inBlock, Exit.then])
    refine bodyPost_ret (ret_file2 rfl _ _ _ Fm.zero (.bool false) rfl rfl HS.out) rfl ?_
    exact hfin.out
end Go.Proofs.YtalabahjfmcnbaaGreatDoor
namespace Go.Proofs.YtalabahjfmcnbaaGreatDoor
open Go.RowKit
set_option linter.unusedVariables false

section
variable {w w' : World} {g cap : Nat} {d : List Fm}
theorem RowAt.some_ (k : RowAt w g cap d) {i : Nat} (hi : i < cap * 3) : (w.cell? ⟨g, i, none⟩).isSome = true := by
  obtain ⟨cur, h1, h2, _⟩ := k.h
  simp only [World.cell?, h1, Option.isSome_none, Bool.false_eq_true, if_false]
  rw [Array.getElem?_eq_getElem (by omega)]
  rfl
theorem putFile_grown (w : World) (g i : Nat) (f : Fm) : w.grownBy (putFile w g i f) (some g) := by
  refine ⟨rfl, rfl, rfl, by simp [putFile, World.setCell], fun k hk hne => ?_⟩
  have h : k ≠ g := fun e => hne (by simp [e])
  unfold putFile
  rw [Below.heap_setCell _ ⟨g, i * 3 + 2, none⟩ _ k h, Below.heap_setCell _ ⟨g, i * 3 + 1, none⟩ _ k h, Below.heap_setCell _ ⟨g, i * 3, none⟩ _ k h]
end
theorem clear_files (w : World) (g cap : Nat) (d : List Fm) (k : RowAt w g cap d) (i n c : Nat) (hn : 0 < n) (hin : i + n ≤ cap) (ty : TypeId) :
    (Builtin.clear_ #[38] ty #[.slice (some ⟨g, i * 3, none⟩) n c]).run Tryz.prog w = .ok (.tuple #[]) (w.setCells g (i * 3) (Builtin.zeroCells #[.string ⟨#[]⟩, .bool false, .slice none 0 0] n).toList) := by
  have hl : (Builtin.zeroCells #[.string ⟨#[]⟩, .bool false, .slice none 0 0] n).toList.length = n * 3 := by simp [Builtin.zeroCells]
  have h1 : ∀ v ∈ (Builtin.zeroCells #[.string ⟨#[]⟩, .bool false, .slice none 0 0] n).toList, v.oneCell' = true := by
    intro v hv
    simp only [Builtin.zeroCells, Array.toList_map, List.mem_map] at hv
    obtain ⟨j, _, rfl⟩ := hv
    have : j % 3 = 0 ∨ j % 3 = 1 ∨ j % 3 = 2 := by omega
    rcases this with e | e | e <;> simp [e, Value.oneCell']
  have hst := run_storeCells_cells (P := Tryz.prog) g (i * 3) (Builtin.zeroCells #[.string ⟨#[]⟩, .bool false, .slice none 0 0] n).toList 0 w (fun j hj => k.some_ (by rw [hl] at hj; omega)) (fun j hj => k.fz _) h1
  simp only [Nat.add_zero] at hst
  obtain ⟨m, rfl⟩ : ∃ m, n = m + 1 := ⟨n - 1, by omega⟩
  simp [Builtin.clear_, run_underlying Tryz.underlying38, hst, Value.cells]
theorem setCells_block (g : Nat) : ∀ (vs : List Value) (o : Nat) (w : World), ∀ k, k ≠ g → (w.setCells g o vs).heap[k]? = w.heap[k]?
  | [], _, _, _, _ => rfl
  | v :: r, o, w, k, h => by
    rw [World.setCells, setCells_block g r _ _ k h]
    exact Below.heap_setCell w ⟨g, o, none⟩ v k h
theorem setCells_size (g : Nat) : ∀ (vs : List Value) (o : Nat) (w : World), (w.setCells g o vs).heap.size = w.heap.size
  | [], _, _ => rfl
  | v :: r, o, w => by rw [World.setCells, setCells_size g r]; simp [World.setCell]
theorem setCells_rest (g : Nat) : ∀ (vs : List Value) (o : Nat) (w : World), (w.setCells g o vs).os = w.os ∧ (w.setCells g o vs).tape = w.tape ∧ (w.setCells g o vs).output = w.output
  | [], _, _ => ⟨rfl, rfl, rfl⟩
  | v :: r, o, w => by rw [World.setCells]; exact setCells_rest g r (o + 1) _
theorem setCells_grown (w : World) (g o : Nat) (vs : List Value) : w.grownBy (w.setCells g o vs) (some g) :=
  ⟨(setCells_rest g vs o w).1, (setCells_rest g vs o w).2.1, (setCells_rest g vs o w).2.2, Nat.le_of_eq (setCells_size g vs o w).symm, fun k hk hne => setCells_block g vs o w k fun e => hne (by rw [e])⟩
theorem setCells_arr (g : Nat) (t : TypeId) : ∀ (vs : List Value) (o : Nat) (w : World) (cur : Array Value) (m : Nat), w.heap[g]? = some (.cells cur t (0, 0)) → m ≤ o →
    ∃ cur', (w.setCells g o vs).heap[g]? = some (.cells cur' t (0, 0)) ∧ cur'.size = cur.size ∧ cur'.toList.take m = cur.toList.take m
  | [], _, w, cur, m, h, _ => ⟨cur, h, rfl, rfl⟩
  | v :: r, o, w, cur, m, h, hm => by
    obtain ⟨c2, h1, h2, h3⟩ := setCells_arr g t r (o + 1) (w.setCell ⟨g, o, none⟩ v) (cur.setIfInBounds o v) m (by simp [World.setCell, Array.getElem?_modify, h]) (by omega)
    refine ⟨c2, h1, by simpa using h2, ?_⟩
    rw [h3]
    simp only [Array.toList_setIfInBounds]
    rw [List.take_set_of_le hm]
theorem RowAt.cleared {w : World} {g cap : Nat} {d : List Fm} (k : RowAt w g cap d) (vs : List Value) : RowAt (w.setCells g (d.length * 3) vs) g cap d := by
  obtain ⟨cur, h1, h2, h3⟩ := k.h
  obtain ⟨c2, e1, e2, e3⟩ := setCells_arr g 62 vs (d.length * 3) w cur (d.length * 3) h1 (Nat.le_refl _)
  exact ⟨⟨c2, e1, by rw [e2, h2], by rw [e3, h3]⟩, k.len, k.max⟩
theorem grown_below {w w' w2 : World} {g : Nat} (h : w.grownBy w' (some g)) (hb : Below w'.heap.size w' w2) : w.grownBy w2 (some g) :=
  ⟨hb.os.trans h.os, hb.tape.trans h.tape, hb.output.trans h.output, Nat.le_trans h.size hb.size, fun k hk hne => (hb.block k (Nat.lt_of_lt_of_le hk h.size)).trans (h.block k hk hne)⟩
theorem grown_refl (w : World) (g : Nat) : w.grownBy w (some g) := ⟨rfl, rfl, rfl, Nat.le_refl _, fun _ _ _ => rfl⟩
end Go.Proofs.YtalabahjfmcnbaaGreatDoor
namespace Go.Proofs.YtalabahjfmcnbaaGreatDoor
open Go.RowKit
set_option linter.unusedVariables false

theorem Mid.start {fs : List Fm} {p : ByteArray} {k : Nat} (hk : k < fs.length) (he : fs[k].p = p) (hn : ∀ j (hj : j < fs.length), j < k → fs[j].p ≠ p) : Mid fs fs p k (k + 1) := by
  refine ⟨rfl, by omega, by omega, ?_, fun _ _ _ _ => rfl⟩
  rw [List.take_succ_eq_append_getElem hk, List.filter_append]
  have e1 : (fs.take k).filter (keepF p) = fs.take k := by
    rw [List.filter_eq_self]
    intro f hf
    obtain ⟨j, hj, rfl⟩ := List.getElem_of_mem hf
    rw [List.length_take] at hj
    rw [List.getElem_take]
    exact decide_eq_true (hn j (by omega) (by omega))
  have e2 : [fs[k]].filter (keepF p) = [] := by simp [keepF, he]
  rw [e1, e2, List.append_nil]
set_option maxHeartbeats 2000000 in
set_option maxRecDepth 100000 in
theorem delete_any (g cap : Nat) (fs : List Fm) (p : ByteArray) (r : Int) (hr : IsAt fs p r) (Bp : Nat) (w : World) (hrow : RowAt w g cap fs) (hok : ∀ f ∈ fs, f.Ok w w.heap.size) (hB : Bp < w.heap.size) (hc : w.cell? ⟨Bp, 0, none⟩ = some (.string p)) (hne : Bp ≠ g) (hn : fs.length ≤ 1000000)
    (m : Nat) (hm : m = (fs.filter (keepF p)).length) :
    Calls Tryz.prog 136 #[.slice (some ⟨g, 0, none⟩) fs.length cap, .func (.func 157) #[] #[.pointer (some ⟨Bp, 0, none⟩)]] w fun e w' =>
      e = .returned (.slice (some ⟨g, 0, none⟩) m cap) ∧ RowAt w' g cap (fs.filter (keepF p)) ∧ w.grownBy w' (some g) := by
  have CI := Lib.hid (index_any (some ⟨g, 0, none⟩) fs cap p r hr Bp w ⟨fun hp => ⟨g, 0, rfl, hrow.lt, fun j hj => by rw [Nat.zero_add]; exact hrow.get hj⟩, hok⟩ hB hc hn)
  have HR := Lib.hid hrow
  have HC := Lib.hid hc
  have HM := Lib.hid hm
  clear hrow hok hc hm
  rcases hr with ⟨k, hk, rfl, he, hno⟩ | ⟨rfl, hno⟩
  · have hst := Lib.hid (Mid.start hk he hno)
    have r1 : IntKind.i64.wrap ((k : Int) + 1) = (k : Int) + 1 := IntWalk.i64_in _ (by omega)
    have r2 : ((k : Int) == -1) = false := beq_eq_false_iff_ne.2 (by omega)
    clear he hno
    go_enter Tryz.func136, Tryz.ntmps136
    go_wp2_with fail
    refine CI.out.mono ?_
    rintro e w0 ⟨rfl, hb0⟩
    have HR0 := Lib.hid (HR.out.on hb0)
    have HG0 : Hid (w.grownBy w0 (some g)) := grown_below (grown_refl w g) hb0
    clear hb0 CI
    go_wp2
    go_loopw [5, 6] (fun s5 s6 wr => ∃ (i j : Nat) (d : List Fm), s5 = .int .i64 (i : Int) ∧ s6 = .int .i64 (j : Int) ∧ j ≤ fs.length ∧ Hid (Mid fs d p i j ∧ RowAt wr g cap d ∧ w.grownBy wr (some g))) (fun _ s6 _ => fs.length - (intOf s6).toNat)
    case atStart => exact ⟨k, k + 1, fs, rfl, by go_num, hst.out.jn, hst.out, HR0.out, HG0.out⟩
    case round =>
      clear HR0 HG0 hst r1 r2
      obtain ⟨i, j, d, rfl, rfl, hjn, HI⟩ := hrel
      by_cases hlt : j < fs.length
      · obtain ⟨hm, hrow, hg⟩ := HI.out
        have hij := hm.ij
        have hjd : j < d.length := by rw [hm.len]; exact hlt
        have hid : i < d.length := by omega
        have hdj : d[j] = fs[j] := hm.high j hjd hlt (Nat.le_refl _)
        obtain ⟨h1, h2, h3⟩ := hrow.get hjd
        have hcw : wr.cell? ⟨Bp, 0, none⟩ = some (.string p) := World.grownBy.cell hg HC.out (by simpa using hne)
        have hbw : Bp < wr.heap.size := Nat.lt_of_lt_of_le hB hg.size
        have hF := FileAt.new_ wr d[j]
        have hal : Below wr.heap.size wr (wr.alloc (.cells d[j].cells.toArray 62)) := (Below.refl _ _).alloc (Nat.le_refl _) _
        have CA := fun (b : Bool) (hr : decide ((d[j]'hjd).p = p) = b) => at1_any Bp p d[j].p d[j].d d[j].a d[j].ls.length d[j].c (wr.alloc (.cells d[j].cells.toArray 62)) (Nat.lt_of_lt_of_le hbw hal.size) ((hal.cell (p := ⟨Bp, 0, none⟩) hbw).trans hcw) b hr
        have HF := Lib.hid hF
        have HA := Lib.hid hal
        have HDJ := Lib.hid hdj
        have HID := Lib.hid hid
        by_cases hp : d[j].p = p
        · have C := Lib.hid (CA true (decide_eq_true hp))
          have HM2 := Lib.hid (hm.skip hlt (by rw [← hdj]; exact hp))
          have HRW := Lib.hid hrow
          have HG := Lib.hid hg
          clear CA hp hm hrow hg hcw hF hal hdj HI
          generalize d[j] = f at *
          go_wp2_with fail
          refine C.out.mono ?_
          rintro e w2 ⟨rfl, hb2⟩
          have hbb := HA.out.trans (hb2.mono HA.out.size)
          have HN : Hid (Mid fs d p i (j + 1) ∧ RowAt w2 g cap d ∧ w.grownBy w2 (some g)) := ⟨HM2.out, HRW.out.on hbb, grown_below HG.out hbb⟩
          clear hb2 hbb h1 h2 h3
          go_wp2
          go_roundw
          case rel => exact ⟨i, j + 1, d, rfl, by go_num, by omega, HN.out⟩
          case measure => simp [intOf]; omega
        · have C := Lib.hid (CA false (decide_eq_false hp))
          have HM2 := Lib.hid (hm.keep hlt (by rw [← hdj]; exact hp))
          have HRW := Lib.hid hrow
          have HG := Lib.hid hg
          clear CA hp hm hrow hg hcw hF hal HI hdj
          generalize hdj : d[j] = f at *
          go_wp2_with fail
          refine C.out.mono ?_
          rintro e w2 ⟨rfl, hb2⟩
          have hbb := HA.out.trans (hb2.mono HA.out.size)
          have hF2 := HF.out.on hb2
          have f0 := hF2.c0
          have f1 := hF2.c1
          have f2 := hF2.c2
          have hR2 := HRW.out.on hbb
          obtain ⟨o0, o1, o2⟩ := hR2.get HID.out
          have z0 := hR2.fz (i * 3)
          have z1 := hR2.fz (i * 3 + 1)
          have z2 := hR2.fz (i * 3 + 2)
          have HN : Hid (Mid fs (d.set i f) p (i + 1) (j + 1) ∧ RowAt (putFile w2 g i f) g cap (d.set i f) ∧ w.grownBy (putFile w2 g i f) (some g)) :=
            ⟨by rw [HDJ.out]; exact HM2.out, hR2.put HID.out f, grown_on (grown_below HG.out hbb) (putFile_grown w2 g i f)⟩
          clear hb2 hbb h1 h2 h3 hF2 hR2 hdj HDJ HM2 C HF HA
          generalize d[i].p = y0 at *
          generalize d[i].d = y1 at *
          generalize d[i].a = y2 at *
          generalize d[i].ls.length = y3 at *
          generalize d[i].c = y4 at *
          go_wp2
          go_roundw
          case rel => exact ⟨i + 1, j + 1, d.set i f, by go_num, by go_num, by omega, HN.out⟩
          case measure => simp [intOf]; omega
      · obtain ⟨hm, hrow, hg⟩ := HI.out
        have hjn2 : j = fs.length := by omega
        have hij := hm.ij
        have hdl := hm.len
        have hcap := hrow.len
        have hlow := hm.low
        rw [hjn2, List.take_length] at hlow
        have hmi : Hid (m = i) := by show _ = _; rw [HM.out, ← hlow, List.length_take]; omega
        have s1 : ∀ W, (Instr.slice 38 (.slice (some ⟨g, 0, none⟩) fs.length cap) (some (.int .i64 (i : Int))) none none).run Tryz.prog W = .ok (.slice (some ⟨g, i * 3, none⟩) (fs.length - i) (cap - i)) W := fun W => by
          have h := run_slice_files (some ⟨g, 0, none⟩) fs.length cap i fs.length (some (.int .i64 (i : Int))) none W (by omega) (Nat.le_refl _) (by omega) (.inl rfl) (.inr ⟨rfl, rfl⟩)
          rw [if_neg (by omega), Option.map_some, addr_add, Nat.zero_add] at h
          exact h
        have s2 : ∀ W, (Instr.slice 38 (.slice (some ⟨g, 0, none⟩) fs.length cap) none (some (.int .i64 (i : Int))) none).run Tryz.prog W = .ok (.slice (some ⟨g, 0, none⟩) i cap) W := fun W => by
          have h := run_slice_files (some ⟨g, 0, none⟩) fs.length cap 0 i none (some (.int .i64 (i : Int))) W (by omega) (by omega) (by omega) (.inr ⟨rfl, rfl⟩) (.inl rfl)
          rw [if_neg (by omega), Option.map_some, addr_add] at h
          exact h
        have hcl := clear_files wr g cap d hrow i (fs.length - i) (cap - i) (by omega) (by omega)
        have hti := hrow.take i (by omega)
        have hl : (d.take i).length = i := by rw [List.length_take]; omega
        have hcd := hti.cleared (Builtin.zeroCells #[.string ⟨#[]⟩, .bool false, .slice none 0 0] (fs.length - i)).toList
        rw [hl, hlow] at hcd
        have hgg := grown_on hg (setCells_grown wr g (i * 3) (Builtin.zeroCells #[.string ⟨#[]⟩, .bool false, .slice none 0 0] (fs.length - i)).toList)
        have HCD := Lib.hid hcd
        have HGG := Lib.hid hgg
        clear hcd hgg hti hl hlow hm hrow hg HI hij hdl hcap hjn2
        have hjn3 : ¬ (j : Int) < (fs.length : Int) := by omega
        go_wp2
        go_ret
        rw [hmi.out]
        exact ⟨rfl, HCD.out, HGG.out⟩
  · have hfl : fs.filter (keepF p) = fs := by
      rw [List.filter_eq_self]
      intro f hf
      obtain ⟨j, hj, rfl⟩ := List.getElem_of_mem hf
      exact decide_eq_true (hno j hj)
    have hme : Hid (m = fs.length) := by show _ = _; rw [HM.out, hfl]
    rw [hfl]
    clear hfl hno
    go_enter Tryz.func136, Tryz.ntmps136
    go_wp2_with fail
    refine CI.out.mono ?_
    rintro e w0 ⟨rfl, hb0⟩
    have HR0 := Lib.hid (HR.out.on hb0)
    have HG0 : Hid (w.grownBy w0 (some g)) := grown_below (grown_refl w g) hb0
    clear hb0 CI
    go_wp2
    go_ret
    rw [hme.out]
    exact ⟨rfl, HR0.out, HG0.out⟩
end Go.Proofs.YtalabahjfmcnbaaGreatDoor
namespace Go.Proofs.YtalabahjfmcnbaaGreatDoor
open Go.RowKit
set_option linter.unusedVariables false

set_option maxHeartbeats 1000000 in
set_option maxRecDepth 100000 in
theorem clone_any (A : Option Addr) (fs : List Fm) (cap : Nat) (w : World) (hs : FCells w A fs) (hr : Room A fs.length cap) (hn : fs.length ≤ 1000000) :
    Calls Tryz.prog 137 #[.slice A fs.length cap] w fun e w' => ∃ v, e = .returned v ∧ OwnF w' w.heap.size v fs ∧ Below w.heap.size w w' := by
  have HS := Lib.hid hs
  have HR := Lib.hid hr
  clear hs hr
  have q : ∀ (W : World) (a : Option Addr) (n c n' c' : Nat), (binOp .eql 38 (.slice a n c) (.slice none n' c')).run Tryz.prog W = .ok (.bool a.isNone) W := fun W a n c n' c' => Lib.run_eql_slice_nil W _ _ a n c n' c' Tryz.underlying38
  cases A with
  | none =>
    have h0 : fs = [] := by
      have h1 := HR.out.1 rfl
      have h2 := HR.out.2
      exact List.length_eq_zero_iff.1 (by omega)
    subst h0
    go_enter Tryz.func137, Tryz.ntmps137
    go_wp2
    go_ret
    exact ⟨_, rfl, OwnF.nil _ _, Below.refl _ _⟩
  | some a =>
    have hal : Below w.heap.size w (w.alloc (.cells #[] 62)) := (Below.refl _ _).alloc (Nat.le_refl _) _
    have HO := Lib.hid (own_madef w w.heap.size (Nat.le_refl _))
    have HC := Lib.hid (HS.out.on hal)
    have HA := Lib.hid hal
    have hx : (0 : Nat) + fs.length ≤ 1000000 := by omega
    clear hal
    go_enter Tryz.func137, Tryz.ntmps137
    go_wp2_with (at_builtin; refine wpList_append_files rfl _ _ rfl w.heap.size _ [] fs rfl HO.out (some a) cap fs.length rfl rfl HR.out.1 HC.out HA.out.size hx ?_)
    intro v w' ho hg
    have HB := Lib.hid (below_appendf HA.out HO.out hg (Nat.le_refl _))
    have HO2 := Lib.hid ho
    clear ho hg
    go_wp2
    go_ret
    exact ⟨v, rfl, HO2.out, HB.out⟩
set_option maxHeartbeats 1000000 in
set_option maxRecDepth 100000 in
theorem delete_none (p : ByteArray) (Bp : Nat) (w : World) (hB : Bp < w.heap.size) (hc : w.cell? ⟨Bp, 0, none⟩ = some (.string p)) :
    Calls Tryz.prog 136 #[.slice none 0 0, .func (.func 157) #[] #[.pointer (some ⟨Bp, 0, none⟩)]] w fun e w' => e = .returned (.slice none 0 0) ∧ Below w.heap.size w w' := by
  have CI := Lib.hid (index_any none [] 0 p (-1) (.inr ⟨rfl, fun j hj => absurd hj (by simp)⟩) Bp w Fs.nil hB hc (by simp))
  clear hc
  go_enter Tryz.func136, Tryz.ntmps136
  go_wp2_with fail
  refine CI.out.mono ?_
  rintro e w0 ⟨rfl, hb0⟩
  have HB := Lib.hid hb0
  clear hb0 CI
  go_wp2
  go_ret
  exact ⟨rfl, HB.out⟩
theorem delete_own (v : Value) (fs : List Fm) (p : ByteArray) (r : Int) (hr : IsAt fs p r) (B Bp : Nat) (w : World) (ho : OwnF w B v fs) (hok : ∀ f ∈ fs, f.Ok w w.heap.size) (hB : B ≤ w.heap.size) (hBp : Bp < w.heap.size) (hc : w.cell? ⟨Bp, 0, none⟩ = some (.string p)) (hne : v.ownBlock ≠ some Bp) (hn : fs.length ≤ 1000000) :
    Calls Tryz.prog 136 #[v, .func (.func 157) #[] #[.pointer (some ⟨Bp, 0, none⟩)]] w fun e w' => ∃ A cap, e = .returned (.slice A (List.length (α := Fm) (fs.filter (keepF p))) cap) ∧ OwnF w' B (.slice A (List.length (α := Fm) (fs.filter (keepF p))) cap) (fs.filter (keepF p)) ∧ Below B w w' := by
  rcases own_row_cases ho with ⟨rfl, rfl⟩ | ⟨g, cap, rfl, hg, hrow⟩
  · refine (delete_none p Bp w hBp hc).mono ?_
    rintro e w' ⟨rfl, hb⟩
    exact ⟨none, 0, rfl, OwnF.nil _ _, hb.mono hB⟩
  · refine (delete_any g cap fs p r hr Bp w hrow hok hBp hc (fun e => hne (by rw [e]; rfl)) hn _ rfl).mono ?_
    rintro e w' ⟨rfl, h1, h2⟩
    exact ⟨_, _, rfl, h1.own hg, (Below.refl B w).grown h2 hB fun k hk => by simp only [Option.some.injEq] at hk; omega⟩
/-- A tree comes back, by its files. -/
def FsLeft (w : World) (fs : List Fm) (e : Ending) (w' : World) : Prop :=
  ∃ A cap, e = .returned (.agg #[.slice A (List.length (α := Fm) fs) cap]) ∧ Hid (Fs w' w'.heap.size A fs ∧ Room A fs.length cap ∧ Flat A) ∧ Below w.heap.size w w'
set_option maxHeartbeats 2000000 in
set_option maxRecDepth 100000 in
theorem without_any (A : Option Addr) (fs : List Fm) (cap : Nat) (p : ByteArray) (r : Int) (hr : IsAt fs p r) (w : World) (hs : Fs w w.heap.size A fs) (hrm : Room A fs.length cap) (hn : fs.length ≤ 1000000) :
    Calls Tryz.prog 96 #[.agg #[.slice A fs.length cap], .string p] w (FsLeft w (fs.filter (keepF p))) := by
  have hal : Below w.heap.size w ((w.alloc (.cells #[.slice A fs.length cap] 43)).alloc (.cells #[.slice none 0 0] 43)) := ((Below.refl _ _).alloc (Nat.le_refl _) _).alloc (by simp) _
  have hT : TAt ((w.alloc (.cells #[.slice A fs.length cap] 43)).alloc (.cells #[.slice none 0 0] 43)) w.heap.size A fs.length cap := (TAt.new_ w A fs.length cap).on ((Below.refl _ _).alloc (Nat.le_refl _) _)
  have hF : TAt ((w.alloc (.cells #[.slice A fs.length cap] 43)).alloc (.cells #[.slice none 0 0] 43)) (w.heap.size + 1) none 0 0 := by
    have h := TAt.new_ (w.alloc (.cells #[.slice A fs.length cap] 43)) none 0 0
    exact (by simpa using h : TAt _ (w.heap.size + 1) none 0 0)
  have hok : ∀ f ∈ fs, f.Ok w w.heap.size := hs.ok
  have hS := hs.on hal
  have HA := Lib.hid hal
  have HOK := Lib.hid hok
  have HT := Lib.hid hT
  have HF := Lib.hid hF
  clear hal hs hok hT hF
  go_enter Tryz.func96, Tryz.ntmps96
  go_wp2_with fail
  generalize ((w.alloc (.cells #[.slice A fs.length cap] 43)).alloc (.cells #[.slice none 0 0] 43)) = wa at *
  refine (clone_any A fs cap wa hS.cells hrm hn).mono ?_
  rintro e w1 ⟨v1, rfl, ho1, hb1⟩
  have HO1 := Lib.hid ho1
  have HB1 := Lib.hid hb1
  clear ho1 hb1
  go_wp2_with fail
  refine (at_any p w1).mono ?_
  rintro e w2 ⟨rfl, rfl⟩
  have hal2 : Below w1.heap.size w1 (w1.alloc (.cells #[.string p] 9)) := (Below.refl _ _).alloc (Nat.le_refl _) _
  have hb2 := HB1.out.trans (hal2.mono HB1.out.size)
  have C3 := Lib.hid (delete_own v1 fs p r hr wa.heap.size w1.heap.size (w1.alloc (.cells #[.string p] 9)) (HO1.out.kept hal2) (fun f hf => (HOK.out f hf).on (HA.out.trans (hb2.mono HA.out.size))) hb2.size (by simp) (World.cell?_alloc_new _ _ _ 0) (fun e => by have := (World.ownsRow.lt HO1.out _ e).2; omega) hn)
  have HB2 := Lib.hid hb2
  clear hal2 hb2
  go_wp2_with fail
  refine C3.out.mono ?_
  rintro e w3 ⟨A3, c3, rfl, ho3, hb3⟩
  have hb4 := HB2.out.trans hb3
  have hF3 := HF.out.on hb4
  have x0 := hF3.c0
  have x1 := hF3.fz 0
  have hFlt := HF.out.lt
  generalize hdd : fs.filter (keepF p) = d at *
  have HFS := Lib.hid (hF3.set A3 d.length c3)
  have hfin : Hid (FsLeft w d (.returned (.agg #[.slice A3 d.length c3])) (w3.setCell ⟨w.heap.size + 1, 0, none⟩ (.slice A3 d.length c3))) := by
    have hbw : Below w.heap.size w w3 := HA.out.trans (hb4.mono HA.out.size)
    have hbf : Below w.heap.size w (w3.setCell ⟨w.heap.size + 1, 0, none⟩ (.slice A3 d.length c3)) := below_set hbw (by omega) hbw.size
    have ho4 := ho3.grown (grown_cell w3 (w.heap.size + 1) 0 (.slice A3 d.length c3)) hFlt
    have hokd : ∀ f ∈ d, f.Ok (w3.setCell ⟨w.heap.size + 1, 0, none⟩ (.slice A3 d.length c3)) (w3.setCell ⟨w.heap.size + 1, 0, none⟩ (.slice A3 d.length c3)).heap.size := fun f hf => by
      have hm : f ∈ fs := by rw [← hdd] at hf; exact (List.mem_filter.1 hf).1
      exact (HOK.out f hm).on hbf
    obtain ⟨A5, c5, e5, h5, r5⟩ := ho4.fs hokd
    simp only [Value.slice.injEq] at e5
    obtain ⟨rfl, _, rfl⟩ := e5
    exact ⟨_, _, rfl, ⟨h5, r5, ho4.addr.2.2⟩, hbf⟩
  clear hb3 hb4 ho3 hdd hF3 C3 HB2 HO1 HB1 hrm hS
  go_wp2
  (try simp only [Exit.inBlock, Exit.then])
  refine bodyPost_ret (ret_tree rfl _ _ _ A3 d.length c3 rfl HFS.out) rfl ?_
  exact hfin.out
end Go.Proofs.YtalabahjfmcnbaaGreatDoor
