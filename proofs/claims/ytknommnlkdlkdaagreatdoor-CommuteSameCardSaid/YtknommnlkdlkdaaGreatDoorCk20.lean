/- The statements' Light of steps (layer 7). What the laws of layer 8 hold: steps in blocks, pairs of steps, rows of steps. Words for memory: rows of files. -/
import Derived.Test.YtknommnlkdlkdaaGreatDoorCk04
import Derived.Test.YtknommnlkdlkdaaGreatDoorCk08
import Derived.Test.YtknommnlkdlkdaaGreatDoorCk05
import Derived.Test.YtknommnlkdlkdaaGreatDoorCk18
import Derived.Test.YtknommnlkdlkdaaGreatDoorCk19
import Derived.Test.YtknommnlkdlkdaaGreatDoorCk02
import Derived.Deep.AppendLies
import Derived.BigQuiet
import Derived.Deep.QuietTactic
import Derived.Handy
namespace Go.Proofs.YtknommnlkdlkdaaGreatDoor
open Go.RowKit
set_option linter.unusedVariables false

theorem light3_facts {ls : List (List UInt8)} (h : light3B (toBs ls) = true) : LightK ls := by
  refine ⟨by have := light3B_len h; rwa [toBs_len] at this, fun x hx => ?_⟩
  unfold light3B at h
  rw [Bool.and_eq_true, List.all_eq_true] at h
  have := h.1 (toB x) (List.mem_map.2 ⟨x, hx, rfl⟩)
  rw [decide_eq_true_eq, toB_size] at this
  exact this
def light7One (x : Pm) : Bool := decide (x.p.size ≤ 300) && decide (x.dst.size ≤ 300) && light3B (toBs x.old) && light3B (toBs x.new)
def light7B (l : List Pm) : Bool := l.all light7One && decide (l.length ≤ 40)
theorem light7_no {l : List Pm} {k : Nat} (hk : k < l.length) (h : light7One l[k] = false) : light7B l = false := by
  have : l.all light7One = false := by
    rw [List.all_eq_false]
    exact ⟨l[k], List.getElem_mem _, by rw [h]; simp⟩
  simp [light7B, this]
theorem light7_yes {l : List Pm} (h : ∀ j (hj : j < l.length), light7One l[j] = true) : light7B l = decide (l.length ≤ 40) := by
  have : l.all light7One = true := by
    rw [List.all_eq_true]
    intro s hs
    obtain ⟨j, hj, rfl⟩ := List.getElem_of_mem hs
    exact h j hj
  simp [light7B, this]
theorem light7_facts {l : List Pm} (h : light7B l = true) : l.length ≤ 40 ∧ ∀ x ∈ l, light7One x = true := by
  unfold light7B at h
  rw [Bool.and_eq_true, List.all_eq_true] at h
  exact ⟨by simpa using h.2, h.1⟩
theorem light7_light {x : Pm} (h : light7One x = true) : x.Light := by
  unfold light7One at h
  simp only [Bool.and_eq_true, decide_eq_true_eq] at h
  exact ⟨h.1.1.1, h.1.1.2, light3_facts h.1.2, light3_facts h.2⟩
set_option maxHeartbeats 4000000 in
set_option maxRecDepth 100000 in
theorem light7_any (A : Option Addr) (l : List Pm) (cap : Nat) (w : World) (hk : Ps w w.heap.size A l) (hn : l.length ≤ 9223372036854775807) :
    Calls Tryz.prog 5 #[.slice A l.length cap] w fun e w' => e = .returned (.bool (light7B l)) ∧ w = w' := by
  have HK := Lib.hid hk
  clear hk
  go_enter Tryz.func5, Tryz.ntmps5
  go_wp2
  go_loop [3] (fun i => ∃ k : Nat, k ≤ l.length ∧ i = .int .i64 (k : Int) ∧ Hid (∀ j (hj : j < l.length), j < k → light7One l[j] = true)) (fun i => l.length - (intOf i).toNat)
  case atStart => exact ⟨0, Nat.zero_le _, rfl, fun j _ h => absurd h (by omega)⟩
  case round =>
    obtain ⟨k, hk, rfl, hall⟩ := hrel
    by_cases hlt : k < l.length
    · obtain ⟨b, off, rfl, _, h1, h2, h3, h4, h5, h6⟩ := HK.out.get hlt
      have ok := HK.out.ok l[k] (List.getElem_mem _)
      have c1 := light3_any l[k].a1 (toBs l[k].old) l[k].c1 w ok.h.old (by rw [toBs_len]; exact ok.h.n1)
      have c2 := light3_any l[k].a2 (toBs l[k].new) l[k].c2 w ok.h.new (by rw [toBs_len]; exact ok.h.n2)
      rw [toBs_len] at c1 c2
      have hno := Lib.hid (light7_no hlt)
      have hyes : Hid (light7One l[k] = true → ∀ j (hj : j < l.length), j < k + 1 → light7One l[j] = true) := by
        intro h j hj hjk
        by_cases he : j = k
        · subst he; exact h
        · exact hall.out j hj (by omega)
      have hone : Hid (light7One l[k] = (decide (l[k].p.size ≤ 300) && decide (l[k].dst.size ≤ 300) && light3B (toBs l[k].old) && light3B (toBs l[k].new))) := rfl
      generalize light3B (toBs l[k].old) = d1 at *
      generalize light3B (toBs l[k].new) = d2 at *
      generalize l[k].p = p at *
      generalize l[k].dst = q at *
      have C1 := Lib.hid c1
      have C2 := Lib.hid c2
      clear c1 c2 ok hall
      generalize l[k].old.length = m1 at *
      generalize l[k].new.length = m2 at *
      by_cases hp : 300 < p.size
      · have hfin := Lib.hid (hno.out (by rw [hone.out, decide_eq_false (by omega)]; rfl))
        clear C1 C2
        clear hno hyes hone
        go_wp2
        go_ret
        rw [hfin.out]
        exact ⟨rfl, rfl⟩
      · have hp2 : p.size ≤ 300 := by omega
        by_cases hq : 300 < q.size
        · have hfin := Lib.hid (hno.out (by rw [hone.out, decide_eq_true hp2, decide_eq_false (by omega)]; rfl))
          clear C1 C2
          clear hno hyes hone
          go_wp2
          go_ret
          rw [hfin.out]
          exact ⟨rfl, rfl⟩
        · have hq2 : q.size ≤ 300 := by omega
          cases d1
          · have hfin := Lib.hid (hno.out (by rw [hone.out, Bool.and_false]; rfl))
            clear hno hyes hone C2
            go_wp2_with fail
            refine C1.out.mono ?_
            rintro e w' ⟨rfl, rfl⟩
            go_wp2
            go_ret
            rw [hfin.out]
            exact ⟨rfl, rfl⟩
          · cases d2
            · have hfin := Lib.hid (hno.out (by rw [hone.out, Bool.and_false]))
              clear hno hyes hone
              go_wp2_with fail
              refine C1.out.mono ?_
              rintro e w' ⟨rfl, rfl⟩
              go_wp2_with fail
              refine C2.out.mono ?_
              rintro e w' ⟨rfl, rfl⟩
              go_wp2
              go_ret
              rw [hfin.out]
              exact ⟨rfl, rfl⟩
            · have hnew := Lib.hid (hyes.out (by rw [hone.out, decide_eq_true hp2, decide_eq_true hq2]; rfl))
              clear hno hyes hone
              go_wp2_with fail
              refine C1.out.mono ?_
              rintro e w' ⟨rfl, rfl⟩
              go_wp2_with fail
              refine C2.out.mono ?_
              rintro e w' ⟨rfl, rfl⟩
              go_wp2
              go_round
              case rel => exact ⟨k + 1, by omega, by go_num, hnew⟩
              case measure => simp [intOf]; omega
    · have hk2 : k = l.length := by omega
      subst hk2
      have hy := Lib.hid (light7_yes (fun j hj => hall.out j hj hj))
      clear hall
      go_wp2
      go_ret
      rw [hy.out]
      exact ⟨by simp; omega, rfl⟩
end Go.Proofs.YtknommnlkdlkdaaGreatDoor
namespace Go.Proofs.YtknommnlkdlkdaaGreatDoor
open Go.RowKit
set_option linter.unusedVariables false

/-- A step that is not far too long. -/
structure LtK (k : Pk) : Prop where
  p : k.path.length ≤ 300
  q : k.dst.length ≤ 300
  old : LightK k.old
  new : LightK k.new
theorem LtK.wd {k : Pk} (h : LtK k) : WdK k := ⟨Nat.le_trans h.p (by decide), Nat.le_trans h.q (by decide), h.old.wide, h.new.wide⟩
theorem LtK.zero : LtK zeroP := ⟨Nat.zero_le _, Nat.zero_le _, ⟨Nat.zero_le _, fun x h => by cases h⟩, ⟨Nat.zero_le _, fun x h => by cases h⟩⟩
theorem light_lt {x : Pm} (h : x.Light) : LtK x.key := ⟨h.p, h.q, h.old, h.new⟩
theorem lt_light {x : Pm} (h : LtK x.key) : x.Light := ⟨h.p, h.q, h.old, h.new⟩
theorem shift_lt {p q : Pk} {r : Pk × Pk} (hp : LtK p) (hq : LtK q) (h : shiftP p q = some r) : LtK r.1 ∧ LtK r.2 := by
  unfold shiftP at h
  split at h
  · cases h
    exact ⟨⟨hq.p, hq.q, hq.old, hq.new⟩, hp⟩
  · split at h
    · cases h
      exact ⟨hq, ⟨hp.p, hp.q, hp.old, hp.new⟩⟩
    · cases h
theorem pair_lt {p q b a : Pk} {n : Int} (hp : LtK p) (hq : LtK q) (h : pairP p q = (n, b, a)) : LtK b ∧ LtK a := by
  unfold pairP at h
  split at h
  · cases h
    exact ⟨LtK.zero, LtK.zero⟩
  split at h
  · cases h
    exact ⟨LtK.zero, LtK.zero⟩
  split at h
  · cases hs : shiftP p q with
    | none =>
      rw [hs] at h
      cases h
      exact ⟨LtK.zero, LtK.zero⟩
    | some r =>
      rw [hs] at h
      cases h
      exact shift_lt hp hq hs
  split at h
  · cases h
    exact ⟨⟨hp.p, hq.q, hq.old, hq.new⟩, hp⟩
  split at h
  · cases h
    exact ⟨hq, ⟨hq.q, hp.q, hp.old, hp.new⟩⟩
  split at h
  · cases h
    exact ⟨hq, hp⟩
  · cases h
    exact ⟨LtK.zero, LtK.zero⟩
/-- A step in a block of its own, its lines below. -/
def HeldP (w : World) (g : Nat) (x : Pm) : Prop := PrimAt w g x ∧ x.Ok w w.heap.size
theorem HeldP.on {w w' : World} {g : Nat} {x : Pm} (h : HeldP w g x) (hb : Below w.heap.size w w') : HeldP w' g x := ⟨h.1.on hb, h.2.on hb⟩
/-- What Pair hands back, in the laws' words. -/
def PairL (w : World) (p q : Pk) (e : Ending) (w' : World) : Prop :=
  ∃ (y z : Pm) (n : Int), e = .returned (.tuple #[.agg #[.int .i64 y.kind, .string y.p, .string y.dst, .int .i64 y.at_, .slice y.a1 y.old.length y.c1, .slice y.a2 y.new.length y.c2], .agg #[.int .i64 z.kind, .string z.p, .string z.dst, .int .i64 z.at_, .slice z.a1 z.old.length z.c1, .slice z.a2 z.new.length z.c2], .int .i64 n]) ∧
    Hid (y.Ok w' w'.heap.size ∧ z.Ok w' w'.heap.size ∧ pairP p q = (n, y.key, z.key)) ∧ Below w.heap.size w w'
theorem cpair_l (x y : Pm) (w : World) (ox : x.Ok w w.heap.size) (oy : y.Ok w w.heap.size) (wx : LtK x.key) (wy : LtK y.key) (hT : Tabs w) :
    Calls Tryz.prog 9 #[.agg #[.int .i64 x.kind, .string x.p, .string x.dst, .int .i64 x.at_, .slice x.a1 x.old.length x.c1, .slice x.a2 x.new.length x.c2], .agg #[.int .i64 y.kind, .string y.p, .string y.dst, .int .i64 y.at_, .slice y.a1 y.old.length y.c1, .slice y.a2 y.new.length y.c2]] w (PairL w x.key y.key) := by
  refine (cpair_any x y w ox oy wx.wd wy.wd hT).mono ?_
  rintro e w' ⟨b, a, rfl, h, hb⟩
  refine ⟨b, a, (pairP x.key y.key).1, rfl, ⟨h.out.1.1, h.out.2.1.1, ?_⟩, hb⟩
  rw [h.out.2.2.1, h.out.2.2.2]
/-- Both steps that Pair handed back, in blocks of their own. -/
theorem pair_kept {w w1 : World} {p q : Pk} {y z : Pm} {n : Int} (hp : LtK p) (hq : LtK q) (h : y.Ok w1 w1.heap.size ∧ z.Ok w1 w1.heap.size ∧ pairP p q = (n, y.key, z.key)) (hb : Below w.heap.size w w1) :
    Below w.heap.size w ((w1.alloc (.cells #[.int .i64 y.kind, .string y.p, .string y.dst, .int .i64 y.at_, .slice y.a1 y.old.length y.c1, .slice y.a2 y.new.length y.c2] 25)).alloc (.cells #[.int .i64 z.kind, .string z.p, .string z.dst, .int .i64 z.at_, .slice z.a1 z.old.length z.c1, .slice z.a2 z.new.length z.c2] 25)) ∧
    HeldP ((w1.alloc (.cells #[.int .i64 y.kind, .string y.p, .string y.dst, .int .i64 y.at_, .slice y.a1 y.old.length y.c1, .slice y.a2 y.new.length y.c2] 25)).alloc (.cells #[.int .i64 z.kind, .string z.p, .string z.dst, .int .i64 z.at_, .slice z.a1 z.old.length z.c1, .slice z.a2 z.new.length z.c2] 25)) w1.heap.size y ∧
    HeldP ((w1.alloc (.cells #[.int .i64 y.kind, .string y.p, .string y.dst, .int .i64 y.at_, .slice y.a1 y.old.length y.c1, .slice y.a2 y.new.length y.c2] 25)).alloc (.cells #[.int .i64 z.kind, .string z.p, .string z.dst, .int .i64 z.at_, .slice z.a1 z.old.length z.c1, .slice z.a2 z.new.length z.c2] 25)) (w1.heap.size + 1) z ∧ LtK y.key ∧ LtK z.key := by
  obtain ⟨bl, k7, k8⟩ := box2 w1 y z
  have hl := pair_lt hp hq h.2.2
  exact ⟨hb.trans (bl.mono hb.size), ⟨k7, h.1.on bl⟩, ⟨k8, h.2.1.on bl⟩, hl.1, hl.2⟩
theorem row_two {w : World} {x y : Pm} (ox : x.Ok w w.heap.size) (oy : y.Ok w w.heap.size) : Ps (w.alloc (.cells #[.int .i64 x.kind, .string x.p, .string x.dst, .int .i64 x.at_, .slice x.a1 x.old.length x.c1, .slice x.a2 x.new.length x.c2, .int .i64 y.kind, .string y.p, .string y.dst, .int .i64 y.at_, .slice y.a1 y.old.length y.c1, .slice y.a2 y.new.length y.c2] 25)) (w.alloc (.cells #[.int .i64 x.kind, .string x.p, .string x.dst, .int .i64 x.at_, .slice x.a1 x.old.length x.c1, .slice x.a2 x.new.length x.c2, .int .i64 y.kind, .string y.p, .string y.dst, .int .i64 y.at_, .slice y.a1 y.old.length y.c1, .slice y.a2 y.new.length y.c2] 25)).heap.size (some ⟨w.heap.size, 0, none⟩) [x, y] := by
  rw [World.size_alloc]
  exact ps_new (ps := [x, y]) fun z hz => by
    simp only [List.mem_cons, List.not_mem_nil, or_false] at hz
    rcases hz with rfl | rfl
    · exact ox
    · exact oy
theorem row_three {w : World} {x y z : Pm} (ox : x.Ok w w.heap.size) (oy : y.Ok w w.heap.size) (oz : z.Ok w w.heap.size) : Ps (w.alloc (.cells #[.int .i64 x.kind, .string x.p, .string x.dst, .int .i64 x.at_, .slice x.a1 x.old.length x.c1, .slice x.a2 x.new.length x.c2, .int .i64 y.kind, .string y.p, .string y.dst, .int .i64 y.at_, .slice y.a1 y.old.length y.c1, .slice y.a2 y.new.length y.c2, .int .i64 z.kind, .string z.p, .string z.dst, .int .i64 z.at_, .slice z.a1 z.old.length z.c1, .slice z.a2 z.new.length z.c2] 25)) (w.alloc (.cells #[.int .i64 x.kind, .string x.p, .string x.dst, .int .i64 x.at_, .slice x.a1 x.old.length x.c1, .slice x.a2 x.new.length x.c2, .int .i64 y.kind, .string y.p, .string y.dst, .int .i64 y.at_, .slice y.a1 y.old.length y.c1, .slice y.a2 y.new.length y.c2, .int .i64 z.kind, .string z.p, .string z.dst, .int .i64 z.at_, .slice z.a1 z.old.length z.c1, .slice z.a2 z.new.length z.c2] 25)).heap.size (some ⟨w.heap.size, 0, none⟩) [x, y, z] := by
  rw [World.size_alloc]
  exact ps_new (ps := [x, y, z]) fun u hu => by
    simp only [List.mem_cons, List.not_mem_nil, or_false] at hu
    rcases hu with rfl | rfl | rfl
    · exact ox
    · exact oy
    · exact oz
end Go.Proofs.YtknommnlkdlkdaaGreatDoor
namespace Go.Proofs.YtknommnlkdlkdaaGreatDoor
open Go.RowKit
set_option linter.unusedVariables false

/-- What a file says: its path, is it a directory, its lines. -/
abbrev PF := List UInt8 × Bool × List (List UInt8)
/-- A file as it lies: its path, is it a directory, and its lines' slice, with the lines that it holds. -/
structure Fm where
  p : ByteArray
  d : Bool
  a : Option Addr
  c : Nat
  ls : List (List UInt8)
def Fm.cells (f : Fm) : List Value := [.string f.p, .bool f.d, .slice f.a f.ls.length f.c]
/-- Its lines lie below B. -/
structure Fm.Ok (f : Fm) (w : World) (B : Nat) : Prop where
  ls : Strs w B f.a (toBs f.ls)
  r : Room f.a f.ls.length f.c
def Fm.key (f : Fm) : PF := (f.p.data.toList, f.d, f.ls)
def fkeys (fs : List Fm) : List PF := fs.map Fm.key
theorem fkeys_len (fs : List Fm) : (fkeys fs).length = fs.length := by simp [fkeys]
theorem fkeys_get (fs : List Fm) (j : Nat) (h : j < (fkeys fs).length) : (fkeys fs)[j] = (fs[j]'(by rw [fkeys_len] at h; exact h)).key := by simp [fkeys]
/-- Files lie at A, three cells each, in a block below B. -/
structure Fs (w : World) (B : Nat) (A : Option Addr) (fs : List Fm) : Prop where
  at_ : 0 < fs.length → ∃ b off, A = some ⟨b, off, none⟩ ∧ b < B ∧ ∀ j (h : j < fs.length), w.cell? ⟨b, off + j * 3, none⟩ = some (.string fs[j].p) ∧
    w.cell? ⟨b, off + j * 3 + 1, none⟩ = some (.bool fs[j].d) ∧ w.cell? ⟨b, off + j * 3 + 2, none⟩ = some (.slice fs[j].a fs[j].ls.length fs[j].c)
  ok : ∀ f ∈ fs, f.Ok w B

section
variable {w w' : World} {B B' : Nat} {A : Option Addr} {fs : List Fm} {f : Fm}
theorem Fm.Ok.below (k : f.Ok w B) (hb : Below B w w') : f.Ok w' B := ⟨k.ls.below hb, k.r⟩
theorem Fm.Ok.more (k : f.Ok w B) (hB : B ≤ B') : f.Ok w B' := ⟨k.ls.more hB, k.r⟩
theorem Fm.Ok.on (k : f.Ok w w.heap.size) (hb : Below w.heap.size w w') : f.Ok w' w'.heap.size := (k.below hb).more hb.size
theorem Fs.below (k : Fs w B A fs) (hb : Below B w w') : Fs w' B A fs :=
  ⟨fun hp => by
    obtain ⟨b, off, e, hlt, hc⟩ := k.at_ hp
    refine ⟨b, off, e, hlt, fun j hj => ?_⟩
    obtain ⟨h1, h2, h3⟩ := hc j hj
    exact ⟨(hb.cell (p := ⟨b, _, none⟩) hlt).trans h1, (hb.cell (p := ⟨b, _, none⟩) hlt).trans h2, (hb.cell (p := ⟨b, _, none⟩) hlt).trans h3⟩, fun h hh => (k.ok h hh).below hb⟩
theorem Fs.more (k : Fs w B A fs) (hB : B ≤ B') : Fs w B' A fs :=
  ⟨fun hp => by
    obtain ⟨b, off, e, hlt, hc⟩ := k.at_ hp
    exact ⟨b, off, e, by omega, hc⟩, fun h hh => (k.ok h hh).more hB⟩
theorem Fs.on (k : Fs w w.heap.size A fs) (hb : Below w.heap.size w w') : Fs w' w'.heap.size A fs := (k.below hb).more hb.size
theorem Fs.nil : Fs w B A [] := ⟨fun h => absurd h (by simp), fun h hh => by cases hh⟩
theorem Fs.get (k : Fs w B A fs) {j : Nat} (hj : j < fs.length) : ∃ b off, A = some ⟨b, off, none⟩ ∧ b < B ∧ w.cell? ⟨b, off + j * 3, none⟩ = some (.string fs[j].p) ∧
    w.cell? ⟨b, off + j * 3 + 1, none⟩ = some (.bool fs[j].d) ∧ w.cell? ⟨b, off + j * 3 + 2, none⟩ = some (.slice fs[j].a fs[j].ls.length fs[j].c) := by
  obtain ⟨b, off, e, hlt, hc⟩ := k.at_ (by omega)
  exact ⟨b, off, e, hlt, hc j hj⟩
end

/-- A file of its own lies in block g. -/
def FileAt (w : World) (g : Nat) (f : Fm) : Prop := w.heap[g]? = some (.cells f.cells.toArray 42 (0, 0))
section
variable {w w' : World} {g : Nat} {f : Fm}
theorem FileAt.c0 (k : FileAt w g f) : w.cell? ⟨g, 0, none⟩ = some (.string f.p) := by simp [World.cell?, show w.heap[g]? = _ from k, Fm.cells]
theorem FileAt.c1 (k : FileAt w g f) : w.cell? ⟨g, 1, none⟩ = some (.bool f.d) := by simp [World.cell?, show w.heap[g]? = _ from k, Fm.cells]
theorem FileAt.c2 (k : FileAt w g f) : w.cell? ⟨g, 2, none⟩ = some (.slice f.a f.ls.length f.c) := by simp [World.cell?, show w.heap[g]? = _ from k, Fm.cells]
theorem FileAt.fz (k : FileAt w g f) (i : Nat) : w.frozen? ⟨g, i, none⟩ = false := by simp [World.frozen?, show w.heap[g]? = _ from k]
theorem FileAt.lt (k : FileAt w g f) : g < w.heap.size := (Array.getElem?_eq_some_iff.1 k).1
theorem FileAt.on (k : FileAt w g f) (hb : Below w.heap.size w w') : FileAt w' g f := (hb.block g k.lt).trans k
theorem FileAt.grown {row : Option Nat} (k : FileAt w g f) (hg : w.grownBy w' row) (hr : row ≠ some g) : FileAt w' g f := (hg.block g k.lt (fun e => hr e.symm)).trans k
theorem FileAt.new_ (w : World) (f : Fm) : FileAt (w.alloc (.cells f.cells.toArray 42)) w.heap.size f := heap_alloc_new w _
end

def fcells (fs : List Fm) : List Value := fs.flatMap Fm.cells
theorem fcells_len : ∀ (fs : List Fm), (fcells fs).length = fs.length * 3
  | [] => rfl
  | h :: fs => by
    have := fcells_len fs
    simp only [fcells, List.flatMap_cons, List.length_append, List.length_cons] at *
    rw [this]
    show 3 + _ = _
    omega
theorem fcells_get : ∀ (fs : List Fm) (j : Nat) (hj : j < fs.length), (fcells fs)[j * 3]? = some (.string fs[j].p) ∧ (fcells fs)[j * 3 + 1]? = some (.bool fs[j].d) ∧ (fcells fs)[j * 3 + 2]? = some (.slice fs[j].a fs[j].ls.length fs[j].c)
  | h :: fs, 0, hj => ⟨rfl, rfl, rfl⟩
  | h :: fs, j + 1, hj => by
    have ih := fcells_get fs j (by simpa using hj)
    have e : ∀ r, (fcells (h :: fs))[(j + 1) * 3 + r]? = (fcells fs)[j * 3 + r]? := by
      intro r
      have e1 : fcells (h :: fs) = h.cells ++ fcells fs := rfl
      rw [e1, List.getElem?_append_right (by show 3 ≤ _; omega)]
      congr 1
      show _ - 3 = _
      omega
    have e0 := e 0
    rw [Nat.add_zero, Nat.add_zero] at e0
    rw [e0, e 1, e 2]
    exact ih
theorem fcells_app (a b : List Fm) : fcells (a ++ b) = fcells a ++ fcells b := by simp [fcells]
/-- Each place of a row of cells is one of a file's. -/
theorem fcells_at (fs : List Fm) (i : Nat) (h : i < fs.length * 3) : ∃ j r, j < fs.length ∧ r < 3 ∧ i = j * 3 + r := ⟨i / 3, i % 3, by omega, by omega, by omega⟩
/-- A slice of files that the call made. -/
def OwnF (w : World) (B : Nat) (v : Value) (fs : List Fm) : Prop := w.ownsRow B 42 3 v fs.length (fcells fs)
theorem OwnF.nil (w : World) (B : Nat) : OwnF w B (.slice none 0 0) [] := w.ownsRow_nil B 42 3
theorem OwnF.fs {w : World} {B : Nat} {v : Value} {fs : List Fm} (h : OwnF w B v fs) (hok : ∀ f ∈ fs, f.Ok w w.heap.size) : ∃ A cap, v = .slice A fs.length cap ∧ Fs w w.heap.size A fs ∧ Room A fs.length cap := by
  have h' := h
  rcases h.2 with ⟨rfl, h0⟩ | ⟨g, cap, cur, rfl, _, hg, hcap, _⟩
  · have e : fs = [] := List.length_eq_zero_iff.1 h0
    subst e
    exact ⟨none, 0, rfl, Fs.nil, fun _ => rfl, Nat.le_refl _⟩
  · refine ⟨_, cap, rfl, ⟨fun hp => ⟨g, 0, rfl, (Array.getElem?_eq_some_iff.1 hg).1, fun j hj => ?_⟩, hok⟩, (fun e => by cases e), hcap⟩
    obtain ⟨c0, c1, c2⟩ := fcells_get fs j hj
    have e : ∀ i, (⟨g, 0, none⟩ : Addr).add i = ⟨g, i, none⟩ := fun i => by unfold Addr.add; split <;> simp_all
    have k0 := h'.cells (g := g) rfl _ _ c0
    have k1 := h'.cells (g := g) rfl _ _ c1
    have k2 := h'.cells (g := g) rfl _ _ c2
    rw [e] at k0 k1 k2
    rw [Nat.zero_add]
    exact ⟨k0, k1, k2⟩
theorem info_file : (Tryz.prog.info? 42).map (fun i => (i.zero, i.size, i.bytes)) = some (some (.agg #[.string ByteArray.empty, .bool false, .slice none 0 0]), 3, 48) := by kernel_rfl
end Go.Proofs.YtknommnlkdlkdaaGreatDoor
