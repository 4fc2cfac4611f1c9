/- Package seq's turned: rows that change places, step by step. -/
import Derived.BigQuiet
import Derived.Deep.QuietTactic
import Derived.Handy
import Derived.Laws.Cover1
import Derived.Sort.OwnSorted
import Derived.Deep.RegionHeld3
import Derived.Deep.DrawnRows
import Derived.Deep.RegionLaw
import Derived.Test.YtalabahjfmcnbaaGreatDoorShelf
import Derived.Deep.CutRange
import Derived.Shelf.RegionOpen
import Derived.Scope
import Derived.Test.YtalabahjfmcnbaaGreatDoorCk16
namespace Go.Proofs.YtalabahjfmcnbaaGreatDoor
open Go.RowKit Go.Shelf
set_option linter.unusedVariables false

attribute [local go_sem] Oper.semAt_some
theorem wpIn_region_out {P : Program} {ops : Array Oper} {Q : Exit → Act → World → Prop} {id n : Nat} {a : Act} {w : World} (hm : P.follows .mixedOrders = true) (S : World → Prop) (R : Act → World → Prop) (hS : S w.drew)
    (first : S w.drew → wpAnyH P .any ops (onward R) S ops.size (Array.replicate ops.size false) a w.drew) (rest : ∀ a' w', R a' w' → Q .normal a' w') : (Code.region id ops true).wpIn Fence.wide n P Q a w := by
  refine wpIn_mono (wpIn_wide.2 (wp_region_held_drew (Q := onward R) hm hS first)) ?_
  intro e a' w' h
  cases e with
  | normal => exact rest _ _ h
  | exit id => exact h.elim
  | goto l => exact h.elim
  | ret => exact h.elim
  | panic ch => exact h.elim
  | outgrown => exact h.elim
theorem grown_both {a b c : World} {row : Option Nat} (h : a.grownBy b row) (k : b.grownBy c row) : a.grownBy c row := ⟨k.os.trans h.os, k.tape.trans h.tape, k.output.trans h.output, Nat.le_trans h.size k.size, fun i hi hr => (k.block i (Nat.lt_of_lt_of_le hi h.size) hr).trans (h.block i hi hr)⟩
def zpm : Pm := ⟨0, ⟨#[]⟩, ⟨#[]⟩, 0, none, 0, [], none, 0, []⟩
theorem zpm_key : zpm.key = zeroP := rfl
theorem made_aux (f : Nat → Value) (h : ∀ q, f (q * 6) = .int .i64 0 ∧ f (q * 6 + 1) = .string ⟨#[]⟩ ∧ f (q * 6 + 2) = .string ⟨#[]⟩ ∧ f (q * 6 + 3) = .int .i64 0 ∧ f (q * 6 + 4) = .slice none 0 0 ∧ f (q * 6 + 5) = .slice none 0 0) : ∀ n, (List.range (n * 6)).map f = pcells (List.replicate n zpm)
  | 0 => rfl
  | n + 1 => by
    obtain ⟨h0, h1, h2, h3, h4, h5⟩ := h n
    rw [show (n + 1) * 6 = n * 6 + 1 + 1 + 1 + 1 + 1 + 1 by omega]
    simp only [List.range_succ, List.map_append, List.map_cons, List.map_nil]
    rw [made_aux f h n, List.replicate_succ', pcells_app, show n * 6 + 1 + 1 = n * 6 + 2 by omega, show n * 6 + 2 + 1 = n * 6 + 3 by omega, show n * 6 + 3 + 1 = n * 6 + 4 by omega, show n * 6 + 4 + 1 = n * 6 + 5 by omega, h0, h1, h2, h3, h4, h5]
    simp [pcells, Pm.cells, zpm]
theorem make_prims (W : World) (n : Nat) (hn : n ≤ 100000) : ∃ cs, (Instr.makeSlice 22 (.int .i64 (n : Int)) (.int .i64 (n : Int))).run Tryz.prog W = .ok (.slice (some ⟨W.heap.size, 0, none⟩) n n) (W.alloc (.cells cs 33)) ∧ OwnP (W.alloc (.cells cs 33)) W.heap.size (.slice (some ⟨W.heap.size, 0, none⟩) n n) (List.replicate n zpm) := by
  obtain ⟨i0, hi, hz0, hz1, hz2⟩ := info_parts info_prim
  have hr := run_make (P := Tryz.prog) W 22 33 i0 _ Tryz.underlying22 hi hz0 .i64 .i64 n n (by omega) (Int.le_refl _) (by rw [hz2]; omega) (by omega)
  simp only [Int.toNat_natCast] at hr
  rw [hz1] at hr
  refine ⟨_, hr, ?_⟩
  have h2 := World.ownsRow_lit (base := W.heap.size) (e := 33) (size := 6) W (madeCells (Value.agg #[.int .i64 0, .string ByteArray.empty, .string ByteArray.empty, .int .i64 0, .slice none 0 0, .slice none 0 0]).cells (n * 6)) n (Nat.le_refl _) (by unfold maxLen; omega) (size_madeCells _ _)
  unfold OwnP
  rw [List.length_replicate]
  have e : (madeCells (Value.agg #[.int .i64 0, .string ByteArray.empty, .string ByteArray.empty, .int .i64 0, .slice none 0 0, .slice none 0 0]).cells (n * 6)).toList = pcells (List.replicate n zpm) := by
    unfold madeCells
    rw [Array.toList_map, Array.toList_range]
    refine made_aux _ (fun q => ?_) n
    have e0 : (q * 6) % 6 = 0 := by omega
    have e1 : (q * 6 + 1) % 6 = 1 := by omega
    have e2 : (q * 6 + 2) % 6 = 2 := by omega
    have e3 : (q * 6 + 3) % 6 = 3 := by omega
    have e4 : (q * 6 + 4) % 6 = 4 := by omega
    have e5 : (q * 6 + 5) % 6 = 5 := by omega
    simp [Value.cells, e0, e1, e2, e3, e4, e5]
    try rfl
  rw [e] at h2
  exact h2
/-- The variables, before and behind the row is made. -/
structure MadeI (w V : World) (s : Nat) (va vb : Value) : Prop where
  a : Boxed V w.heap.size 22 va
  b : Boxed V (w.heap.size + 1) 22 vb
  c : Boxed V (w.heap.size + 2) 25 (.int .i64 0)
  f : Below w.heap.size w V
  sz : V.heap.size = w.heap.size + s
theorem MadeI.seta {w V : World} {s : Nat} {va vb : Value} (h : MadeI w V s va vb) (v : Value) : MadeI w (V.setCell ⟨w.heap.size, 0, none⟩ v) s v vb :=
  ⟨h.a.set v, h.b.other (by omega) v, h.c.other (by omega) v, h.f.setCell (p := ⟨w.heap.size, 0, none⟩) (Nat.le_refl _) _, by rw [← h.sz]; simp⟩
theorem MadeI.setb {w V : World} {s : Nat} {va vb : Value} (h : MadeI w V s va vb) (v : Value) : MadeI w (V.setCell ⟨w.heap.size + 1, 0, none⟩ v) s va v :=
  ⟨h.a.other (by omega) v, h.b.set v, h.c.other (by omega) v, h.f.setCell (p := ⟨w.heap.size + 1, 0, none⟩) (by simp) _, by rw [← h.sz]; simp⟩
/-- .. and the row. -/
structure MadeR (w V : World) (n : Nat) (va vb : Value) : Prop where
  h : MadeI w V 4 va vb
  d : OwnP V w.heap.size (.slice (some ⟨w.heap.size + 3, 0, none⟩) n n) (List.replicate n zpm)
theorem MadeI.made {w V : World} {va vb : Value} {n : Nat} {cs : Array Value} (h : MadeI w V 3 va vb) (ho : OwnP (V.alloc (.cells cs 33)) (w.heap.size + 3) (.slice (some ⟨w.heap.size + 3, 0, none⟩) n n) (List.replicate n zpm)) : MadeR w (V.alloc (.cells cs 33)) n va vb :=
  ⟨⟨h.a.alloc _, h.b.alloc _, h.c.alloc _, h.f.alloc h.f.size _, by rw [World.size_alloc, h.sz]⟩, ho.lower1 (by omega)⟩
theorem MadeR.seta {w V : World} {n : Nat} {va vb : Value} (h : MadeR w V n va vb) (v : Value) : MadeR w (V.setCell ⟨w.heap.size, 0, none⟩ v) n v vb :=
  ⟨h.h.seta v, ownsRow_setCell_other h.d (by simp [Value.ownBlock]) v⟩
theorem MadeR.setb {w V : World} {n : Nat} {va vb : Value} (h : MadeR w V n va vb) (v : Value) : MadeR w (V.setCell ⟨w.heap.size + 1, 0, none⟩ v) n va v :=
  ⟨h.h.setb v, ownsRow_setCell_other h.d (by simp [Value.ownBlock]) v⟩
theorem kpB_below1 {n₀ b : Nat} {X Y : World} (h : Below X.heap.size X Y) (hn : n₀ ≤ X.heap.size) : KpB n₀ b X Y := ⟨h.mono hn, fun hb => h.block b hb⟩
theorem TurnI.fresh {w W : World} {m cap k0 : Nat} {A : Option Addr} {s : Int × List Pk × List Pk} (h : TurnI w W m A cap k0 s) (o : Obj) : ∀ A1 n1 c1, Boxed (W.alloc o) w.heap.size 22 (.slice A1 n1 c1) → 0 < n1 → ∀ ad, A1 = some ad → ad.block ≠ W.heap.size := by
  intro A1 n1 c1 hb h0 ad e
  obtain ⟨A2, n2, c2, rs, a1, a2, _, _, _, _⟩ := h.a
  have h1 := a1.alloc o
  have h2 : some (Obj.cells #[Value.slice A1 n1 c1] 22 (0, 0)) = some (Obj.cells #[Value.slice A2 n2 c2] 22 (0, 0)) := hb.symm.trans h1
  simp only [Option.some.injEq, Obj.cells.injEq, Array.mk.injEq, List.cons.injEq, Value.slice.injEq, and_true] at h2
  obtain ⟨rfl, rfl, rfl⟩ := h2
  have := a2.lt h.f.size h0 ad e
  omega
theorem fold_nil (ks b : List Pk) : foldI ks b [] = (0, b, List.replicate ks.length zeroP) := rfl
theorem MadeR.turn {w V : World} {A A0 : Option Addr} {cap m0 c0 : Nat} {l l0 : List Pm} (h : MadeR w V l.length (.slice A0 m0 c0) (.slice (some ⟨w.heap.size + 3, 0, none⟩) l.length l.length)) (hb0 : RowW w A0 m0 c0 l0) (hl0 : ∀ y ∈ l0, LtK y.key) (hn0 : l0.length ≤ 500) :
    TurnI w (V.alloc (.cells #[.slice A l.length cap] 22)) l.length A cap 0 (foldI (pkeys l) (pkeys l0) []) := by
  have hal : Below V.heap.size V (V.alloc (.cells #[.slice A l.length cap] 22)) := (Below.refl _ _).alloc (Nat.le_refl _) _
  have hs := Boxed.new V 22 (.slice A l.length cap)
  rw [h.h.sz] at hs
  refine ⟨⟨A0, m0, c0, l0, h.h.a.alloc _, RowG.of_old hb0 (h.h.f.trans (hal.mono h.h.f.size)), rfl, hl0, hn0, fun h => absurd h (by decide)⟩, h.h.b.alloc _, h.h.c.alloc _, ⟨List.replicate l.length zpm, h.d.kept hal, ?_, fun z hz => ?_⟩, rfl, hs, h.h.f.trans (hal.mono h.h.f.size)⟩
  · rw [fold_nil, pkeys_len]
    simp [pkeys, zpm_key]
  · obtain ⟨_, rfl⟩ := List.mem_replicate.1 hz
    exact .inr (sep_zero _)
/-- What the loop over the row ahead holds. -/
structure InnI (w W wr : World) (Bx : Nat) (rs qs : List Pm) (R9 : Int × List Pk × Pk) (A9 : Option Addr) (n9 c9 : Nat) (x : Pm) (j : Nat) : Prop where
  own : OwnP wr W.heap.size (.slice A9 n9 c9) qs
  good : ∀ z ∈ qs, z.Sep wr
  px : PrimAt wr Bx x
  xg : x.Good w.heap.size wr
  lt : LtK x.key
  res : consP (pkeys qs) (pastP x.key ((pkeys rs).drop j)) = R9
  len : qs.length ≤ j
  chg : Chg w.heap.size W wr
  gr : W.grownBy wr (some Bx)
theorem InnI.row {w W wr : World} {Bx : Nat} {rs qs : List Pm} {R9 : Int × List Pk × Pk} {A9 A1 : Option Addr} {n9 c9 n1 c1 j : Nat} {x : Pm} (h : InnI w W wr Bx rs qs R9 A9 n9 c9 x j) (hn : w.heap.size ≤ W.heap.size) (hg : RowG w.heap.size W A1 n1 c1 rs) (hx : 0 < n1 → ∀ ad, A1 = some ad → ad.block ≠ Bx) : RowG w.heap.size wr A1 n1 c1 rs :=
  hg.go hn h.chg fun g h0 e _ ⟨cur, hc⟩ => h.gr.block g (Array.getElem?_eq_some_iff.1 hc).1 fun e2 => by
    cases e2
    exact hx h0 _ e rfl
theorem InnI.box {w W wr : World} {Bx : Nat} {rs qs : List Pm} {R9 : Int × List Pk × Pk} {A9 : Option Addr} {n9 c9 j : Nat} {x : Pm} (h : InnI w W wr Bx rs qs R9 A9 n9 c9 x j) {k : Nat} {t : TypeId} {v : Value} (hb : Boxed W k t v) (hk : k ≠ Bx) : Boxed wr k t v := hb.kept h.gr (by simpa using hk)
theorem InnI.step {w W wr wx w4 : World} {Bx : Nat} {rs qs : List Pm} {R9 : Int × List Pk × Pk} {A9 A4 : Option Addr} {n9 c9 c4 j : Nat} {x b a : Pm} (h : InnI w W wr Bx rs qs R9 A9 n9 c9 x j) (hn : w.heap.size ≤ W.heap.size) (hBx : w.heap.size + 4 < Bx) (hBW : Bx < W.heap.size) (hj : j < rs.length) (hry : LtK rs[j].key)
    (hb : Below wr.heap.size wr wx) (sb : b.Sep wx) (sa : a.Sep wx) (hp : pairP x.key rs[j].key = (0, b.key, a.key)) (ho : OwnP w4 W.heap.size (.slice A4 (n9 + 1) c4) (qs ++ [b])) (hg : wx.grownBy w4 (Value.slice A9 n9 c9).ownBlock) :
    InnI w W (setPrim w4 Bx a) Bx rs (qs ++ [b]) R9 A4 (n9 + 1) c4 a (j + 1) := by
  have own9 := h.own.kept hb
  have hch1 : Chg w.heap.size W wx := h.chg.trans (Chg.of_below hb)
  have hch2 : Chg w.heap.size wx w4 := Chg.of_grown hg fun g e => by
    have h1 := ownBlock_gep own9 g e
    obtain ⟨cur, fz, h2⟩ := own9.type_of e
    refine ⟨Nat.le_trans hn h1, fun cur2 fz2 h3 => ?_⟩
    rw [h2] at h3
    simp only [Option.some.injEq, Obj.cells.injEq] at h3
    exact absurd h3.2.1 (by decide)
  have px4 : PrimAt w4 Bx x := (h.px.on hb).grown hg fun e => by
    have h1 := ownBlock_gep own9 Bx e
    omega
  have hgs := setPrim_grown w4 Bx a
  have hch3 : Chg w.heap.size w4 (setPrim w4 Bx a) := Chg.of_grown hgs fun g e => by
    cases e
    refine ⟨by omega, fun cur2 fz2 h3 => ?_⟩
    rw [show w4.heap[Bx]? = _ from px4] at h3
    simp only [Option.some.injEq, Obj.cells.injEq] at h3
    exact absurd h3.2.1 (by decide)
  have hs1 : w.heap.size ≤ wr.heap.size := Nat.le_trans hn h.chg.size
  have hs2 : w.heap.size ≤ wx.heap.size := Nat.le_trans hs1 hb.size
  have hch4 : Chg w.heap.size wx (setPrim w4 Bx a) := hch2.trans hch3
  refine ⟨?_, fun z hz => ?_, setPrim_at px4 a, Pm.Good.go (.inr sa) hs2 hch4, (pair_lt h.lt hry hp).2, ?_, ?_, hch1.trans hch4, ?_⟩
  · refine World.ownsRow.kept ho hgs ?_
    cases hv : (Value.slice A4 (n9 + 1) c4).ownBlock with
    | none => exact .inl rfl
    | some k =>
      refine .inr fun e => ?_
      have h1 := ownBlock_gep ho k hv
      simp only [Option.some.injEq] at e
      omega
  · rcases List.mem_append.1 hz with hz | hz
    · exact sep_chg ((h.good z hz).on hb) hch4
    · obtain rfl : z = b := by simpa using hz
      exact sep_chg sb hch4
  · rw [← h.res]
    have e : (pkeys rs).drop j = rs[j].key :: (pkeys rs).drop (j + 1) := by
      rw [List.drop_eq_getElem_cons (by rw [pkeys_len]; exact hj)]
      simp [pkeys]
    rw [e, cons_ok hp]
    simp [pkeys]
  · rw [List.length_append]
    have := h.len
    simp only [List.length_cons, List.length_nil]
    omega
  · refine ⟨hgs.os.trans (hg.os.trans (hb.os.trans h.gr.os)), hgs.tape.trans (hg.tape.trans (hb.tape.trans h.gr.tape)), hgs.output.trans (hg.output.trans (hb.output.trans h.gr.output)), Nat.le_trans h.gr.size (Nat.le_trans hb.size (Nat.le_trans hg.size hgs.size)), fun k hk hne => ?_⟩
    have k1 : k < wr.heap.size := Nat.lt_of_lt_of_le hk h.gr.size
    have k2 : k < wx.heap.size := Nat.lt_of_lt_of_le k1 hb.size
    refine (hgs.block k (Nat.lt_of_lt_of_le k2 hg.size) hne).trans ((hg.block k k2 fun e => ?_).trans ((hb.block k k1).trans (h.gr.block k hk hne)))
    have h1 := ownBlock_gep own9 k e.symm
    omega
/-- The round is over. -/
theorem InnI.fin {w W wr : World} {Bx m cap i : Nat} {ks b : List Pk} {pre : List Nat} {A A9 : Option Addr} {rs qs : List Pm} {R9 : Int × List Pk × Pk} {n9 c9 j : Nat} {x x0 : Pm} (h : InnI w W wr Bx rs qs R9 A9 n9 c9 x j) (hI : TurnI w W m A cap pre.length (foldI ks b pre)) (hks : ks.length = m) (him : i < m) (hBx : w.heap.size + 4 < Bx) (hpx : PrimAt W Bx x0) (hrs : pkeys rs = (foldI ks b pre).2.1) (hlt : ∀ z ∈ rs, LtK z.key) (h5 : rs.length ≤ 500) (hj : j = rs.length) (hR : pastP (ks[i]'(by omega)) (pkeys rs) = R9) (hki : LtK (ks[i]'(by omega))) :
    ∃ vs A1 n1 c1, OwnP (wr.drew.setCell ⟨w.heap.size, 0, none⟩ (.slice A9 n9 c9)) w.heap.size (.slice (some ⟨w.heap.size + 3, 0, none⟩) m m) vs ∧ i < vs.length ∧ Boxed wr.drew w.heap.size 22 (.slice A1 n1 c1) ∧ Boxed wr.drew (w.heap.size + 1) 22 (.slice (some ⟨w.heap.size + 3, 0, none⟩) m m) ∧
      TurnI w (putPrim (wr.drew.setCell ⟨w.heap.size, 0, none⟩ (.slice A9 n9 c9)) (w.heap.size + 3) i x) m A cap (pre ++ [i]).length (foldI ks b (pre ++ [i])) ∧
      KeepsFrom (w.heap.size + 5) W (putPrim (wr.drew.setCell ⟨w.heap.size, 0, none⟩ (.slice A9 n9 c9)) (w.heap.size + 3) i x) ∧ KpB w.heap.size (w.heap.size + 4) W (putPrim (wr.drew.setCell ⟨w.heap.size, 0, none⟩ (.slice A9 n9 c9)) (w.heap.size + 3) i x) := by
  have hn := hI.f.size
  have hBW : Bx < W.heap.size := hpx.lt
  obtain ⟨vs, d1, d2, d3⟩ := hI.d
  obtain ⟨A1, n1, c1, rs1, a1, _, _, _, _, _⟩ := hI.a
  have hR9 : R9 = (0, pkeys qs, x.key) := by
    rw [← h.res, hj, ← pkeys_len, List.drop_length]
    exact cons_end _ _
  subst hR9
  have hdr : Below wr.heap.size wr wr.drew := (Below.refl _ _).drew
  have hn1 : w.heap.size ≤ wr.heap.size := Nat.le_trans hn h.chg.size
  have e1 : vs.length = m := by have := d1.flat.1; omega
  have bA : Boxed wr.drew w.heap.size 22 (.slice A1 n1 c1) := h.box a1 (by omega)
  have bB : Boxed wr.drew (w.heap.size + 1) 22 (.slice (some ⟨w.heap.size + 3, 0, none⟩) m m) := h.box hI.b (by omega)
  have bC : Boxed wr.drew (w.heap.size + 2) 25 (.int .i64 0) := h.box hI.c (by omega)
  have bS : Boxed wr.drew (w.heap.size + 4) 22 (.slice A m cap) := h.box hI.s (by omega)
  have g1 := grownBy_setCell' wr.drew w.heap.size (.slice A9 n9 c9)
  have dE : OwnP (wr.drew.setCell ⟨w.heap.size, 0, none⟩ (.slice A9 n9 c9)) w.heap.size (.slice (some ⟨w.heap.size + 3, 0, none⟩) m m) vs := by
    have dD : OwnP wr.drew w.heap.size (.slice (some ⟨w.heap.size + 3, 0, none⟩) m m) vs := d1.moved fun g e => h.gr.block g (World.ownsRow.lt d1 g e).2 fun e2 => by
      simp only [Value.ownBlock, Option.some.injEq] at e e2
      omega
    exact ownsRow_setCell_other dD (by simp [Value.ownBlock]) _
  obtain ⟨p1, p2⟩ := dE.put (by omega : i < vs.length) x
  have c1' : Chg w.heap.size wr.drew (wr.drew.setCell ⟨w.heap.size, 0, none⟩ (.slice A9 n9 c9)) := Chg.of_grown g1 fun g e => by
    cases e
    refine ⟨Nat.le_refl _, fun cur2 fz2 h3 => ?_⟩
    rw [show wr.drew.heap[w.heap.size]? = _ from bA] at h3
    simp only [Option.some.injEq, Obj.cells.injEq] at h3
    exact absurd h3.2.1 (by decide)
  have c2' : Chg w.heap.size (wr.drew.setCell ⟨w.heap.size, 0, none⟩ (.slice A9 n9 c9)) (putPrim (wr.drew.setCell ⟨w.heap.size, 0, none⟩ (.slice A9 n9 c9)) (w.heap.size + 3) i x) := Chg.of_grown p2 fun g e => by
    cases e
    obtain ⟨cur, fz, h2⟩ := dE.type_of (g := w.heap.size + 3) rfl
    refine ⟨by omega, fun cur2 fz2 h3 => ?_⟩
    rw [h2] at h3
    simp only [Option.some.injEq, Obj.cells.injEq] at h3
    exact absurd h3.2.1 (by decide)
  have cr : Chg w.heap.size wr (putPrim (wr.drew.setCell ⟨w.heap.size, 0, none⟩ (.slice A9 n9 c9)) (w.heap.size + 3) i x) := (Chg.of_below hdr).trans (c1'.trans c2')
  have cW := h.chg.trans cr
  have hch0 : ∀ k, k < wr.heap.size → k ≠ w.heap.size → k ≠ w.heap.size + 3 → (putPrim (wr.drew.setCell ⟨w.heap.size, 0, none⟩ (.slice A9 n9 c9)) (w.heap.size + 3) i x).heap[k]? = wr.heap[k]? := fun k k1 k2 k3 =>
    (p2.block k (by simpa using k1) (by simpa using k3)).trans (g1.block k (by simpa using k1) (by simpa using k2))
  have hch : ∀ k, k < W.heap.size → k ≠ Bx → k ≠ w.heap.size → k ≠ w.heap.size + 3 → (putPrim (wr.drew.setCell ⟨w.heap.size, 0, none⟩ (.slice A9 n9 c9)) (w.heap.size + 3) i x).heap[k]? = W.heap[k]? := fun k k1 k2 k3 k4 =>
    (hch0 k (Nat.lt_of_lt_of_le k1 h.gr.size) k3 k4).trans (h.gr.block k k1 (by simpa using k2))
  have hpl := past_lt (pkeys rs) hki (fun y hy => by
    unfold pkeys at hy
    obtain ⟨r, hr, rfl⟩ := List.mem_map.1 hy
    exact hlt r hr) hR
  have hfold : foldI ks b (pre ++ [i]) = (0, pkeys qs, (foldI ks b pre).2.2.set i x.key) := by
    rw [fold_snoc]
    have e2 : foldI ks b pre = (0, pkeys rs, (foldI ks b pre).2.2) := by
      rw [hrs, ← hI.e]
    conv => lhs; rw [e2]
    exact step_ok (by omega) hR
  have own2 : OwnP (putPrim (wr.drew.setCell ⟨w.heap.size, 0, none⟩ (.slice A9 n9 c9)) (w.heap.size + 3) i x) (w.heap.size + 4) (.slice A9 n9 c9) qs := by
    refine (h.own.moved fun g e => ?_).lower1 (by omega)
    have h1 := World.ownsRow.lt h.own g e
    exact hch0 g h1.2 (by omega) (by omega)
  refine ⟨vs, A1, n1, c1, dE, by omega, bA, bB, ⟨⟨A9, n9, c9, qs, ?_, RowG.of_own own2 (fun z hz => .inr (sep_chg (h.good z hz) cr)), by rw [hfold], fun z hz => hpl.2.1 z.key (List.mem_map_of_mem hz), by have := h.len; omega, fun _ z hz => sep_chg (h.good z hz) cr⟩, ?_, ?_, ⟨vs.set i x, p1, ?_, fun z hz => ?_⟩, by rw [hfold], ?_, hI.f.trans (cW.below hn)⟩, ⟨cW.size, fun k o hB ho hc => ?_⟩, ⟨cW.below hn, fun hk => hch _ hk (by omega) (by omega) (by omega)⟩⟩
  · exact (bA.set (.slice A9 n9 c9)).kept p2 (by simp)
  · exact (bB.kept g1 (by simp)).kept p2 (by simp)
  · exact (bC.kept g1 (by simp)).kept p2 (by simp)
  · rw [hfold]
    show pkeys (vs.set i x) = (foldI ks b pre).2.2.set i x.key
    rw [← d2]
    unfold pkeys
    rw [List.map_set]
  · rcases List.mem_or_eq_of_mem_set hz with hz | rfl
    · exact (d3 z hz).go hn cW
    · exact h.xg.go hn1 cr
  · exact (bS.kept g1 (by simp)).kept p2 (by simp)
  · rw [hch k (Array.getElem?_eq_some_iff.1 ho).1 (fun e => by
      subst e
      rw [show W.heap[k]? = _ from hpx] at ho
      cases ho
      cases hc) (by omega) (by omega)]
    exact ho
/-- A pair that can't change places ends the round. -/
theorem InnI.stop {w W wr wx : World} {Bx m cap i : Nat} {ks b : List Pk} {pre : List Nat} {A A9 : Option Addr} {rs qs : List Pm} {R9 : Int × List Pk × Pk} {n9 c9 j : Nat} {x x0 : Pm} {er : Int} {kb ka : Pk} (h : InnI w W wr Bx rs qs R9 A9 n9 c9 x j) (hI : TurnI w W m A cap pre.length (foldI ks b pre)) (hks : ks.length = m) (him : i < m) (hBx : w.heap.size + 4 < Bx) (hpx : PrimAt W Bx x0) (hrs : pkeys rs = (foldI ks b pre).2.1) (hj : j < rs.length) (hR : pastP (ks[i]'(by omega)) (pkeys rs) = R9) (hp : pairP x.key rs[j].key = (er, kb, ka)) (he : er ≠ 0) (hb : Below wr.heap.size wr wx) :
    KeepsFrom (w.heap.size + 5) W (wx.setCell ⟨w.heap.size + 2, 0, none⟩ (.int .i64 er)) ∧ TurnX w (wx.setCell ⟨w.heap.size + 2, 0, none⟩ (.int .i64 er)) (foldI ks b (pre ++ [i])) := by
  have hn := hI.f.size
  have hBW : Bx < W.heap.size := hpx.lt
  obtain ⟨A1, n1, c1, rs1, a1, _, _, _, _, _⟩ := hI.a
  have hR9 : R9 = (er, [], zeroP) := by
    rw [← h.res]
    have e : (pkeys rs).drop j = rs[j].key :: (pkeys rs).drop (j + 1) := by
      rw [List.drop_eq_getElem_cons (by rw [pkeys_len]; exact hj)]
      simp [pkeys]
    rw [e]
    exact cons_err hp he _ _
  have hfold : foldI ks b (pre ++ [i]) = (er, [], []) := by
    rw [fold_snoc]
    have e2 : foldI ks b pre = (0, pkeys rs, (foldI ks b pre).2.2) := by
      rw [hrs, ← hI.e]
    rw [e2]
    exact step_er (by omega) he (hR.trans hR9)
  have bA : Boxed wx w.heap.size 22 (.slice A1 n1 c1) := (hb.block _ (h.box a1 (by omega)).lt).trans (h.box a1 (by omega))
  have bB : Boxed wx (w.heap.size + 1) 22 (.slice (some ⟨w.heap.size + 3, 0, none⟩) m m) := (hb.block _ (h.box hI.b (by omega)).lt).trans (h.box hI.b (by omega))
  have bC : Boxed wx (w.heap.size + 2) 25 (.int .i64 0) := (hb.block _ (h.box hI.c (by omega)).lt).trans (h.box hI.c (by omega))
  have g1 := grownBy_setCell' wx (w.heap.size + 2) (.int .i64 er)
  have cW : Chg w.heap.size W (wx.setCell ⟨w.heap.size + 2, 0, none⟩ (.int .i64 er)) := (h.chg.trans (Chg.of_below hb)).trans (Chg.of_grown g1 fun g e => by
    cases e
    refine ⟨by omega, fun cur2 fz2 h3 => ?_⟩
    rw [show wx.heap[w.heap.size + 2]? = _ from bC] at h3
    simp only [Option.some.injEq, Obj.cells.injEq] at h3
    exact absurd h3.2.1 (by decide))
  refine ⟨⟨cW.size, fun k o hB ho hc => ?_⟩, ⟨⟨_, _, bA.kept g1 (by simp), bB.kept g1 (by simp)⟩, ?_, ?_, hI.f.trans (cW.below hn)⟩⟩
  · have k1 := (Array.getElem?_eq_some_iff.1 ho).1
    have k2 : k ≠ Bx := fun e => by
      subst e
      rw [show W.heap[k]? = _ from hpx] at ho
      cases ho
      cases hc
    rw [g1.block k (Nat.lt_of_lt_of_le (Nat.lt_of_lt_of_le k1 h.gr.size) hb.size) (by simp; omega), hb.block k (Nat.lt_of_lt_of_le k1 h.gr.size), h.gr.block k k1 (by simpa using k2)]
    exact ho
  · rw [hfold]
    exact bC.set _
  · rw [hfold]
    exact he
/-- Rows come back; what passed lies in lines of its own. -/
def RowsT (w : World) (m : Nat) (res : Int × List Pk × List Pk) (e : Ending) (w' : World) : Prop :=
  ∃ (A : Option Addr) (n c : Nat) (rs : List Pm) (A2 : Option Addr) (n2 c2 : Nat) (ss : List Pm) (er : Int), e = .returned (.tuple #[.slice A n c, .slice A2 n2 c2, .int .i64 er]) ∧ Hid (RowW w' A n c rs ∧ RowW w' A2 n2 c2 ss ∧ res = (er, pkeys rs, pkeys ss) ∧ (0 < m → ∀ z ∈ rs, z.Sep w')) ∧ Below w.heap.size w w'
theorem Boxed.three {W : World} {b : Nat} {v0 v1 v2 : Value} (h0 : Boxed W b 22 v0) (h1 : Boxed W (b + 1) 22 v1) (h2 : Boxed W (b + 2) 25 v2) (a0 a1 a2 : Value) :
    Boxed (W.setCell ⟨b, 0, none⟩ a0) b 22 a0 ∧ Boxed (W.setCell ⟨b, 0, none⟩ a0) (b + 1) 22 v1 ∧ Boxed (W.setCell ⟨b, 0, none⟩ a0) (b + 2) 25 v2 ∧
    Boxed ((W.setCell ⟨b, 0, none⟩ a0).setCell ⟨b + 1, 0, none⟩ a1) b 22 a0 ∧ Boxed ((W.setCell ⟨b, 0, none⟩ a0).setCell ⟨b + 1, 0, none⟩ a1) (b + 1) 22 a1 ∧ Boxed ((W.setCell ⟨b, 0, none⟩ a0).setCell ⟨b + 1, 0, none⟩ a1) (b + 2) 25 v2 ∧
    Boxed (((W.setCell ⟨b, 0, none⟩ a0).setCell ⟨b + 1, 0, none⟩ a1).setCell ⟨b + 2, 0, none⟩ a2) b 22 a0 ∧ Boxed (((W.setCell ⟨b, 0, none⟩ a0).setCell ⟨b + 1, 0, none⟩ a1).setCell ⟨b + 2, 0, none⟩ a2) (b + 1) 22 a1 ∧ Boxed (((W.setCell ⟨b, 0, none⟩ a0).setCell ⟨b + 1, 0, none⟩ a1).setCell ⟨b + 2, 0, none⟩ a2) (b + 2) 25 a2 := by
  have p0 := h0.set a0
  have p1 := h1.other (B' := b) (by omega) a0
  have p2 := h2.other (B' := b) (by omega) a0
  have q0 := p0.other (B' := b + 1) (by omega) a1
  have q1 := p1.set a1
  have q2 := p2.other (B' := b + 1) (by omega) a1
  exact ⟨p0, p1, p2, q0, q1, q2, q0.other (by omega) a2, q1.other (by omega) a2, q2.set a2⟩
/-- The three variables written once more, and the call's mark taken. -/
theorem out_chg {w W : World} {v0 v1 v2 : Value} (h0 : Boxed W w.heap.size 22 v0) (h1 : Boxed W (w.heap.size + 1) 22 v1) (h2 : Boxed W (w.heap.size + 2) 25 v2) (a0 a1 a2 : Value) (D : Nat) (o : Obj) (hD : w.heap.size + 5 ≤ D) (hK : W.heap[D]? = some (.deferred (some []))) :
    Chg w.heap.size W (((((W.drew.setCell ⟨w.heap.size, 0, none⟩ a0).setCell ⟨w.heap.size + 1, 0, none⟩ a1).setCell ⟨w.heap.size + 2, 0, none⟩ a2)).putObj D o) ∧ (∀ (k : Nat) (cur : Array Value) (t : TypeId) (fz : Nat × Nat), W.heap[k]? = some (Obj.cells cur t fz) → w.heap.size + 3 ≤ k → (((((W.drew.setCell ⟨w.heap.size, 0, none⟩ a0).setCell ⟨w.heap.size + 1, 0, none⟩ a1).setCell ⟨w.heap.size + 2, 0, none⟩ a2)).putObj D o).heap[k]? = W.heap[k]?) ∧ ((((W.drew.setCell ⟨w.heap.size, 0, none⟩ a0).setCell ⟨w.heap.size + 1, 0, none⟩ a1).setCell ⟨w.heap.size + 2, 0, none⟩ a2)).heap[D]? = some (.deferred (some [])) ∧
    Boxed (((((W.drew.setCell ⟨w.heap.size, 0, none⟩ a0).setCell ⟨w.heap.size + 1, 0, none⟩ a1).setCell ⟨w.heap.size + 2, 0, none⟩ a2)).putObj D o) w.heap.size 22 a0 ∧ Boxed (((((W.drew.setCell ⟨w.heap.size, 0, none⟩ a0).setCell ⟨w.heap.size + 1, 0, none⟩ a1).setCell ⟨w.heap.size + 2, 0, none⟩ a2)).putObj D o) (w.heap.size + 1) 22 a1 ∧ Boxed (((((W.drew.setCell ⟨w.heap.size, 0, none⟩ a0).setCell ⟨w.heap.size + 1, 0, none⟩ a1).setCell ⟨w.heap.size + 2, 0, none⟩ a2)).putObj D o) (w.heap.size + 2) 25 a2 := by
  have d0 : Boxed W.drew w.heap.size 22 v0 := h0
  have d1 : Boxed W.drew (w.heap.size + 1) 22 v1 := h1
  have d2 : Boxed W.drew (w.heap.size + 2) 25 v2 := h2
  obtain ⟨p0, p1, p2, q0, q1, q2, r0, r1, r2⟩ := Boxed.three d0 d1 d2 a0 a1 a2
  have hb : ∀ k, k ≠ w.heap.size → k ≠ w.heap.size + 1 → k ≠ w.heap.size + 2 → ((((W.drew.setCell ⟨w.heap.size, 0, none⟩ a0).setCell ⟨w.heap.size + 1, 0, none⟩ a1).setCell ⟨w.heap.size + 2, 0, none⟩ a2)).heap[k]? = W.heap[k]? := fun k e0 e1 e2 => by
    rw [Below.heap_setCell _ ⟨w.heap.size + 2, 0, none⟩ _ k e2, Below.heap_setCell _ ⟨w.heap.size + 1, 0, none⟩ _ k e1, Below.heap_setCell _ ⟨w.heap.size, 0, none⟩ _ k e0]
    rfl
  have hDV : ((((W.drew.setCell ⟨w.heap.size, 0, none⟩ a0).setCell ⟨w.heap.size + 1, 0, none⟩ a1).setCell ⟨w.heap.size + 2, 0, none⟩ a2)).heap[D]? = some (.deferred (some [])) := (hb D (by omega) (by omega) (by omega)).trans hK
  have hgD := grownBy_putObj' ((((W.drew.setCell ⟨w.heap.size, 0, none⟩ a0).setCell ⟨w.heap.size + 1, 0, none⟩ a1).setCell ⟨w.heap.size + 2, 0, none⟩ a2)) D o
  have ns : ∀ {V : World} {k : Nat} {t : TypeId} {v : Value}, Boxed V k t v → t ≠ 9 → ∀ cur fz, V.heap[k]? ≠ some (.cells cur 9 fz) := fun {V k t v} hv ht cur fz e => by
    rw [show V.heap[k]? = _ from hv] at e
    simp only [Option.some.injEq, Obj.cells.injEq] at e
    exact ht e.2.1
  have g0 := grownBy_setCell' W.drew w.heap.size a0
  have g1 := grownBy_setCell' (W.drew.setCell ⟨w.heap.size, 0, none⟩ a0) (w.heap.size + 1) a1
  have g2 := grownBy_setCell' ((W.drew.setCell ⟨w.heap.size, 0, none⟩ a0).setCell ⟨w.heap.size + 1, 0, none⟩ a1) (w.heap.size + 2) a2
  have hdr : Below W.heap.size W W.drew := (Below.refl _ _).drew
  have c3 : Chg w.heap.size W ((((W.drew.setCell ⟨w.heap.size, 0, none⟩ a0).setCell ⟨w.heap.size + 1, 0, none⟩ a1).setCell ⟨w.heap.size + 2, 0, none⟩ a2)) := (((Chg.of_below hdr).trans (Chg.of_grown g0 fun g e => by cases e; exact ⟨Nat.le_refl _, ns d0 (by decide)⟩)).trans (Chg.of_grown g1 fun g e => by cases e; exact ⟨by omega, ns p1 (by decide)⟩)).trans (Chg.of_grown g2 fun g e => by cases e; exact ⟨by omega, ns q2 (by decide)⟩)
  refine ⟨c3.trans (Chg.of_grown hgD fun g e => by
    cases e
    exact ⟨by omega, fun cur fz e2 => by rw [hDV] at e2; cases e2⟩), fun k cur t fz e hk => ?_, hDV, r0.kept hgD (by simp; omega), r1.kept hgD (by simp; omega), r2.kept hgD (by simp; omega)⟩
  have hkD : k ≠ D := fun e2 => by
    subst e2
    rw [hK] at e
    cases e
  have hkl : k < W.heap.size := (Array.getElem?_eq_some_iff.1 e).1
  rw [hgD.block k (Nat.lt_of_lt_of_le hkl c3.size) (by simpa using hkD), hb k (by omega) (by omega) (by omega)]
theorem TurnI.fin {w W V : World} {A A1 : Option Addr} {cap n1 c1 m k : Nat} {s : Int × List Pk × List Pk} {rs : List Pm} (h : TurnI w W m A cap k s) (a2 : RowG w.heap.size W A1 n1 c1 rs) (a3 : pkeys rs = s.2.1) (a7 : 0 < k → ∀ z ∈ rs, z.Sep W) (hc : Chg w.heap.size W V) (hb : ∀ (k : Nat) (cur : Array Value) (t : TypeId) (fz : Nat × Nat), W.heap[k]? = some (Obj.cells cur t fz) → w.heap.size + 3 ≤ k → V.heap[k]? = W.heap[k]?) (res : Int × List Pk × List Pk) (hr : res = (0, s.2.1, s.2.2)) (q : Nat) (hq : 0 < q → 0 < k) :
    RowsT w q res (.returned (.tuple #[.slice A1 n1 c1, .slice (some ⟨w.heap.size + 3, 0, none⟩) m m, .int .i64 0])) V := by
  have hn := h.f.size
  obtain ⟨vs, d1, d2, d3⟩ := h.d
  have hn2 : w.heap.size ≤ V.heap.size := Nat.le_trans hn hc.size
  have g2 := (a2.go hn hc fun g _ _ hg ⟨cur, e⟩ => hb g _ _ _ e (by omega)).row hn2
  have d1' : OwnP V w.heap.size (.slice (some ⟨w.heap.size + 3, 0, none⟩) m m) vs := d1.moved fun g e => by
    obtain ⟨cur, fz, hh⟩ := d1.type_of e
    have hg3 : w.heap.size + 3 = g := by simpa [Value.ownBlock] using e
    exact hb g _ _ _ hh (by omega)
  exact ⟨A1, n1, c1, rs, some ⟨w.heap.size + 3, 0, none⟩, m, m, vs, 0, rfl, ⟨g2, RowB.of_own d1' (Nat.le_refl _) (fun z hz => ((d3 z hz).go hn hc).ok hn2), by rw [hr, a3, d2], fun h0 z hz => sep_chg (a7 (hq h0) z hz) hc⟩, h.f.trans (hc.below hn)⟩
/-- Three variables handed back. -/
theorem ret_three {fn : Func} {p q u : Tmp} (h : fn.results = #[.cell p 22, .cell q 22, .cell u 25]) (tmps : Array Value) (w : World) (g1 g2 g3 : Nat) (v1 v2 v3 : Value) (hp : tmps.getD p undef = .pointer (some ⟨g1, 0, none⟩)) (hq : tmps.getD q undef = .pointer (some ⟨g2, 0, none⟩)) (hu : tmps.getD u undef = .pointer (some ⟨g3, 0, none⟩)) (k1 : w.cell? ⟨g1, 0, none⟩ = some v1) (k2 : w.cell? ⟨g2, 0, none⟩ = some v2) (k3 : w.cell? ⟨g3, 0, none⟩ = some v3) :
    (results fn tmps).run Tryz.prog w = .ok (.tuple #[v1, v2, v3]) w := by
  have l1 : (loadVar 22 ⟨g1, 0, none⟩).run Tryz.prog w = .ok v1 w := by
    simp [loadVar, go_sem, k1]
  have l2 : (loadVar 22 ⟨g2, 0, none⟩).run Tryz.prog w = .ok v2 w := by
    simp [loadVar, go_sem, k2]
  have l3 : (loadVar 25 ⟨g3, 0, none⟩).run Tryz.prog w = .ok v3 w := by
    simp [loadVar, go_sem, k3]
  have e : (results fn tmps).run Tryz.prog w = ((asAddr (tmps.getD p undef)).run Tryz.prog w).andThen fun a w₁ => ((loadVar 22 a).run Tryz.prog w₁).andThen fun u1 w₂ => ((asAddr (tmps.getD q undef)).run Tryz.prog w₂).andThen fun b w₃ => ((loadVar 22 b).run Tryz.prog w₃).andThen fun u2 w₄ => ((asAddr (tmps.getD u undef)).run Tryz.prog w₄).andThen fun c w₅ => ((loadVar 25 c).run Tryz.prog w₅).andThen fun u3 w₆ => .ok (.tuple #[u1, u2, u3]) w₆ := by
    simp only [results, h]
    simp [Sem.run_bind, Result.andThen]
  rw [e, hp, hq, hu]
  simp [asAddr, l1, l2, l3, Result.andThen]
set_option maxHeartbeats 40000000 in
set_option maxRecDepth 100000 in
theorem turned_any (A : Option Addr) (l : List Pm) (cap : Nat) (A0 : Option Addr) (m0 c0 : Nat) (l0 : List Pm) (w : World) (ha : RowW w A l.length cap l) (hb0 : RowW w A0 m0 c0 l0) (hl : ∀ y ∈ l, LtK y.key) (hl0 : ∀ y ∈ l0, LtK y.key) (hn : l.length ≤ 500) (hn0 : l0.length ≤ 500) (hT : Tabs w) :
    Calls Tryz.prog 28 #[.slice A l.length cap, .slice A0 m0 c0] w (RowsT w l.length (rowsP (pkeys l) (pkeys l0))) := by
  refine (callsIn_wide (n := 6)).1 ?_
  have h1 : 1 ≤ 6 := by decide
  refine callsIn_of_wp_marks Tryz.func28 rfl trivial ?_ rfl
  simp only [Tryz.ntmps28, List.size_toArray, List.length_cons, List.length_nil, Nat.reduceAdd, Nat.reduceSub, Array.replicate_succ, Array.replicate_zero, List.push_toArray, List.append_toArray, List.nil_append, List.cons_append]
  gi_wp2_with fail
  simp only [Nat.add_assoc, Nat.reduceAdd]
  have HM0 : Hid (MadeI w (((w.alloc (.cells #[.slice none 0 0] 22)).alloc (.cells #[.slice none 0 0] 22)).alloc (.cells #[.int .i64 0] 25)) 3 (.slice none 0 0) (.slice none 0 0)) := by
    have b1 := Boxed.new w 22 (.slice none 0 0)
    have b2 := Boxed.new (w.alloc (.cells #[.slice none 0 0] 22)) 22 (.slice none 0 0)
    have b3 := Boxed.new ((w.alloc (.cells #[.slice none 0 0] 22)).alloc (.cells #[.slice none 0 0] 22)) 25 (.int .i64 0)
    simp only [World.size_alloc] at b2 b3
    exact ⟨(b1.alloc _).alloc _, b2.alloc _, b3, (((Below.refl _ w).alloc (Nat.le_refl _) _).alloc (by simp) _).alloc (by simp <;> omega) _, by simp⟩
  obtain ⟨W0, hW0⟩ : ∃ W0, (((w.alloc (.cells #[.slice none 0 0] 22)).alloc (.cells #[.slice none 0 0] 22)).alloc (.cells #[.int .i64 0] 25)) = W0 := ⟨_, rfl⟩
  rw [hW0] at HM0 ⊢
  clear hW0
  have HS := Lib.hid ha
  have HSB := Lib.hid hb0
  have HL := Lib.hid hl
  have HLB := Lib.hid hl0
  have HT := Lib.hid hT
  have H0 : Hid (MadeI w W0.drew 3 (.slice none 0 0) (.slice none 0 0)) := ⟨HM0.out.a, HM0.out.b, HM0.out.c, HM0.out.f.drew, HM0.out.sz⟩
  have HS0 : Hid (W0.drew.heap.size = w.heap.size + 3) := HM0.out.sz
  clear ha hb0 hl hl0 hT HM0
  refine wpIn_wide.2 (wp_scope_straight ((wpIn_wide (n := 6)).1 ?_))
  refine wpIn_seq ?_
  refine wpIn_region_out (by kernel_rfl) (fun _ => True) (fun a' w' => a' = { tmps := ((.slice A l.length cap) :: (.slice A0 m0 c0) :: undef :: undef :: (.pointer (some ⟨w.heap.size, 0, none⟩)) :: (.pointer (some ⟨w.heap.size + 1, 0, none⟩)) :: (.pointer (some ⟨w.heap.size + 2, 0, none⟩)) :: undef :: undef :: undef :: undef :: undef :: undef :: undef :: undef :: (.slice A0 m0 c0) :: (.slice A l.length cap) :: (.int .i64 (l.length : Int)) :: (.slice (some ⟨w.heap.size + 3, 0, none⟩) l.length l.length) :: undef :: undef :: undef :: undef :: undef :: undef :: undef :: undef :: undef :: undef :: undef :: undef :: undef :: undef :: undef :: undef :: undef :: undef :: undef :: undef :: undef :: undef :: undef :: undef :: undef :: undef :: undef :: undef :: undef :: undef :: undef :: undef :: undef :: undef :: undef :: undef :: []).toArray, defers := [] } ∧ MadeR w w' l.length (.slice A0 m0 c0) (.slice (some ⟨w.heap.size + 3, 0, none⟩) l.length l.length)) trivial (fun hHeld => ?_) ?_
  · refine wpAnyH_take (i := 0) (oi := { dst := some 15, op := _, type := _, pos := _, after := _, guard := _ }) (v := .slice A0 m0 c0) rfl (by kernel_rfl) (by kernel_rfl) (by kernel_rfl) (fun _ _ _ h => h) (Or.inl ⟨by rfl, fun w' hSw => ?_⟩) (by assumption) ?_
    · ((try dsimp only at hSw); go_simp)
    try simp only [Act.put, List.setIfInBounds_toArray, List.set_cons_zero, List.set_cons_succ]
    refine wpAnyH_take (i := 1) (oi := { dst := some 16, op := _, type := _, pos := _, after := _, guard := _ }) (v := .slice A l.length cap) rfl (by kernel_rfl) (by kernel_rfl) (by kernel_rfl) (fun _ _ _ h => h) (Or.inl ⟨by rfl, fun w' hSw => ?_⟩) (by assumption) ?_
    · ((try dsimp only at hSw); go_simp)
    try simp only [Act.put, List.setIfInBounds_toArray, List.set_cons_zero, List.set_cons_succ]
    refine wpAnyH_take (i := 2) (oi := { dst := some 17, op := _, type := _, pos := _, after := _, guard := _ }) (v := .int .i64 (l.length : Int)) rfl (by kernel_rfl) (by kernel_rfl) (by kernel_rfl) (fun _ _ _ h => h) (Or.inl ⟨by rfl, fun w' hSw => ?_⟩) (by assumption) ?_
    · ((try dsimp only at hSw); go_simp)
    try simp only [Act.put, List.setIfInBounds_toArray, List.set_cons_zero, List.set_cons_succ]
    generalize hwd : W0.drew = wd at *
    clear hwd
    refine wpAnyH_ready (rs := [3, 4]) (by kernel_rfl) (by simp) ?_
    refine AllReadyH.cons rfl (fun K hK => ?_) (AllReadyH.cons rfl (fun K hK => ?_) AllReadyH.nil)
    · obtain ⟨wm, hmk, hom⟩ := make_prims wd l.length (by omega)
      rw [HS0.out] at hmk hom
      have HM0 := Lib.hid (H0.out.made hom)
      clear hom
      go_simp
      refine hK.out _ _ trivial (fun hHeld3 => ?_)
      clear hK K hHeld hmk
      try simp only [Act.put, List.setIfInBounds_toArray, List.set_cons_zero, List.set_cons_succ]
      refine wpAnyH_ready (rs := [4]) (by kernel_rfl) (by simp) ?_
      refine AllReadyH.cons rfl (fun K hK => ?_) AllReadyH.nil
      have b0 := HM0.out.h.a.cell
      have bf := HM0.out.h.a.frozen
      go_simp
      refine hK.out _ _ trivial (fun hHeld4 => ?_)
      clear hK K hHeld3 b0 bf
      try simp only [Act.put, List.setIfInBounds_toArray, List.set_cons_zero, List.set_cons_succ]
      have HM1 := Lib.hid (HM0.out.seta (.slice A0 m0 c0))
      clear HM0
      generalize hw1 : ((wd.alloc (.cells wm 33)).setCell ⟨w.heap.size, 0, none⟩ (.slice A0 m0 c0)) = wn at *
      clear hw1
      refine wpAnyH_ready (rs := [5]) (by kernel_rfl) (by simp) ?_
      refine AllReadyH.cons rfl (fun K hK => ?_) AllReadyH.nil
      have b0 := HM1.out.h.b.cell
      have bf := HM1.out.h.b.frozen
      go_simp
      refine hK.out _ _ trivial (fun hHeld5 => ?_)
      clear hK K hHeld4 b0 bf
      try simp only [Act.put, List.setIfInBounds_toArray, List.set_cons_zero, List.set_cons_succ]
      have HM2 := Lib.hid (HM1.out.setb (.slice (some ⟨w.heap.size + 3, 0, none⟩) l.length l.length))
      refine wpAnyH_done (by kernel_rfl) ?_ _
      simp only [onward]
      exact ⟨by first | rfl | trivial, HM2.out⟩
    · have b0 := H0.out.a.cell
      have bf := H0.out.a.frozen
      go_simp
      refine hK.out _ _ trivial (fun hHeld4 => ?_)
      clear hK K hHeld b0 bf
      try simp only [Act.put, List.setIfInBounds_toArray, List.set_cons_zero, List.set_cons_succ]
      have HM0 := Lib.hid (H0.out.seta (.slice A0 m0 c0))
      generalize hw1 : (wd.setCell ⟨w.heap.size, 0, none⟩ (.slice A0 m0 c0)) = wn at *
      clear hw1
      refine wpAnyH_ready (rs := [3]) (by kernel_rfl) (by simp) ?_
      refine AllReadyH.cons rfl (fun K hK => ?_) AllReadyH.nil
      obtain ⟨wm, hmk, hom⟩ := make_prims wn l.length (by omega)
      rw [HM0.out.sz] at hmk hom
      have HM1 := Lib.hid (HM0.out.made hom)
      clear hom
      go_simp
      refine hK.out _ _ trivial (fun hHeld3 => ?_)
      clear hK K hHeld4 hmk
      try simp only [Act.put, List.setIfInBounds_toArray, List.set_cons_zero, List.set_cons_succ]
      refine wpAnyH_ready (rs := [5]) (by kernel_rfl) (by simp) ?_
      refine AllReadyH.cons rfl (fun K hK => ?_) AllReadyH.nil
      have b0 := HM1.out.h.b.cell
      have bf := HM1.out.h.b.frozen
      go_simp
      refine hK.out _ _ trivial (fun hHeld5 => ?_)
      clear hK K hHeld3 b0 bf
      try simp only [Act.put, List.setIfInBounds_toArray, List.set_cons_zero, List.set_cons_succ]
      have HM2 := Lib.hid (HM1.out.setb (.slice (some ⟨w.heap.size + 3, 0, none⟩) l.length l.length))
      refine wpAnyH_done (by kernel_rfl) ?_ _
      simp only [onward]
      exact ⟨by first | rfl | trivial, HM2.out⟩
  rintro a' w1 ⟨rfl, hM⟩
  simp only [Exit.then]
  have HM := Lib.hid hM
  have hsz := hM.h.sz
  clear hM H0 HS0
  gi_wp2_with fail
  refine wpIn_label ?_
  gi_wp2_with fail
  refine ⟨trivial, ?_⟩
  refine (sbackward_in Fence.wide 5 trivial rfl _ _ _ _).mono ?_
  rintro e w' ⟨rfl, rfl⟩
  gi_wp2_with fail
  try simp only [hsz]
  have hI0 := HM.out.turn (A := A) (cap := cap) HSB.out HLB.out hn0
  have hps : Ps (w1.alloc (.cells #[.slice A l.length cap] 22)) w.heap.size A l := HS.out.at_.below hI0.f
  have hsz2 : (w1.alloc (.cells #[.slice A l.length cap] 22)).heap.size = w.heap.size + 5 := by rw [World.size_alloc, hsz]
  obtain ⟨W2, hW2⟩ : ∃ W2, (w1.alloc (.cells #[.slice A l.length cap] 22)) = W2 := ⟨_, rfl⟩
  rw [hW2] at hI0 hps hsz2 ⊢
  clear hW2 HM hsz
  refine wpIn_rangeFunc_ownH rfl h1 (gf := 68) (lb := #[.pointer (some ⟨w.heap.size + 4, 0, none⟩)]) rfl trivial (enters_of Tryz.func68 (by kernel_rfl) rfl)
    (sbackward_stops Fence.wide (6 - 1) trivial rfl (by decide) w.heap.size (w.heap.size + 4) cap A l (by omega) W2 (by omega) hI0.s hps) KpB.trans (kpB_put (by omega) (by omega)) (Below.refl _ _) (fun _ => rfl)
    (fun ys W => TurnI w W l.length A cap (ys.map fun x => x.1).length (foldI (pkeys l) (pkeys l0) (ys.map fun x => x.1)))
    (fun c ys W => c = .exit 0 ∧ TurnX w W (foldI (pkeys l) (pkeys l0) (ys.map fun x => x.1)))
    (turn_own w l.length A cap _ (by omega) _ _)
    (fun c => turnx_own w _ (by omega) _ _)
    hI0
    (fun x a' W => ∃ Bx, RoundA w W (l[x.1]'x.2) Bx ∧ a' = { tmps := ((.slice A l.length cap) :: (.slice A0 m0 c0) :: undef :: undef :: (.pointer (some ⟨w.heap.size, 0, none⟩)) :: (.pointer (some ⟨w.heap.size + 1, 0, none⟩)) :: (.pointer (some ⟨w.heap.size + 2, 0, none⟩)) :: (.int .i64 (x.1 : Int)) :: (.pointer (some ⟨Bx, 0, none⟩)) :: undef :: undef :: undef :: undef :: undef :: undef :: (.slice A0 m0 c0) :: (.slice A l.length cap) :: (.int .i64 (l.length : Int)) :: (.slice (some ⟨w.heap.size + 3, 0, none⟩) l.length l.length) :: (.slice A l.length cap) :: (.func (.func 68) #[] #[.pointer (some ⟨w.heap.size + 4, 0, none⟩)]) :: (.int .i64 (x.1 : Int)) :: ((l[x.1]'x.2).val) :: undef :: undef :: undef :: undef :: undef :: undef :: undef :: undef :: undef :: undef :: undef :: undef :: undef :: undef :: undef :: undef :: undef :: undef :: undef :: undef :: undef :: undef :: undef :: undef :: undef :: undef :: undef :: undef :: undef :: undef :: undef :: undef :: []).toArray, defers := [] })
    (fun x a' _ X Y row hs hg hr => by
      obtain ⟨Bx, h, e⟩ := hs
      exact ⟨Bx, h.go (by omega : w.heap.size < W2.heap.size) hg hr, e⟩)
    ?assign ?body ?done ?stop
  case assign =>
    rintro lp pre ⟨i, hi⟩ W K hI hK
    unfold CameI.cells
    dsimp only
    unfold Pm.val
    have hlt := hI.s.lt
    have hf := hI.fresh (.cells #[.int .i64 (l[i]).kind, .string (l[i]).p, .string (l[i]).dst, .int .i64 (l[i]).at_, .slice (l[i]).a1 (l[i]).old.length (l[i]).c1, .slice (l[i]).a2 (l[i]).new.length (l[i]).c2] 33)
    gi_wp2
    have hal := (Below.refl W.heap.size W).alloc (Nat.le_refl _) (.cells #[.int .i64 (l[i]).kind, .string (l[i]).p, .string (l[i]).dst, .int .i64 (l[i]).at_, .slice (l[i]).a1 (l[i]).old.length (l[i]).c1, .slice (l[i]).a2 (l[i]).new.length (l[i]).c2] 33)
    exact hK _ _ ((KeepsOthers.alloc _ _).from _) (kpB_below1 hal hI.f.size) (hI.on hal) ⟨W.heap.size, ⟨hlt, PrimAt.new_ W l[i], hf⟩, rfl⟩
  case body =>
    rintro lp pre ⟨i, hi⟩ a' W hl2 ⟨r, hr⟩ hI ⟨Bx, hA, rfl⟩ hlen
    obtain ⟨A1, n1, c1, rs, a1, a2, a4, a5, a6, _⟩ := hI.a
    obtain ⟨hBx, hpx, hxb⟩ := hA
    have hx := hxb _ _ _ a1
    dsimp only at hpx hx ⊢
    unfold Pm.val
    have hki : i < (pkeys l).length := by rw [pkeys_len]; exact hi
    have hkey : (pkeys l)[i] = l[i].key := by simp [pkeys]
    have hli : LtK l[i].key := HL.out _ (List.getElem_mem _)
    obtain ⟨R9, hR9⟩ : ∃ r, pastP l[i].key (pkeys rs) = r := ⟨_, rfl⟩
    have HR : Hid (pastP (pkeys l)[i] (pkeys rs) = R9 ∧ LtK (pkeys l)[i]) := ⟨by rw [hkey]; exact hR9, by rw [hkey]; exact hli⟩
    have hxg : l[i].Good w.heap.size W := .inl ((HS.out.ok _ (List.getElem_mem _)).below hI.f)
    have HIN0 : Hid (InnI w W W Bx rs [] R9 none 0 0 l[i] 0) := by
      refine ⟨OwnP.nil _ _, (fun z hz => by cases hz), hpx, hxg, hli, ?_, Nat.le_refl _, Chg.refl _ _, ⟨rfl, rfl, rfl, Nat.le_refl _, fun _ _ _ => rfl⟩⟩
      rw [List.drop_zero]
      exact (cons_nil _ _).trans hR9
    have HI := Lib.hid hI
    have HA4 := Lib.hid a4
    have HA5 := Lib.hid a5
    have HA6 := Lib.hid a6
    have HG := Lib.hid a2
    have HPX := Lib.hid hpx
    have HXB := Lib.hid hx
    have HBX := Lib.hid hBx
    have hn1 : n1 = rs.length := a2.1
    have hc0 := a1.cell
    clear hI a2 a4 a5 a6 hpx hx hxb hR9 hxg hli hkey hr
    gi_wp2
    gi_loopw [9, 25] (fun s9 s25 wr => ∃ (j : Nat) (A9 : Option Addr) (n9 c9 : Nat) (qs : List Pm) (x : Pm), s9 = .slice A9 n9 c9 ∧ s25 = .int .i64 (j : Int) ∧ j ≤ n1 ∧ Hid (InnI w W wr Bx rs qs R9 A9 n9 c9 x j)) (fun _ s25 _ => n1 - (intOf s25).toNat)
    case atStart => exact ⟨0, none, 0, 0, [], l[i], rfl, rfl, Nat.zero_le _, HIN0.out⟩
    case round =>
      clear HIN0 hc0
      obtain ⟨j, A9, n9, c9, qs, x, rfl, rfl, hj, HN⟩ := hrel
      have hnW := HI.out.f.size
      by_cases hlt : j < n1
      · have hjr : j < rs.length := by omega
        have hrow := (HN.out.row hnW HG.out HXB.out).row (Nat.le_trans hnW HN.out.chg.size)
        obtain ⟨lb, lo, rfl, _, d0, d1, d2, d3, d4, d5⟩ := hrow.at_.get hjr
        have hyo := hrow.ok rs[j] (List.getElem_mem _)
        have hyl := HA5.out rs[j] (List.getElem_mem _)
        have HRY : Hid (LtK rs[j].key) := hyl
        have hxo := HN.out.xg.ok (Nat.le_trans hnW HN.out.chg.size)
        obtain ⟨er, kb, ka, hpair⟩ : ∃ er kb ka, pairP x.key rs[j].key = (er, kb, ka) := ⟨_, _, _, rfl⟩
        have HPR := Lib.hid hpair
        obtain ⟨y, hy⟩ : ∃ y, rs[j] = y := ⟨_, rfl⟩
        rw [hy] at d0 d1 d2 d3 d4 d5 hyo hyl hpair
        have hal : Below wr.heap.size wr (wr.alloc (.cells #[.int .i64 y.kind, .string y.p, .string y.dst, .int .i64 y.at_, .slice y.a1 y.old.length y.c1, .slice y.a2 y.new.length y.c2] 33)) := (Below.refl _ _).alloc (Nat.le_refl _) _
        have CP := Lib.hid (cpair_any x y (wr.alloc (.cells #[.int .i64 y.kind, .string y.p, .string y.dst, .int .i64 y.at_, .slice y.a1 y.old.length y.c1, .slice y.a2 y.new.length y.c2] 33)) (hxo.on hal) (hyo.on hal) HN.out.lt.wd hyl.wd (Tabs.on HT.out ((HI.out.f.trans (HN.out.chg.below hnW)).trans (hal.mono (Nat.le_trans hnW HN.out.chg.size)))))
        unfold pairLeft TwoLeft at CP
        rw [hpair] at CP
        unfold Pm.val at CP
        have HAL := Lib.hid hal
        have x0 := HN.out.px.c0
        have x1 := HN.out.px.c1
        have x2 := HN.out.px.c2
        have x3 := HN.out.px.c3
        have x4 := HN.out.px.c4
        have x5 := HN.out.px.c5
        have hpz := HN.out.px.on hal
        have z0 := hpz.c0
        have z1 := hpz.c1
        have z2 := hpz.c2
        have z3 := hpz.c3
        have z4 := hpz.c4
        have z5 := hpz.c5
        have hpy : PrimAt (wr.alloc (.cells #[.int .i64 y.kind, .string y.p, .string y.dst, .int .i64 y.at_, .slice y.a1 y.old.length y.c1, .slice y.a2 y.new.length y.c2] 33)) wr.heap.size y := PrimAt.new_ wr y
        have t0 := hpy.c0
        have t1 := hpy.c1
        have t2 := hpy.c2
        have t3 := hpy.c3
        have t4 := hpy.c4
        have t5 := hpy.c5
        have hBn : Bx ≠ wr.heap.size := Nat.ne_of_lt HN.out.px.lt
        have hl64 : (lb = Bx) = False := by
          apply eq_false
          intro e
          exact HXB.out (by omega) _ rfl e
        have u1 : (0 : Int) ≤ (j : Int) := by omega
        have u2 : (j : Int) < (n1 : Int) := by omega
        have hj5 : j ≤ 500 := by have := HA6.out; omega
        have HY := Lib.hid hy
        have HBC : Hid (∀ V, Below wr.heap.size wr V → Boxed V (w.heap.size + 2) 25 (.int .i64 0)) := fun V hV => (hV.block _ (HN.out.box HI.out.c (by have := HBX.out; omega)).lt).trans (HN.out.box HI.out.c (by have := HBX.out; omega))
        clear hrow hyo hyl hxo hpair hy hal hpz hpy
        by_cases he : er = 0
        · subst he
          gi_wp2_with (refine ⟨trivial, ?_⟩; gi_at_call 45; refine (CallsIn.inRound lp (callsIn_wide.2 CP.out)).mono ?_; rintro e w7 ⟨b, a, rfl, hp, hb⟩; have hpb := hp.out; clear hp)
          clear x0 x1 x2 x3 x4 x5 z0 z1 z2 z3 z4 z5 t0 t1 t2 t3 t4 t5 d0 d1 d2 d3 d4 d5 CP
          obtain ⟨hal2, hq1, hq2⟩ := box2 w7 b a
          have HWX : Hid (W.heap.size ≤ w7.heap.size) := Nat.le_trans HN.out.chg.size (Nat.le_trans HAL.out.size hb.size)
          have hbx : Below wr.heap.size wr ((w7.alloc (.cells b.cells.toArray 33)).alloc (.cells a.cells.toArray 33)) := HAL.out.trans ((hb.trans (hal2.mono hb.size)).mono HAL.out.size)
          have HBXX := Lib.hid hbx
          have HGb := Lib.hid hq1
          have HGa := Lib.hid hq2
          have HSB2 := Lib.hid (hpb.1.on hal2)
          have HSA2 := Lib.hid (hpb.2.1.on hal2)
          have HKP : Hid (pairP x.key rs[j].key = (0, b.key, a.key)) := by
            show _ = _
            rw [HPR.out, hpb.2.2.1, hpb.2.2.2]
          obtain ⟨wx, hwx⟩ : ∃ wx, ((w7.alloc (.cells b.cells.toArray 33)).alloc (.cells a.cells.toArray 33)) = wx := ⟨_, rfl⟩
          rw [hwx] at HBXX HGb HGa HSB2 HSA2
          have hwx2 : ((w7.alloc (.cells #[.int .i64 b.kind, .string b.p, .string b.dst, .int .i64 b.at_, .slice b.a1 b.old.length b.c1, .slice b.a2 b.new.length b.c2] 33)).alloc (.cells #[.int .i64 a.kind, .string a.p, .string a.dst, .int .i64 a.at_, .slice a.a1 a.old.length a.c1, .slice a.a2 a.new.length a.c2] 33)) = wx := hwx
          try rw [hwx2]
          replace HWX : Hid (W.heap.size ≤ wx.heap.size) := by rw [← hwx]; exact Nat.le_trans HWX.out hal2.size
          have HWB : Hid (wr.heap.size ≤ w7.heap.size) := Nat.le_trans HAL.out.size hb.size
          have HLb : Hid (W.heap.size ≤ w7.heap.size) := Nat.le_trans HN.out.chg.size (Nat.le_trans HAL.out.size hb.size)
          clear hbx hal2 hq1 hq2 hpb hb hwx hwx2 HPR
          try simp only [World.size_alloc]
          generalize hgb : w7.heap.size = gb at *
          obtain ⟨ga, hga⟩ : ∃ ga, gb + 1 = ga := ⟨_, rfl⟩
          rw [hga] at HGa ⊢
          have HBW : Hid (Bx < W.heap.size) := HPX.out.lt
          have HBb : Hid (gb ≠ Bx) := by show _ ≠ _; have := HLb.out; have := HBW.out; omega
          have HBa : Hid (ga ≠ Bx) := by show _ ≠ _; have := HLb.out; have := HBW.out; omega
          have hob : ∀ g, (Value.slice A9 n9 c9).ownBlock = some g → g < wr.heap.size := fun g e => (World.ownsRow.lt HN.out.own g e).2
          have hwrb : wr.heap.size ≤ gb := HWB.out
          have HNb : Hid ((Value.slice A9 n9 c9).ownBlock ≠ some gb) := fun e => by have := hob _ e; omega
          have HNa : Hid ((Value.slice A9 n9 c9).ownBlock ≠ some ga) := fun e => by have := hob _ e; omega
          have HNx : Hid ((Value.slice A9 n9 c9).ownBlock ≠ some Bx) := fun e => by have := ownBlock_gep HN.out.own _ e; have := HBW.out; omega
          have HQO := Lib.hid (HN.out.own.kept HBXX.out)
          have HPX2 : Hid (PrimAt wx Bx x) := HN.out.px.on HBXX.out
          have HBO := Lib.hid HSB2.out.1
          have HQL : Hid (qs.length ≤ 500) := by have := HN.out.len; show _ ≤ _; omega
          have HN9 : Hid (n9 + 1 = qs.length + [b].length) := by show _ = _; rw [HN.out.own.flat.1]; rfl
          have HKS : Hid (∀ V, Below wx.heap.size wx V → V.cell? ⟨gb, 0, none⟩ = some (.int .i64 b.kind) ∧ V.cell? ⟨gb, 1, none⟩ = some (.string b.p) ∧ V.cell? ⟨gb, 2, none⟩ = some (.string b.dst) ∧ V.cell? ⟨gb, 3, none⟩ = some (.int .i64 b.at_) ∧ V.cell? ⟨gb, 4, none⟩ = some (.slice b.a1 b.old.length b.c1) ∧ V.cell? ⟨gb, 5, none⟩ = some (.slice b.a2 b.new.length b.c2) ∧ V.cell? ⟨ga, 0, none⟩ = some (.int .i64 a.kind) ∧ V.cell? ⟨ga, 1, none⟩ = some (.string a.p) ∧ V.cell? ⟨ga, 2, none⟩ = some (.string a.dst) ∧ V.cell? ⟨ga, 3, none⟩ = some (.int .i64 a.at_) ∧ V.cell? ⟨ga, 4, none⟩ = some (.slice a.a1 a.old.length a.c1) ∧ V.cell? ⟨ga, 5, none⟩ = some (.slice a.a2 a.new.length a.c2)) := fun V hV => six_six (HGb.out.on hV) (HGa.out.on hV)
          have HDR : Hid (Below wx.heap.size wx wx.drew) := (Below.refl _ _).drew
          clear hgb hga hob hwrb HWB
          (first | refine wpIn_seq ?_ | skip)
          refine wpIn_region_round (by kernel_rfl) (by kernel_rfl) (fun w' => w'.cell? ⟨gb, 0, none⟩ = some (.int .i64 b.kind) ∧ w'.cell? ⟨gb, 1, none⟩ = some (.string b.p) ∧ w'.cell? ⟨gb, 2, none⟩ = some (.string b.dst) ∧ w'.cell? ⟨gb, 3, none⟩ = some (.int .i64 b.at_) ∧ w'.cell? ⟨gb, 4, none⟩ = some (.slice b.a1 b.old.length b.c1) ∧ w'.cell? ⟨gb, 5, none⟩ = some (.slice b.a2 b.new.length b.c2) ∧ w'.cell? ⟨ga, 0, none⟩ = some (.int .i64 a.kind) ∧ w'.cell? ⟨ga, 1, none⟩ = some (.string a.p) ∧ w'.cell? ⟨ga, 2, none⟩ = some (.string a.dst) ∧ w'.cell? ⟨ga, 3, none⟩ = some (.int .i64 a.at_) ∧ w'.cell? ⟨ga, 4, none⟩ = some (.slice a.a1 a.old.length a.c1) ∧ w'.cell? ⟨ga, 5, none⟩ = some (.slice a.a2 a.new.length a.c2)) _ (HKS.out _ HDR.out) (fun hHeld => ?_) (fun _ _ h => h)
          refine wpAnyH_take (i := 0) (oi := { dst := some 39, op := _, type := _, pos := _, after := _, guard := _ }) (v := .slice A9 n9 c9) rfl (by kernel_rfl) (by kernel_rfl) (by kernel_rfl) (fun _ _ _ h => h) (Or.inl ⟨by rfl, fun w' hSw => ?_⟩) (by assumption) ?_
          · ((try dsimp only at hSw); go_simp)
          try simp only [Act.put, List.setIfInBounds_toArray, List.set_cons_zero, List.set_cons_succ]
          refine wpAnyH_take (i := 1) (oi := { dst := some 40, op := _, type := _, pos := _, after := _, guard := _ }) (v := .agg #[.int .i64 b.kind, .string b.p, .string b.dst, .int .i64 b.at_, .slice b.a1 b.old.length b.c1, .slice b.a2 b.new.length b.c2]) rfl (by kernel_rfl) (by kernel_rfl) (by kernel_rfl) (fun _ _ _ h => h) (Or.inl ⟨by rfl, fun w' hSw => ?_⟩) (by assumption) ?_
          · ((try dsimp only at hSw); go_simp)
          try simp only [Act.put, List.setIfInBounds_toArray, List.set_cons_zero, List.set_cons_succ]
          refine wpAnyH_take (i := 4) (oi := { dst := some 43, op := _, type := _, pos := _, after := _, guard := _ }) (v := .agg #[.int .i64 a.kind, .string a.p, .string a.dst, .int .i64 a.at_, .slice a.a1 a.old.length a.c1, .slice a.a2 a.new.length a.c2]) rfl (by kernel_rfl) (by kernel_rfl) (by kernel_rfl) (fun _ _ _ h => h) (Or.inl ⟨by rfl, fun w' hSw => ?_⟩) (by assumption) ?_
          · ((try dsimp only at hSw); go_simp)
          try simp only [Act.put, List.setIfInBounds_toArray, List.set_cons_zero, List.set_cons_succ]
          have XB0 := Lib.hid HDR.out
          generalize hwD : wx.drew = wD at *
          clear hwD HDR
          refine wpAnyH_ready (rs := [2]) (by kernel_rfl) (by simp) ?_
          refine AllReadyH.cons rfl (fun K hK => ?_) AllReadyH.nil
          have hax : Below wD.heap.size wD (wD.alloc (.cells #[.int .i64 b.kind, .string b.p, .string b.dst, .int .i64 b.at_, .slice b.a1 b.old.length b.c1, .slice b.a2 b.new.length b.c2] 33)) := (Below.refl _ _).alloc (Nat.le_refl _) _
          have XB1 := Lib.hid (XB0.out.trans (hax.mono XB0.out.size))
          have HOW := Lib.hid (HQO.out.kept (XB1.out))
          have HRB : Hid (Ps (wD.alloc (.cells #[.int .i64 b.kind, .string b.p, .string b.dst, .int .i64 b.at_, .slice b.a1 b.old.length b.c1, .slice b.a2 b.new.length b.c2] 33)) (wD.alloc (.cells #[.int .i64 b.kind, .string b.p, .string b.dst, .int .i64 b.at_, .slice b.a1 b.old.length b.c1, .slice b.a2 b.new.length b.c2] 33)).heap.size (some ⟨wD.heap.size, 0, none⟩) [b]) := (RowB.of_own (own_onep wD wD.heap.size b (Nat.le_refl _)) (Nat.le_refl _) (fun z hz => by
            obtain rfl : z = b := by simpa using hz
            exact HBO.out.on XB1.out)).at_
          have HSZ1 : Hid (W.heap.size ≤ (wD.alloc (.cells #[.int .i64 b.kind, .string b.p, .string b.dst, .int .i64 b.at_, .slice b.a1 b.old.length b.c1, .slice b.a2 b.new.length b.c2] 33)).heap.size) := Nat.le_trans HWX.out XB1.out.size
          clear hax
          go_simp
          refine hK.out _ _ (HKS.out _ XB1.out) (fun hHeld2 => ?_)
          clear hK K hHeld
          try simp only [Act.put, List.setIfInBounds_toArray, List.set_cons_zero, List.set_cons_succ]
          refine wpAnyH_ready (rs := [3]) (by kernel_rfl) (by simp) ?_
          refine AllReadyH.cons rfl (fun K hK => ?_) AllReadyH.nil
          refine step_append_prims 42 rfl rfl _ _ rfl W.heap.size (.slice A9 n9 c9) qs rfl HOW.out [b] (some ⟨wD.heap.size, 0, none⟩) 1 1 rfl rfl (by simp) HRB.out HSZ1.out (by have := HQL.out; simp only [List.length_cons, List.length_nil]; omega) (n9 + 1) HN9.out ?_
          intro A4 c4 w4 ho4 hg4
          have hch4 : (wD.alloc (.cells #[.int .i64 b.kind, .string b.p, .string b.dst, .int .i64 b.at_, .slice b.a1 b.old.length b.c1, .slice b.a2 b.new.length b.c2] 33)).grownBy w4 (Value.slice A9 n9 c9).ownBlock := hg4
          have XG4 : Hid (wx.grownBy w4 (Value.slice A9 n9 c9).ownBlock) := grown_both (below_grown1 XB1.out _) hg4
          have HO4 := Lib.hid ho4
          have HS4 : Hid (w4.cell? ⟨gb, 0, none⟩ = some (.int .i64 b.kind) ∧ w4.cell? ⟨gb, 1, none⟩ = some (.string b.p) ∧ w4.cell? ⟨gb, 2, none⟩ = some (.string b.dst) ∧ w4.cell? ⟨gb, 3, none⟩ = some (.int .i64 b.at_) ∧ w4.cell? ⟨gb, 4, none⟩ = some (.slice b.a1 b.old.length b.c1) ∧ w4.cell? ⟨gb, 5, none⟩ = some (.slice b.a2 b.new.length b.c2) ∧ w4.cell? ⟨ga, 0, none⟩ = some (.int .i64 a.kind) ∧ w4.cell? ⟨ga, 1, none⟩ = some (.string a.p) ∧ w4.cell? ⟨ga, 2, none⟩ = some (.string a.dst) ∧ w4.cell? ⟨ga, 3, none⟩ = some (.int .i64 a.at_) ∧ w4.cell? ⟨ga, 4, none⟩ = some (.slice a.a1 a.old.length a.c1) ∧ w4.cell? ⟨ga, 5, none⟩ = some (.slice a.a2 a.new.length a.c2)) := six_six (HGb.out.grown XG4.out HNb.out) (HGa.out.grown XG4.out HNa.out)
          clear ho4 hg4 hch4
          refine hK.out _ _ HS4.out (fun hHeld3 => ?_)
          clear hK K hHeld2
          try simp only [Act.put, List.setIfInBounds_toArray, List.set_cons_zero, List.set_cons_succ]
          refine wpAnyH_take (i := 5) (oi := { dst := some 9, op := _, type := _, pos := _, after := _, guard := _ }) (v := .slice A4 (n9 + 1) c4) rfl (by kernel_rfl) (by kernel_rfl) (by kernel_rfl) (fun _ _ _ h => h) (Or.inl ⟨by rfl, fun w' hSw => ?_⟩) (by assumption) ?_
          · ((try dsimp only at hSw); go_simp)
          try simp only [Act.put, List.setIfInBounds_toArray, List.set_cons_zero, List.set_cons_succ]
          refine wpAnyH_ready (rs := [6]) (by kernel_rfl) (by simp) ?_
          refine AllReadyH.cons rfl (fun K hK => ?_) AllReadyH.nil
          have HPX4 : Hid (PrimAt w4 Bx x) := HPX2.out.grown XG4.out HNx.out
          have m0 := HPX4.out.c0
          have m1 := HPX4.out.c1
          have m2 := HPX4.out.c2
          have m3 := HPX4.out.c3
          have m4 := HPX4.out.c4
          have m5 := HPX4.out.c5
          have mf0 := HPX4.out.fz 0
          have mf1 := HPX4.out.fz 1
          have mf2 := HPX4.out.fz 2
          have mf3 := HPX4.out.fz 3
          have mf4 := HPX4.out.fz 4
          have mf5 := HPX4.out.fz 5
          have hgs := setPrim_grown w4 Bx a
          have HS5 : Hid ((setPrim w4 Bx a).cell? ⟨gb, 0, none⟩ = some (.int .i64 b.kind) ∧ (setPrim w4 Bx a).cell? ⟨gb, 1, none⟩ = some (.string b.p) ∧ (setPrim w4 Bx a).cell? ⟨gb, 2, none⟩ = some (.string b.dst) ∧ (setPrim w4 Bx a).cell? ⟨gb, 3, none⟩ = some (.int .i64 b.at_) ∧ (setPrim w4 Bx a).cell? ⟨gb, 4, none⟩ = some (.slice b.a1 b.old.length b.c1) ∧ (setPrim w4 Bx a).cell? ⟨gb, 5, none⟩ = some (.slice b.a2 b.new.length b.c2) ∧ (setPrim w4 Bx a).cell? ⟨ga, 0, none⟩ = some (.int .i64 a.kind) ∧ (setPrim w4 Bx a).cell? ⟨ga, 1, none⟩ = some (.string a.p) ∧ (setPrim w4 Bx a).cell? ⟨ga, 2, none⟩ = some (.string a.dst) ∧ (setPrim w4 Bx a).cell? ⟨ga, 3, none⟩ = some (.int .i64 a.at_) ∧ (setPrim w4 Bx a).cell? ⟨ga, 4, none⟩ = some (.slice a.a1 a.old.length a.c1) ∧ (setPrim w4 Bx a).cell? ⟨ga, 5, none⟩ = some (.slice a.a2 a.new.length a.c2)) := six_six ((HGb.out.grown XG4.out HNb.out).grown hgs (by simpa using Ne.symm HBb.out)) ((HGa.out.grown XG4.out HNa.out).grown hgs (by simpa using Ne.symm HBa.out))
          have HS6 := HS5.out
          unfold setPrim at HS6
          clear hgs HS4
          go_simp
          refine hK.out _ _ HS6 (fun hHeld6 => ?_)
          clear hK K hHeld3 m0 m1 m2 m3 m4 m5 mf0 mf1 mf2 mf3 mf4 mf5 HS6
          try simp only [Act.put, List.setIfInBounds_toArray, List.set_cons_zero, List.set_cons_succ]
          refine wpAnyH_done (by kernel_rfl) ?_ _
          have HNX : Hid (InnI w W (setPrim w4 Bx a) Bx rs (qs ++ [b]) R9 A4 (n9 + 1) c4 a (j + 1)) := HN.out.step hnW HBX.out HBW.out hjr HRY.out HBXX.out HSB2.out HSA2.out HKP.out HO4.out XG4.out
          clear HN HGb HGa HSB2 HSA2 HKP HBXX HBb HBa HNb HNa HNx HQO HPX2 HBO HN9 HKS HO4 XG4 HOW HRB HSZ1 XB0 XB1 HS5 HAL HY
          simp only [onward]
          gi_wp2
          go_roundw
          case rel =>
            first
            | exact ⟨j + 1, A4, n9 + 1, c4, qs ++ [b], a, rfl, by go_num, by omega, HNX.out⟩
            | ((repeat apply Exists.intro); exact ⟨⟨rfl, by go_num, by omega, HNX.out⟩, rfl⟩)
          case measure => simp [intOf]; omega
        · have ke : (er != 0) = true := by simpa using he
          have HST : Hid (∀ V, Below wr.heap.size wr V → KeepsFrom (w.heap.size + 5) W (V.setCell ⟨w.heap.size + 2, 0, none⟩ (.int .i64 er)) ∧ TurnX w (V.setCell ⟨w.heap.size + 2, 0, none⟩ (.int .i64 er)) (foldI (pkeys l) (pkeys l0) ((pre ++ [(⟨i, hi⟩ : CameI l)]).map fun x => x.1))) := fun V hV => by
            rw [List.map_append]
            exact HN.out.stop HI.out (pkeys_len l) hi HBX.out HPX.out HA4.out hjr HR.out.1 HPR.out he hV
          clear he HN
          gi_wp2_with (refine ⟨trivial, ?_⟩; gi_at_call 45; refine (CallsIn.inRound lp (callsIn_wide.2 CP.out)).mono ?_; rintro e w7 ⟨b, a, rfl, hp, hb⟩; have hV : Below wr.heap.size wr ((w7.alloc (.cells #[.int .i64 b.kind, .string b.p, .string b.dst, .int .i64 b.at_, .slice b.a1 b.old.length b.c1, .slice b.a2 b.new.length b.c2] 33)).alloc (.cells #[.int .i64 a.kind, .string a.p, .string a.dst, .int .i64 a.at_, .slice a.a1 a.old.length a.c1, .slice a.a2 a.new.length a.c2] 33)) := HAL.out.trans ((hb.trans ((box2 w7 b a).1.mono hb.size)).mono HAL.out.size); have hz6 := (HBC.out _ hV).cell; have hzf := (HBC.out _ hV).frozen; have HFN := Lib.hid (HST.out _ hV); clear hp hb hV)
          exact ⟨hsz2 ▸ HFN.out.1, rfl, HFN.out.2⟩
      · obtain rfl : j = n1 := by omega
        obtain ⟨vs, A8, n8, c8, f1, f2, f3, f4, f5, f6, f7⟩ := HN.out.fin HI.out (pkeys_len l) hi HBX.out HPX.out HA4.out HA5.out HA6.out hn1 HR.out.1 HR.out.2
        have HFN : Hid (TurnI w (putPrim (wr.drew.setCell ⟨w.heap.size, 0, none⟩ (.slice A9 n9 c9)) (w.heap.size + 3) i x) l.length A cap ((pre ++ [(⟨i, hi⟩ : CameI l)]).map fun x => x.1).length (foldI (pkeys l) (pkeys l0) ((pre ++ [(⟨i, hi⟩ : CameI l)]).map fun x => x.1)) ∧ KeepsFrom W2.heap.size W (putPrim (wr.drew.setCell ⟨w.heap.size, 0, none⟩ (.slice A9 n9 c9)) (w.heap.size + 3) i x) ∧ KpB w.heap.size (w.heap.size + 4) W (putPrim (wr.drew.setCell ⟨w.heap.size, 0, none⟩ (.slice A9 n9 c9)) (w.heap.size + 3) i x)) := by
          rw [List.map_append]
          exact ⟨f5, hsz2 ▸ f6, f7⟩
        have hg1 := grownBy_setCell' wr.drew w.heap.size (.slice A9 n9 c9)
        have hg2 := (f1.put f2 x).2
        have hpD : PrimAt wr.drew Bx x := HN.out.px
        have hpE : PrimAt (wr.drew.setCell ⟨w.heap.size, 0, none⟩ (.slice A9 n9 c9)) Bx x := hpD.grown hg1 (by have := HBX.out; simp; omega)
        have hpF : PrimAt (putPrim (wr.drew.setCell ⟨w.heap.size, 0, none⟩ (.slice A9 n9 c9)) (w.heap.size + 3) i x) Bx x := hpE.grown hg2 (by have := HBX.out; simp; omega)
        have HS0 : Hid (wr.drew.cell? ⟨w.heap.size + 1, 0, none⟩ = some (.slice (some ⟨w.heap.size + 3, 0, none⟩) l.length l.length) ∧ wr.drew.cell? ⟨Bx, 0, none⟩ = some (.int .i64 x.kind) ∧ wr.drew.cell? ⟨Bx, 1, none⟩ = some (.string x.p) ∧ wr.drew.cell? ⟨Bx, 2, none⟩ = some (.string x.dst) ∧ wr.drew.cell? ⟨Bx, 3, none⟩ = some (.int .i64 x.at_) ∧ wr.drew.cell? ⟨Bx, 4, none⟩ = some (.slice x.a1 x.old.length x.c1) ∧ wr.drew.cell? ⟨Bx, 5, none⟩ = some (.slice x.a2 x.new.length x.c2)) := ⟨f4.cell, hpD.c0, hpD.c1, hpD.c2, hpD.c3, hpD.c4, hpD.c5⟩
        have f4E := f4.kept hg1 (by simp)
        have f4F := f4E.kept hg2 (by simp)
        have HS1 : Hid ((wr.drew.setCell ⟨w.heap.size, 0, none⟩ (.slice A9 n9 c9)).cell? ⟨w.heap.size + 1, 0, none⟩ = some (.slice (some ⟨w.heap.size + 3, 0, none⟩) l.length l.length) ∧ (wr.drew.setCell ⟨w.heap.size, 0, none⟩ (.slice A9 n9 c9)).cell? ⟨Bx, 0, none⟩ = some (.int .i64 x.kind) ∧ (wr.drew.setCell ⟨w.heap.size, 0, none⟩ (.slice A9 n9 c9)).cell? ⟨Bx, 1, none⟩ = some (.string x.p) ∧ (wr.drew.setCell ⟨w.heap.size, 0, none⟩ (.slice A9 n9 c9)).cell? ⟨Bx, 2, none⟩ = some (.string x.dst) ∧ (wr.drew.setCell ⟨w.heap.size, 0, none⟩ (.slice A9 n9 c9)).cell? ⟨Bx, 3, none⟩ = some (.int .i64 x.at_) ∧ (wr.drew.setCell ⟨w.heap.size, 0, none⟩ (.slice A9 n9 c9)).cell? ⟨Bx, 4, none⟩ = some (.slice x.a1 x.old.length x.c1) ∧ (wr.drew.setCell ⟨w.heap.size, 0, none⟩ (.slice A9 n9 c9)).cell? ⟨Bx, 5, none⟩ = some (.slice x.a2 x.new.length x.c2)) := ⟨f4E.cell, hpE.c0, hpE.c1, hpE.c2, hpE.c3, hpE.c4, hpE.c5⟩
        have HS2 : Hid ((putPrim (wr.drew.setCell ⟨w.heap.size, 0, none⟩ (.slice A9 n9 c9)) (w.heap.size + 3) i x).cell? ⟨w.heap.size + 1, 0, none⟩ = some (.slice (some ⟨w.heap.size + 3, 0, none⟩) l.length l.length) ∧ (putPrim (wr.drew.setCell ⟨w.heap.size, 0, none⟩ (.slice A9 n9 c9)) (w.heap.size + 3) i x).cell? ⟨Bx, 0, none⟩ = some (.int .i64 x.kind) ∧ (putPrim (wr.drew.setCell ⟨w.heap.size, 0, none⟩ (.slice A9 n9 c9)) (w.heap.size + 3) i x).cell? ⟨Bx, 1, none⟩ = some (.string x.p) ∧ (putPrim (wr.drew.setCell ⟨w.heap.size, 0, none⟩ (.slice A9 n9 c9)) (w.heap.size + 3) i x).cell? ⟨Bx, 2, none⟩ = some (.string x.dst) ∧ (putPrim (wr.drew.setCell ⟨w.heap.size, 0, none⟩ (.slice A9 n9 c9)) (w.heap.size + 3) i x).cell? ⟨Bx, 3, none⟩ = some (.int .i64 x.at_) ∧ (putPrim (wr.drew.setCell ⟨w.heap.size, 0, none⟩ (.slice A9 n9 c9)) (w.heap.size + 3) i x).cell? ⟨Bx, 4, none⟩ = some (.slice x.a1 x.old.length x.c1) ∧ (putPrim (wr.drew.setCell ⟨w.heap.size, 0, none⟩ (.slice A9 n9 c9)) (w.heap.size + 3) i x).cell? ⟨Bx, 5, none⟩ = some (.slice x.a2 x.new.length x.c2)) := ⟨f4F.cell, hpF.c0, hpF.c1, hpF.c2, hpF.c3, hpF.c4, hpF.c5⟩
        have HB0 := Lib.hid f3
        have HOE := Lib.hid f1
        obtain ⟨g9, hg9, _, _, m0, m1, m2, m3, m4, m5⟩ := f1.get f2
        obtain rfl : w.heap.size + 3 = g9 := by simpa using hg9
        have HME : Hid ((wr.drew.setCell ⟨w.heap.size, 0, none⟩ (.slice A9 n9 c9)).cell? ⟨w.heap.size + 3, i * 6, none⟩ = some (.int .i64 vs[i].kind) ∧ (wr.drew.setCell ⟨w.heap.size, 0, none⟩ (.slice A9 n9 c9)).cell? ⟨w.heap.size + 3, i * 6 + 1, none⟩ = some (.string vs[i].p) ∧ (wr.drew.setCell ⟨w.heap.size, 0, none⟩ (.slice A9 n9 c9)).cell? ⟨w.heap.size + 3, i * 6 + 2, none⟩ = some (.string vs[i].dst) ∧ (wr.drew.setCell ⟨w.heap.size, 0, none⟩ (.slice A9 n9 c9)).cell? ⟨w.heap.size + 3, i * 6 + 3, none⟩ = some (.int .i64 vs[i].at_) ∧ (wr.drew.setCell ⟨w.heap.size, 0, none⟩ (.slice A9 n9 c9)).cell? ⟨w.heap.size + 3, i * 6 + 4, none⟩ = some (.slice vs[i].a1 vs[i].old.length vs[i].c1) ∧ (wr.drew.setCell ⟨w.heap.size, 0, none⟩ (.slice A9 n9 c9)).cell? ⟨w.heap.size + 3, i * 6 + 5, none⟩ = some (.slice vs[i].a2 vs[i].new.length vs[i].c2)) := ⟨m0, m1, m2, m3, m4, m5⟩
        have u1 : (0 : Int) ≤ (i : Int) := by omega
        have u2 : (i : Int) < (l.length : Int) := by omega
        clear f1 f3 f4 f5 f6 f7 hg1 hg2 hpD hpE hpF f4E f4F m0 m1 m2 m3 m4 m5 hg9 HN
        gi_wp2_with fail
        (first | refine wpIn_seq ?_ | skip)
        refine wpIn_region_round (by kernel_rfl) (by kernel_rfl) (fun w' => w'.cell? ⟨w.heap.size + 1, 0, none⟩ = some (.slice (some ⟨w.heap.size + 3, 0, none⟩) l.length l.length) ∧ w'.cell? ⟨Bx, 0, none⟩ = some (.int .i64 x.kind) ∧ w'.cell? ⟨Bx, 1, none⟩ = some (.string x.p) ∧ w'.cell? ⟨Bx, 2, none⟩ = some (.string x.dst) ∧ w'.cell? ⟨Bx, 3, none⟩ = some (.int .i64 x.at_) ∧ w'.cell? ⟨Bx, 4, none⟩ = some (.slice x.a1 x.old.length x.c1) ∧ w'.cell? ⟨Bx, 5, none⟩ = some (.slice x.a2 x.new.length x.c2)) _ HS0.out (fun hHeld => ?_) (fun _ _ h => h)
        refine wpAnyH_take (i := 0) (oi := { dst := some 45, op := _, type := _, pos := _, after := _, guard := _ }) (v := .slice (some ⟨w.heap.size + 3, 0, none⟩) l.length l.length) rfl (by kernel_rfl) (by kernel_rfl) (by kernel_rfl) (fun _ _ _ h => h) (Or.inl ⟨by rfl, fun w' hSw => ?_⟩) (by assumption) ?_
        · ((try dsimp only at hSw); go_simp)
        try simp only [Act.put, List.setIfInBounds_toArray, List.set_cons_zero, List.set_cons_succ]
        refine wpAnyH_take (i := 1) (oi := { dst := some 46, op := _, type := _, pos := _, after := _, guard := _ }) (v := .int .i64 (i : Int)) rfl (by kernel_rfl) (by kernel_rfl) (by kernel_rfl) (fun _ _ _ h => h) (Or.inl ⟨by rfl, fun w' hSw => ?_⟩) (by assumption) ?_
        · ((try dsimp only at hSw); go_simp)
        try simp only [Act.put, List.setIfInBounds_toArray, List.set_cons_zero, List.set_cons_succ]
        refine wpAnyH_take (i := 2) (oi := { dst := some 47, op := _, type := _, pos := _, after := _, guard := _ }) (v := .slice A9 n9 c9) rfl (by kernel_rfl) (by kernel_rfl) (by kernel_rfl) (fun _ _ _ h => h) (Or.inl ⟨by rfl, fun w' hSw => ?_⟩) (by assumption) ?_
        · ((try dsimp only at hSw); go_simp)
        try simp only [Act.put, List.setIfInBounds_toArray, List.set_cons_zero, List.set_cons_succ]
        refine wpAnyH_take (i := 3) (oi := { dst := some 48, op := _, type := _, pos := _, after := _, guard := _ }) (v := .agg #[.int .i64 x.kind, .string x.p, .string x.dst, .int .i64 x.at_, .slice x.a1 x.old.length x.c1, .slice x.a2 x.new.length x.c2]) rfl (by kernel_rfl) (by kernel_rfl) (by kernel_rfl) (fun _ _ _ h => h) (Or.inl ⟨by rfl, fun w' hSw => ?_⟩) (by assumption) ?_
        · ((try dsimp only at hSw); go_simp)
        try simp only [Act.put, List.setIfInBounds_toArray, List.set_cons_zero, List.set_cons_succ]
        generalize hwD : wr.drew = wD at *
        clear hwD
        refine wpAnyH_ready (rs := [4]) (by kernel_rfl) (by simp) ?_
        refine AllReadyH.cons rfl (fun K hK => ?_) AllReadyH.nil
        have b0 := HB0.out.cell
        have bf := HB0.out.frozen
        go_simp
        refine hK.out _ _ HS1.out (fun hHeld4 => ?_)
        clear hK K hHeld b0 bf
        try simp only [Act.put, List.setIfInBounds_toArray, List.set_cons_zero, List.set_cons_succ]
        refine wpAnyH_take (i := 5) (oi := { dst := some 49, op := _, type := _, pos := _, after := _, guard := _ }) (v := .pointer (some ⟨w.heap.size + 3, i * 6, none⟩)) rfl (by kernel_rfl) (by kernel_rfl) (by kernel_rfl) (fun _ _ _ h => h) (Or.inl ⟨by rfl, fun w' hSw => ?_⟩) (by assumption) ?_
        · ((try dsimp only at hSw); go_simp)
        try simp only [Act.put, List.setIfInBounds_toArray, List.set_cons_zero, List.set_cons_succ]
        generalize hw1 : (wD.setCell ⟨w.heap.size, 0, none⟩ (.slice A9 n9 c9)) = wE at *
        clear hw1
        refine wpAnyH_ready (rs := [6]) (by kernel_rfl) (by simp) ?_
        refine AllReadyH.cons rfl (fun K hK => ?_) AllReadyH.nil
        obtain ⟨m0, m1, m2, m3, m4, m5⟩ := HME.out
        have mf0 := HOE.out.at0 (i * 6)
        have mf1 := HOE.out.at0 (i * 6 + 1)
        have mf2 := HOE.out.at0 (i * 6 + 2)
        have mf3 := HOE.out.at0 (i * 6 + 3)
        have mf4 := HOE.out.at0 (i * 6 + 4)
        have mf5 := HOE.out.at0 (i * 6 + 5)
        have HS6 := HS2.out
        unfold putPrim at HS6
        go_simp
        refine hK.out _ _ HS6 (fun hHeld6 => ?_)
        clear hK K hHeld4 m0 m1 m2 m3 m4 m5 mf0 mf1 mf2 mf3 mf4 mf5 HS6
        try simp only [Act.put, List.setIfInBounds_toArray, List.set_cons_zero, List.set_cons_succ]
        refine wpAnyH_done (by kernel_rfl) ?_ _
        simp only [onward]
        have HF := HFN.out
        unfold putPrim at HF
        gi_wp2
        exact ⟨HF.2.1, HF.2.2, HF.1⟩
  case done =>
    rintro D ys W hD hys hI hK
    have hfold := hI.e
    have hall : rowsP (pkeys l) (pkeys l0) = (0, (foldI (pkeys l) (pkeys l0) (ys.map fun x => x.1)).2.1, (foldI (pkeys l) (pkeys l0) (ys.map fun x => x.1)).2.2) := by
      refine fold_all (er := (foldI (pkeys l) (pkeys l0) (ys.map fun x => x.1)).1) ?_ hfold
      rw [pkeys_len, ← hys]
    have hlen : (ys.map fun x => x.1).length = l.length := by rw [hys]; simp
    obtain ⟨A1, n1, c1, rs, a1, a2, a4, _, _, a7⟩ := hI.a
    have hsD : w.heap.size + 5 ≤ D := by omega
    obtain ⟨o1, o2, o3, o4, o5, o6⟩ := out_chg a1 hI.b hI.c (.slice A1 n1 c1) (.slice (some ⟨w.heap.size + 3, 0, none⟩) l.length l.length) (.int .i64 0) D (.deferred none) hsD hK
    have HF := Lib.hid (hI.fin a2 a4 a7 o1 o2 _ hall l.length (fun h => by omega))
    have HRT : Hid (∀ fn : Func, fn.results = #[.cell 4 22, .cell 5 22, .cell 6 25] → ∀ tmps : Array Value, tmps.getD 4 undef = .pointer (some ⟨w.heap.size, 0, none⟩) → tmps.getD 5 undef = .pointer (some ⟨w.heap.size + 1, 0, none⟩) → tmps.getD 6 undef = .pointer (some ⟨w.heap.size + 2, 0, none⟩) → (results fn tmps).run Tryz.prog (((((W.drew.setCell ⟨w.heap.size, 0, none⟩ (.slice A1 n1 c1)).setCell ⟨w.heap.size + 1, 0, none⟩ (.slice (some ⟨w.heap.size + 3, 0, none⟩) l.length l.length)).setCell ⟨w.heap.size + 2, 0, none⟩ (.int .i64 0))).putObj D (.deferred none)) = .ok (.tuple #[.slice A1 n1 c1, .slice (some ⟨w.heap.size + 3, 0, none⟩) l.length l.length, .int .i64 0]) (((((W.drew.setCell ⟨w.heap.size, 0, none⟩ (.slice A1 n1 c1)).setCell ⟨w.heap.size + 1, 0, none⟩ (.slice (some ⟨w.heap.size + 3, 0, none⟩) l.length l.length)).setCell ⟨w.heap.size + 2, 0, none⟩ (.int .i64 0))).putObj D (.deferred none))) := fun fn h tmps h4 h5 h6 => ret_three h tmps _ _ _ _ _ _ _ h4 h5 h6 o4.cell o5.cell o6.cell
    obtain ⟨p0, p1, p2, q0, q1, q2, r0, r1, r2⟩ := Boxed.three (W := W.drew) a1 hI.b hI.c (.slice A1 n1 c1) (.slice (some ⟨w.heap.size + 3, 0, none⟩) l.length l.length) (.int .i64 0)
    have HX0 : Hid (Boxed W.drew w.heap.size 22 (.slice A1 n1 c1)) := a1
    have HX1 := Lib.hid p1
    have HX2 := Lib.hid q2
    have HS0 : Hid (W.drew.cell? ⟨w.heap.size, 0, none⟩ = some (.slice A1 n1 c1) ∧ W.drew.cell? ⟨w.heap.size + 1, 0, none⟩ = some (.slice (some ⟨w.heap.size + 3, 0, none⟩) l.length l.length)) := ⟨a1.cell, hI.b.cell⟩
    have HS1 : Hid _ := Lib.hid (⟨p0.cell, p1.cell⟩ : _ ∧ _)
    have HS2 : Hid _ := Lib.hid (⟨q0.cell, q1.cell⟩ : _ ∧ _)
    have HS3 : Hid _ := Lib.hid (⟨r0.cell, r1.cell⟩ : _ ∧ _)
    have HK3 := Lib.hid o3
    have hc := hI.c.cell
    clear hI hall hfold hys hlen a1 a2 a4 a7 o1 o2 o3 o4 o5 o6 p0 p1 p2 q0 q1 q2 r0 r1 r2 hK
    gi_wp2_with fail
    (first | refine wpIn_seq ?_ | skip)
    refine wpIn_region_out (by kernel_rfl) (fun w' => w'.cell? ⟨w.heap.size, 0, none⟩ = some (.slice A1 n1 c1) ∧ w'.cell? ⟨w.heap.size + 1, 0, none⟩ = some (.slice (some ⟨w.heap.size + 3, 0, none⟩) l.length l.length)) _ HS0.out (fun hHeld => ?_) (fun _ _ h => h)
    refine wpAnyH_take (i := 0) (oi := { dst := some 53, op := _, type := _, pos := _, after := _, guard := _ }) (v := .slice A1 n1 c1) rfl (by kernel_rfl) (by kernel_rfl) (by kernel_rfl) (fun _ _ _ h => h) (Or.inl ⟨by rfl, fun w' hSw => ?_⟩) (by assumption) ?_
    · ((try dsimp only at hSw); go_simp)
    try simp only [Act.put, List.setIfInBounds_toArray, List.set_cons_zero, List.set_cons_succ]
    refine wpAnyH_take (i := 1) (oi := { dst := some 54, op := _, type := _, pos := _, after := _, guard := _ }) (v := .slice (some ⟨w.heap.size + 3, 0, none⟩) l.length l.length) rfl (by kernel_rfl) (by kernel_rfl) (by kernel_rfl) (fun _ _ _ h => h) (Or.inl ⟨by rfl, fun w' hSw => ?_⟩) (by assumption) ?_
    · ((try dsimp only at hSw); go_simp)
    try simp only [Act.put, List.setIfInBounds_toArray, List.set_cons_zero, List.set_cons_succ]
    generalize hwD : W.drew = wD at *
    clear hwD
    refine wpAnyH_ready (rs := [2]) (by kernel_rfl) (by simp) ?_
    refine AllReadyH.cons rfl (fun K hKK => ?_) AllReadyH.nil
    have b0 := HX0.out.cell
    have bf := HX0.out.frozen
    go_simp
    refine hKK.out _ _ HS1.out (fun hHeld0_ => ?_)
    clear hKK K hHeld b0 bf
    try simp only [Act.put, List.setIfInBounds_toArray, List.set_cons_zero, List.set_cons_succ]
    refine wpAnyH_ready (rs := [3]) (by kernel_rfl) (by simp) ?_
    refine AllReadyH.cons rfl (fun K hKK => ?_) AllReadyH.nil
    have b0 := HX1.out.cell
    have bf := HX1.out.frozen
    go_simp
    refine hKK.out _ _ HS2.out (fun hHeld1_ => ?_)
    clear hKK K hHeld0_ b0 bf
    try simp only [Act.put, List.setIfInBounds_toArray, List.set_cons_zero, List.set_cons_succ]
    refine wpAnyH_ready (rs := [4]) (by kernel_rfl) (by simp) ?_
    refine AllReadyH.cons rfl (fun K hKK => ?_) AllReadyH.nil
    have b0 := HX2.out.cell
    have bf := HX2.out.frozen
    go_simp
    refine hKK.out _ _ HS3.out (fun hHeld2_ => ?_)
    clear hKK K hHeld1_ b0 bf
    try simp only [Act.put, List.setIfInBounds_toArray, List.set_cons_zero, List.set_cons_succ]
    refine wpAnyH_done (by kernel_rfl) ?_ _
    simp only [onward, Exit.then]
    gi_wp2
    refine ⟨by simp, .inl ⟨_, _, rfl, run_takeDeferred HK3.out, ?_⟩⟩
    exact ⟨_, HRT.out _ rfl _ rfl rfl rfl, HF.out⟩
  case stop =>
    rintro D c pre W hD ⟨k, hk, hpre⟩ ⟨rfl, hX⟩ hK
    obtain ⟨er, hert⟩ : ∃ er, (foldI (pkeys l) (pkeys l0) (pre.map fun x => x.1)).1 = er := ⟨_, rfl⟩
    have hXe := hX.e
    have hXc := hX.c
    rw [hert] at hXe hXc
    have hall : rowsP (pkeys l) (pkeys l0) = (er, [], []) := by
      refine fold_stop (k := k) (u := (foldI (pkeys l) (pkeys l0) (pre.map fun x => x.1)).2.1) (v := (foldI (pkeys l) (pkeys l0) (pre.map fun x => x.1)).2.2) (by rw [pkeys_len]; exact hk) ?_ hXe
      rw [pkeys_len, ← hpre, ← hert]
    obtain ⟨v0, v1, a1, b1⟩ := hX.h
    have hsD : w.heap.size + 5 ≤ D := by omega
    obtain ⟨o1, o2, o3, o4, o5, o6⟩ := out_chg a1 b1 hXc (.slice none 0 0) (.slice none 0 0) (.int .i64 er) D (.deferred none) hsD hK
    have HF : Hid (RowsT w l.length (rowsP (pkeys l) (pkeys l0)) (.returned (.tuple #[.slice none 0 0, .slice none 0 0, .int .i64 er])) (((((W.drew.setCell ⟨w.heap.size, 0, none⟩ (.slice none 0 0)).setCell ⟨w.heap.size + 1, 0, none⟩ (.slice none 0 0)).setCell ⟨w.heap.size + 2, 0, none⟩ (.int .i64 er))).putObj D (.deferred none))) := by
      show RowsT _ _ _ _ _
      rw [hall]
      exact ⟨none, 0, 0, [], none, 0, 0, [], er, rfl, ⟨RowW.nil _, RowW.nil _, rfl, fun _ z hz => by cases hz⟩, hX.f.trans (o1.below hX.f.size)⟩
    have HRT : Hid (∀ fn : Func, fn.results = #[.cell 4 22, .cell 5 22, .cell 6 25] → ∀ tmps : Array Value, tmps.getD 4 undef = .pointer (some ⟨w.heap.size, 0, none⟩) → tmps.getD 5 undef = .pointer (some ⟨w.heap.size + 1, 0, none⟩) → tmps.getD 6 undef = .pointer (some ⟨w.heap.size + 2, 0, none⟩) → (results fn tmps).run Tryz.prog (((((W.drew.setCell ⟨w.heap.size, 0, none⟩ (.slice none 0 0)).setCell ⟨w.heap.size + 1, 0, none⟩ (.slice none 0 0)).setCell ⟨w.heap.size + 2, 0, none⟩ (.int .i64 er))).putObj D (.deferred none)) = .ok (.tuple #[.slice none 0 0, .slice none 0 0, .int .i64 er]) (((((W.drew.setCell ⟨w.heap.size, 0, none⟩ (.slice none 0 0)).setCell ⟨w.heap.size + 1, 0, none⟩ (.slice none 0 0)).setCell ⟨w.heap.size + 2, 0, none⟩ (.int .i64 er))).putObj D (.deferred none))) := fun fn h tmps h4 h5 h6 => ret_three h tmps _ _ _ _ _ _ _ h4 h5 h6 o4.cell o5.cell o6.cell
    obtain ⟨p0, p1, p2, q0, q1, q2, r0, r1, r2⟩ := Boxed.three (W := W.drew) a1 b1 hXc (.slice none 0 0) (.slice none 0 0) (.int .i64 er)
    have HX0 : Hid (Boxed W.drew w.heap.size 22 v0) := a1
    have HX1 := Lib.hid p1
    have HX2 := Lib.hid q2
    have HS0 : Hid (W.drew.cell? ⟨w.heap.size + 2, 0, none⟩ = some (.int .i64 er)) := hXc.cell
    have HS1 := Lib.hid p2.cell
    have HS2 := Lib.hid q2.cell
    have HS3 := Lib.hid r2.cell
    have HK3 := Lib.hid o3
    have hc := hXc.cell
    have ke : (er != 0) = true := by simpa using hXe
    clear hX hall hXe hXc hpre a1 b1 o1 o2 o3 o4 o5 o6 p0 p1 p2 q0 q1 q2 r0 r1 r2 hK hert
    gi_wp2_with fail
    (first | refine wpIn_seq ?_ | skip)
    refine wpIn_region_out (by kernel_rfl) (fun w' => w'.cell? ⟨w.heap.size + 2, 0, none⟩ = some (.int .i64 er)) _ HS0.out (fun hHeld => ?_) (fun _ _ h => h)
    refine wpAnyH_take (i := 0) (oi := { dst := some 52, op := _, type := _, pos := _, after := _, guard := _ }) (v := .int .i64 er) rfl (by kernel_rfl) (by kernel_rfl) (by kernel_rfl) (fun _ _ _ h => h) (Or.inl ⟨by rfl, fun w' hSw => ?_⟩) (by assumption) ?_
    · ((try dsimp only at hSw); go_simp)
    try simp only [Act.put, List.setIfInBounds_toArray, List.set_cons_zero, List.set_cons_succ]
    generalize hwD : W.drew = wD at *
    clear hwD
    refine wpAnyH_ready (rs := [1]) (by kernel_rfl) (by simp) ?_
    refine AllReadyH.cons rfl (fun K hKK => ?_) AllReadyH.nil
    have b0 := HX0.out.cell
    have bf := HX0.out.frozen
    go_simp
    refine hKK.out _ _ HS1.out (fun hHeld0_ => ?_)
    clear hKK K hHeld b0 bf
    try simp only [Act.put, List.setIfInBounds_toArray, List.set_cons_zero, List.set_cons_succ]
    refine wpAnyH_ready (rs := [2]) (by kernel_rfl) (by simp) ?_
    refine AllReadyH.cons rfl (fun K hKK => ?_) AllReadyH.nil
    have b0 := HX1.out.cell
    have bf := HX1.out.frozen
    go_simp
    refine hKK.out _ _ HS2.out (fun hHeld1_ => ?_)
    clear hKK K hHeld0_ b0 bf
    try simp only [Act.put, List.setIfInBounds_toArray, List.set_cons_zero, List.set_cons_succ]
    refine wpAnyH_ready (rs := [3]) (by kernel_rfl) (by simp) ?_
    refine AllReadyH.cons rfl (fun K hKK => ?_) AllReadyH.nil
    have b0 := HX2.out.cell
    have bf := HX2.out.frozen
    go_simp
    refine hKK.out _ _ HS3.out (fun hHeld2_ => ?_)
    clear hKK K hHeld1_ b0 bf
    try simp only [Act.put, List.setIfInBounds_toArray, List.set_cons_zero, List.set_cons_succ]
    refine wpAnyH_done (by kernel_rfl) ?_ _
    simp only [onward, Exit.then]
    gi_wp2
    refine ⟨by simp, .inl ⟨_, _, rfl, run_takeDeferred HK3.out, ?_⟩⟩
    exact ⟨_, HRT.out _ rfl _ rfl rfl rfl, HF.out⟩
end Go.Proofs.YtalabahjfmcnbaaGreatDoor
