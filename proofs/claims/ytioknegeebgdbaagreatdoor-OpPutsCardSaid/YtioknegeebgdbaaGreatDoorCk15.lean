/- The library's sort of records in a block of their own: what its worlds leave there. cmp.Or of two numbers. Package ident's order, Less: strings.Compare, cmp.Compare, cmp.Or. Runs of one id cut to one, plainly: of ids in order it is the set. The library's SortFunc of ids over package ident's order. -/
import Derived.Shelf.GgSortFunc.InsertionK
import Derived.Test.YtioknegeebgdbaaGreatDoorShelf
import Derived.Deep.RegionHeld3
import Derived.Handy
import Derived.Test.YtioknegeebgdbaaGreatDoorShelf2
import Derived.Shelf.SlSortCmp.WholeK
import Derived.Test.YtioknegeebgdbaaGreatDoorCk07
namespace Go.Proofs.YtioknegeebgdbaaGreatDoor
open Go.RowKit
set_option linter.unusedVariables false

namespace Rk
theorem put_size (c : Array Value) (off : Nat) (F : Array Value) : (Sort.putCells id off F c).size = c.size := by simp [Sort.putCells]
theorem enc_get {α : Type} (R : Rk α) (x : α) {r : Nat} (hr : r < R.k) : (R.enc x)[r]? = some (R.enc x)[r]! := by
  have h : r < (R.enc x).length := by rw [R.len]; exact hr
  rw [List.getElem?_eq_getElem h, getElem!_pos (R.enc x) r h]
variable {α : Type} [Inhabited α] (R : Rk α)
theorem flat_take (d : Array α) (cur : Array Value) (h : d.size * R.k ≤ cur.size) : (Sort.putCells id 0 (Sort.flatK R.enc R.k d) cur).toList.take (d.size * R.k) = R.cells d.toList := by
  refine List.ext_getElem? fun t => ?_
  by_cases ht : t < d.size * R.k
  · rw [List.getElem?_take, if_pos ht, Array.getElem?_toList]
    simp only [Sort.putCells, Array.getElem?_mapIdx]
    rw [Array.getElem?_eq_getElem (by omega), Option.map_some, if_pos ⟨Nat.zero_le _, by simpa using ht⟩, Nat.sub_zero, Sort.get_flatK _ _ _ _ ht]
    obtain ⟨j, r, hj, hr, rfl⟩ := R.at_place d.toList (by simpa using ht)
    rw [R.cells_get _ j hj r hr, Nat.add_comm, Nat.add_mul_mod_self_right, Nat.mod_eq_of_lt hr, Nat.add_mul_div_right _ _ R.pos, Nat.div_eq_of_lt hr, Nat.zero_add, getElem!_pos d j (by simpa using hj), Array.getElem_toList, R.enc_get _ hr]
    rfl
  · rw [List.getElem?_take, if_neg ht, List.getElem?_eq_none (by rw [R.cells_len]; simpa using ht)]
variable {R} {w : World} {g cap : Nat} {l : List α}
theorem Blk.holdsK (k : R.Blk w g cap l) : Sort.HoldsK R.enc R.k w g 0 l.toArray := by
  intro t ht
  rw [Sort.size_flatK] at ht
  refine ⟨?_, k.fz _⟩
  obtain ⟨j, r, hj, hr, rfl⟩ := R.at_place l (by simpa using ht)
  have hc := k.cell hj (R.enc_get _ hr)
  rw [Sort.get_flatK _ _ _ _ ht, Nat.zero_add, Nat.add_comm, Nat.add_mul_mod_self_right, Nat.mod_eq_of_lt hr, Nat.add_mul_div_right _ _ R.pos, Nat.div_eq_of_lt hr, Nat.zero_add, getElem!_pos l.toArray j (by simpa using hj), Nat.add_comm]
  rw [hc]
  simp
theorem sortWorld_block (w : World) (g n : Nat) (d : Array α) (os : Array Obj) {cur : Array Value} {t : TypeId} {fz : Nat × Nat} (h : w.heap[g]? = some (.cells cur t fz)) :
    (sortWorldK R.enc R.k w g 0 n d os).heap[g]? = some (.cells (Sort.putCells id 0 (Sort.flatK R.enc R.k d) cur) t fz) := by
  have hlt : g < w.heap.size := (Array.getElem?_eq_some_iff.1 h).1
  unfold sortWorldK Sort.grow Sort.putRowK Sort.putRow Sort.mapBlock Sort.ahead
  simp only
  rw [Array.getElem?_append_left (by simpa using hlt), Array.getElem?_modify, if_pos rfl, h]
  rfl
theorem sortWorld_grown (w : World) (g n : Nat) (d : Array α) (os : Array Obj) : w.grownBy (sortWorldK R.enc R.k w g 0 n d os) (some g) := by
  refine ⟨rfl, rfl, rfl, ?_, fun k hk hne => ?_⟩
  · unfold sortWorldK Sort.grow Sort.putRowK Sort.putRow Sort.mapBlock Sort.ahead
    simp
  · have h : g ≠ k := fun e => hne (by simp [e])
    unfold sortWorldK Sort.grow Sort.putRowK Sort.putRow Sort.mapBlock Sort.ahead
    simp only
    rw [Array.getElem?_append_left (by simpa using hk), Array.getElem?_modify, if_neg h]
theorem Blk.sorted (k : R.Blk w g cap l) (n : Nat) (d : Array α) (os : Array Obj) (hd : d.size = l.length) : R.Blk (sortWorldK R.enc R.k w g 0 n d os) g cap d.toList := by
  obtain ⟨cur, h1, h2, h3⟩ := k.h
  have hcap := k.len
  refine ⟨⟨_, sortWorld_block w g n d os h1, by rw [put_size]; exact h2, ?_⟩, by simpa [hd] using k.len, k.max⟩
  rw [Array.length_toList]
  exact R.flat_take d cur (by rw [h2, hd]; exact Nat.mul_le_mul_right _ hcap)
end Rk
end Go.Proofs.YtioknegeebgdbaaGreatDoor
namespace Go.Proofs.YtioknegeebgdbaaGreatDoor
open Go.RowKit
set_option linter.unusedVariables false

set_option maxHeartbeats 1000000 in
set_option maxRecDepth 100000 in
theorem or_w (b : Nat) (x y z : Int) (w : World) (h0 : w.cell? ⟨b, 0, none⟩ = some (.int .i64 x)) (h1 : w.cell? ⟨b, 1, none⟩ = some (.int .i64 y)) (hz : z = if x = 0 then y else x) :
    Calls Tryz.prog 86 #[.slice (some ⟨b, 0, none⟩) 2 2] w fun e w' => e = .returned (.int .i64 z) ∧ w = w' := by
  go_enter Tryz.func86, Tryz.ntmps86
  go_wp2
  go_loopw [8] (fun i wr => ∃ k : Nat, k ≤ 2 ∧ i = .int .i64 (k : Int) ∧ Hid ((1 ≤ k → x = 0) ∧ (2 ≤ k → y = 0)) ∧ wr = w) (fun i _ => 2 - (intOf i).toNat)
  case atStart => exact ⟨0, by omega, rfl, ⟨fun h => by omega, fun h => by omega⟩, rfl⟩
  case round =>
    obtain ⟨k, hk, rfl, hxy, rfl⟩ := hrel
    have hk3 : k = 0 ∨ k = 1 ∨ k = 2 := by omega
    rcases hk3 with rfl | rfl | rfl
    · by_cases hx : x = 0
      · subst hx
        clear hz h1 hxy
        go_wp2
        go_roundw
        case rel => exact ⟨1, by omega, by go_num, ⟨fun _ => by first | rfl | trivial, fun h => by omega⟩, by first | rfl | trivial⟩
        case measure => simp [intOf] <;> omega
      · have e : z = x := by rw [hz, if_neg hx]
        subst e
        have hb : (z == 0) = false := by simpa using hx
        have hb2 : (z != 0) = true := by simpa using hx
        clear hz h1 hxy
        go_wp2
        go_ret
        exact ⟨rfl, rfl⟩
    · have hx := hxy.out.1 (by omega)
      have e : z = y := by rw [hz, if_pos hx]
      subst e
      by_cases hy : z = 0
      · subst hy
        clear hz h0 hxy
        go_wp2
        go_roundw
        case rel => exact ⟨2, by omega, by go_num, ⟨fun _ => hx, fun h => by first | rfl | trivial⟩, by first | rfl | trivial⟩
        case measure => simp [intOf] <;> omega
      · have hb : (z == 0) = false := by simpa using hy
        have hb2 : (z != 0) = true := by simpa using hy
        clear hz h0 hxy
        go_wp2
        go_ret
        exact ⟨rfl, rfl⟩
    · have hx := hxy.out.1 (by omega)
      have hy := hxy.out.2 (by omega)
      have e : z = 0 := by rw [hz, if_pos hx, hy]
      subst e
      clear hz h0 h1 hxy
      go_wp2
      go_ret
      exact ⟨rfl, rfl⟩

end Go.Proofs.YtioknegeebgdbaaGreatDoor
namespace Go.Proofs.YtioknegeebgdbaaGreatDoor
open Go.RowKit
set_option linter.unusedVariables false

theorem strcompare_w (s t : ByteArray) (c : Int) (hc : Lib.compareBytes s.data.toList t.data.toList = c) (w : World) :
    Calls Tryz.prog 87 #[.string s, .string t] w fun e w' => e = .returned (.int .i64 c) ∧ w = w' := by
  have h := Tryz.strings_Compare s t w
  rw [hc] at h
  exact h.mono fun e w' ⟨he, hw⟩ => ⟨he, hw.symm⟩
def cmpZ (a b : Int) : Int := if a < b then -1 else if a = b then 0 else 1
theorem nan_int (a : Int) (w : World) : Calls Tryz.prog 108 #[.int .i64 a] w fun e w' => e = .returned (.bool false) ∧ w = w' := by
  have h1 : (a == a) = true := by simp
  go_enter Tryz.func108, Tryz.ntmps108
  go_wp2
  go_ret
  exact ⟨rfl, rfl⟩
set_option maxHeartbeats 1000000 in
set_option maxRecDepth 100000 in
theorem cmpint_any (a b : Int) (c : Int) (hc : cmpZ a b = c) (w : World) :
    Calls Tryz.prog 88 #[.int .i64 a, .int .i64 b] w fun e w' => e = .returned (.int .i64 c) ∧ w = w' := by
  have HN := Lib.hid (fun a w => nan_int a w)
  rcases Int.lt_trichotomy a b with h | h | h
  · have e : c = -1 := by rw [← hc]; unfold cmpZ; rw [if_pos h]
    subst e
    clear hc
    go_enter Tryz.func88, Tryz.ntmps88
    go_wp2_with fail
    refine (HN.out _ _).mono ?_
    rintro e w1 ⟨rfl, rfl⟩
    go_wp2_with fail
    refine (HN.out _ _).mono ?_
    rintro e w1 ⟨rfl, rfl⟩
    go_wp2
    go_ret
    exact ⟨rfl, rfl⟩
  · subst h
    have e : c = 0 := by rw [← hc]; unfold cmpZ; rw [if_neg (by omega), if_pos rfl]
    subst e
    have h1 : ¬ a < a := by omega
    have h2 : ¬ a > a := by omega
    clear hc
    go_enter Tryz.func88, Tryz.ntmps88
    go_wp2_with fail
    refine (HN.out _ _).mono ?_
    rintro e w1 ⟨rfl, rfl⟩
    go_wp2_with fail
    refine (HN.out _ _).mono ?_
    rintro e w1 ⟨rfl, rfl⟩
    go_wp2
    go_ret
    exact ⟨rfl, rfl⟩
  · have e : c = 1 := by rw [← hc]; unfold cmpZ; rw [if_neg (by omega), if_neg (by omega)]
    subst e
    have h1 : ¬ a < b := by omega
    have h2 : a > b := h
    clear hc
    go_enter Tryz.func88, Tryz.ntmps88
    go_wp2_with fail
    refine (HN.out _ _).mono ?_
    rintro e w1 ⟨rfl, rfl⟩
    go_wp2_with fail
    refine (HN.out _ _).mono ?_
    rintro e w1 ⟨rfl, rfl⟩
    go_wp2
    go_ret
    exact ⟨rfl, rfl⟩
theorem cmpbytes_lt : ∀ (a b : List UInt8), Lib.compareBytes a b < 0 ↔ a < b
  | [], [] => by simp [Lib.compareBytes]
  | [], _ :: _ => by simp [Lib.compareBytes]
  | _ :: _, [] => by simp [Lib.compareBytes]
  | a :: l, b :: m => by
    have ih := cmpbytes_lt l m
    unfold Lib.compareBytes
    rw [List.cons_lt_cons_iff]
    by_cases h : a < b
    · simp [h]
    · by_cases k : b < a
      · have : a ≠ b := by rintro rfl; exact h k
        simp [h, k, this]
      · have : a = b := UInt8.le_antisymm (UInt8.not_lt.1 k) (UInt8.not_lt.1 h)
        simp [this, ih]
theorem cmpbytes_eq : ∀ (a b : List UInt8), Lib.compareBytes a b = 0 ↔ a = b
  | [], [] => by simp [Lib.compareBytes]
  | [], _ :: _ => by simp [Lib.compareBytes]
  | _ :: _, [] => by simp [Lib.compareBytes]
  | a :: l, b :: m => by
    have ih := cmpbytes_eq l m
    unfold Lib.compareBytes
    rw [List.cons.injEq]
    by_cases h : a < b
    · have : a ≠ b := by rintro rfl; exact UInt8.lt_irrefl _ h
      simp [h, this]
    · by_cases k : b < a
      · have : a ≠ b := by rintro rfl; exact h k
        simp [h, k, this]
      · have : a = b := UInt8.le_antisymm (UInt8.not_lt.1 k) (UInt8.not_lt.1 h)
        simp [this, ih]
/-- What order tells. -/
def ordI (x y : Im) : Int := if Lib.compareBytes x.p.data.toList y.p.data.toList = 0 then cmpZ x.n y.n else Lib.compareBytes x.p.data.toList y.p.data.toList
theorem cmpZ_lt (a b : Int) : cmpZ a b < 0 ↔ a < b := by
  unfold cmpZ
  split
  · simp [*]
  · split <;> simp <;> omega
theorem ordI_lt (x y : Im) : ordI x y < 0 ↔ ltI x.key y.key := by
  unfold ordI ltI Im.key
  by_cases h : Lib.compareBytes x.p.data.toList y.p.data.toList = 0
  · rw [if_pos h, cmpZ_lt]
    have e := (cmpbytes_eq _ _).1 h
    exact ⟨fun k => .inr ⟨e, k⟩, fun k => k.elim (fun k => absurd (e ▸ k) (t_irrefl _)) fun k => k.2⟩
  · rw [if_neg h, cmpbytes_lt]
    have e := fun k => h ((cmpbytes_eq _ _).2 k)
    exact ⟨.inl, fun k => k.elim id fun k => absurd k.1 e⟩
set_option maxHeartbeats 4000000 in
set_option maxRecDepth 100000 in
theorem order_any (x y : Im) (w : World) :
    Calls Tryz.prog 66 #[x.val, y.val] w fun e w' => e = .returned (.int .i64 (ordI x y)) ∧ Bd w w' := by
  obtain ⟨hb, hx, hy⟩ := id_box2 w x y
  have hd : Bd w ((w.alloc (.cells #[.string x.p, .int .i64 x.n] 23)).alloc (.cells #[.string y.p, .int .i64 y.n] 23)) := ((Bd.refl w).alloc _).alloc _
  unfold Im.val
  have HD := Lib.hid hd
  have HX := Lib.hid hx
  have HY := Lib.hid hy
  obtain ⟨c, hc⟩ : ∃ c, Lib.compareBytes x.p.data.toList y.p.data.toList = c := ⟨_, rfl⟩
  obtain ⟨d, hdd⟩ : ∃ d, cmpZ x.n y.n = d := ⟨_, rfl⟩
  have CS := Lib.hid (fun W => strcompare_w x.p y.p c hc W)
  have CI := Lib.hid (fun W => cmpint_any x.n y.n d hdd W)
  have hz : ordI x y = if c = 0 then d else c := by unfold ordI; rw [hc, hdd]
  have HZ := Lib.hid hz
  clear hb hx hy hd hc hdd hz
  generalize ordI x y = z at *
  go_enter Tryz.func66, Tryz.ntmps66
  go_wp2_with fail
  generalize ((w.alloc (.cells #[.string x.p, .int .i64 x.n] 23)).alloc (.cells #[.string y.p, .int .i64 y.n] 23)) = wb at *
  generalize hg : w.heap.size = g at HX HY
  have x0 := id_c0 HX.out
  have x1 := id_c1 HX.out
  have y0 := id_c0 HY.out
  have y1 := id_c1 HY.out
  have CO := Lib.hid (fun (W : World) => or_w W.heap.size c d z (W.alloc (.cells #[.int .i64 c, .int .i64 d] 3)).drew (by show (W.alloc _).cell? _ = _; rw [World.cell?_alloc_new]; rfl) (by show (W.alloc _).cell? _ = _; rw [World.cell?_alloc_new]; rfl) HZ.out)
  go_region_held3 (fun w' => w'.cell? ⟨g, 0, none⟩ = some (.string x.p) ∧ w'.cell? ⟨g, 1, none⟩ = some (.int .i64 x.n) ∧ w'.cell? ⟨g + 1, 0, none⟩ = some (.string y.p) ∧ w'.cell? ⟨g + 1, 1, none⟩ = some (.int .i64 y.n)) (first | exact ⟨x0, x1, y0, y1⟩ | (go_keep; done)) (first
    | (go_at_call 87; refine (CS.out _).mono ?_; rintro e w7 ⟨rfl, rfl⟩)
    | (go_at_call 88; refine (CI.out _).mono ?_; rintro e w7 ⟨rfl, rfl⟩)
    | (go_at_call 86; refine (CO.out _).mono ?_; rintro e w7 ⟨rfl, rfl⟩))
  all_goals
    go_wp2
    go_ret
    exact ⟨rfl, (HD.out.alloc _).drew⟩
end Go.Proofs.YtioknegeebgdbaaGreatDoor
namespace Go.Proofs.YtioknegeebgdbaaGreatDoor
open Go.RowKit
set_option linter.unusedVariables false

/-- Ids, of each run of one the first alone. -/
def compI (l : List Im) : List Im := l.foldl (fun a x => if a.getLast? = some x then a else a ++ [x]) []
theorem compI_snoc (l : List Im) (x : Im) : compI (l ++ [x]) = if (compI l).getLast? = some x then compI l else compI l ++ [x] := by
  unfold compI
  rw [List.foldl_append]
  rfl
theorem snoc_ind {p : List Im → Prop} (h0 : p []) (h : ∀ l x, p l → p (l ++ [x])) (l : List Im) : p l := by
  have key : ∀ n (l : List Im), l.length = n → p l := by
    intro n
    induction n with
    | zero => intro l hl; rw [List.length_eq_zero_iff.1 hl]; exact h0
    | succ n ih =>
      intro l hl
      have e := List.dropLast_concat_getLast (l := l) (by intro e; rw [e] at hl; simp at hl)
      rw [← e]
      exact h _ _ (ih _ (by rw [List.length_dropLast]; omega))
  exact key _ l rfl
theorem compI_last : ∀ l, (compI l).getLast? = l.getLast? := by
  refine snoc_ind rfl fun l x ih => ?_
  rw [compI_snoc]
  split
  · rename_i h
    rw [h, List.getLast?_concat]
  · rw [List.getLast?_concat, List.getLast?_concat]
theorem compI_mem (z : Im) : ∀ l, z ∈ compI l ↔ z ∈ l := by
  refine snoc_ind (by simp [compI]) fun l x ih => ?_
  rw [compI_snoc]
  split
  · rename_i h
    rw [ih, List.mem_append, List.mem_singleton]
    refine ⟨.inl, fun k => k.elim id ?_⟩
    rintro rfl
    rw [← ih]
    exact List.mem_of_getLast? h
  · rw [List.mem_append, List.mem_append, ih]
/-- None is ahead of one before it. -/
def WeakI (l : List Im) : Prop := l.Pairwise fun x y => ¬ ltI y.key x.key
theorem compI_rise : ∀ l, WeakI l → RiseI (ikeys (compI l)) := by
  refine snoc_ind (fun _ => List.Pairwise.nil) fun l x ih hw => ?_
  unfold WeakI at hw
  rw [List.pairwise_append] at hw
  obtain ⟨h1, _, h3⟩ := hw
  have hr := ih h1
  rw [compI_snoc]
  split
  · exact hr
  · rename_i hne
    unfold ikeys
    rw [List.map_append]
    refine List.pairwise_append.2 ⟨hr, by simp, fun a ha b hb => ?_⟩
    obtain rfl : b = x.key := by simpa using hb
    obtain ⟨z, hz, rfl⟩ := List.mem_map.1 ha
    have hzl := (compI_mem z l).1 hz
    refine i_tri (h3 z hzl x (by simp)) fun e => ?_
    obtain rfl : x = z := Im.key_inj e
    refine hne ?_
    obtain ⟨y, hy⟩ : ∃ y, (compI l).getLast? = some y := by
      cases h : (compI l).getLast? with
      | none => rw [List.getLast?_eq_none_iff] at h; rw [h] at hz; cases hz
      | some y => exact ⟨y, rfl⟩
    rw [hy]
    have hyl : y ∈ l := (compI_mem y l).1 (List.mem_of_getLast? hy)
    by_cases e : y = x
    · rw [e]
    · exfalso
      obtain ⟨s, e2⟩ := List.getLast?_eq_some_iff.1 hy
      have hr2 := hr
      unfold RiseI ikeys at hr2
      rw [e2, List.map_append, List.pairwise_append] at hr2
      rw [e2, List.mem_append, List.mem_singleton] at hz
      rcases hz with hz | hz
      · exact h3 y hyl x (by simp) (hr2.2.2 x.key (List.mem_map.2 ⟨x, hz, rfl⟩) y.key (by simp))
      · exact e hz.symm
/-- In order, and each run cut to one: the set. -/
theorem compI_set {gs l : List Im} (hp : gs.Perm l) (hw : WeakI gs) : ikeys (compI gs) = setI (ikeys l) :=
  rise_ext (compI_rise gs hw) (rise_setI _) fun z => by
    rw [mem_setI]
    unfold ikeys
    simp only [List.mem_map]
    constructor
    · rintro ⟨x, hx, rfl⟩
      exact ⟨x, hp.mem_iff.1 ((compI_mem x gs).1 hx), rfl⟩
    · rintro ⟨x, hx, rfl⟩
      exact ⟨x, (compI_mem x gs).2 (hp.mem_iff.2 hx), rfl⟩
theorem compI_succ (l : List Im) (p : Nat) (h1 : 1 ≤ p) (h : p < l.length) : compI (l.take (p + 1)) = if l[p] = l[p - 1] then compI (l.take p) else compI (l.take p) ++ [l[p]] := by
  rw [List.take_succ_eq_append_getElem h, compI_snoc, compI_last]
  have e : (l.take p).getLast? = some l[p - 1] := by
    rw [List.getLast?_eq_getElem?, List.length_take, Nat.min_eq_left (by omega), List.getElem?_take, if_pos (by omega), List.getElem?_eq_getElem]
  rw [e]
  by_cases k : l[p] = l[p - 1]
  · rw [if_pos k, if_pos (by rw [k])]
  · rw [if_neg k, if_neg (fun q => k (by simpa using q.symm))]
theorem compI_all (l : List Im) (p : Nat) (hp : p ≤ l.length) (h : ∀ j (hj : j < l.length), 1 ≤ j → j < p → l[j] ≠ l[j - 1]) : compI (l.take p) = l.take p := by
  induction p with
  | zero => simp [compI]
  | succ p ih =>
    have ih := ih (by omega) fun j hj h1 h2 => h j hj h1 (by omega)
    by_cases h0 : p = 0
    · subst h0
      cases l with
      | nil => simp [compI]
      | cons x r => rfl
    · rw [compI_succ l p (by omega) (by omega), if_neg (h p (by omega) (by omega) (by omega)), ih, List.take_succ_eq_append_getElem (by omega)]
/-- The row as it is rewritten: k ids are kept of the first p, from p - 1 on all is as it was. -/
structure MidI (l d : List Im) (k p : Nat) : Prop where
  len : d.length = l.length
  kp : k + 1 ≤ p
  pn : p ≤ l.length
  low : d.take k = compI (l.take p)
  high : ∀ t (h : t < d.length) (h2 : t < l.length), p ≤ t + 1 → d[t] = l[t]
theorem MidI.start {l : List Im} {k : Nat} (h1 : 1 ≤ k) (hk : k < l.length) (he : l[k] = l[k - 1]) (hn : ∀ j (hj : j < l.length), 1 ≤ j → j < k → l[j] ≠ l[j - 1]) : MidI l l k (k + 1) :=
  ⟨rfl, by omega, by omega, by rw [compI_succ l k h1 hk, if_pos he, compI_all l k (by omega) hn], fun _ _ _ _ => rfl⟩
theorem MidI.skip {l d : List Im} {k p : Nat} (m : MidI l d k p) (hp : p < l.length) (he : l[p] = l[p - 1]) : MidI l d k (p + 1) :=
  ⟨m.len, by have := m.kp; omega, by omega, by rw [compI_succ l p (by have := m.kp; omega) hp, if_pos he]; exact m.low, fun t h h2 h3 => m.high t h h2 (by omega)⟩
theorem MidI.keep {l d : List Im} {k p : Nat} (m : MidI l d k p) (hp : p < l.length) (he : l[p] ≠ l[p - 1]) : MidI l (d.set k l[p]) (k + 1) (p + 1) := by
  have hk := m.kp
  have hl := m.len
  refine ⟨by rw [List.length_set]; exact m.len, by omega, by omega, ?_, fun t h h2 h3 => ?_⟩
  · rw [compI_succ l p (by omega) hp, if_neg he, ← m.low, List.take_succ_eq_append_getElem (by rw [List.length_set]; omega), List.getElem_set_self, List.take_set_of_le (Nat.le_refl _)]
  · rw [List.getElem_set_ne (by omega)]
    rw [List.length_set] at h
    exact m.high t h h2 (by omega)
end Go.Proofs.YtioknegeebgdbaaGreatDoor
namespace Go.Proofs.YtioknegeebgdbaaGreatDoor
open Go.RowKit
set_option linter.unusedVariables false

instance : Inhabited Im := ⟨⟨⟨#[]⟩, 0⟩⟩
theorem lt_ord (x y : Im) : ltOf ordI x y = decide (ltI x.key y.key) := by
  unfold ltOf
  exact decide_eq_decide.2 (ordI_lt x y)
theorem swoI : Sort.SWO (ltOf ordI) where
  irrefl x := by rw [lt_ord]; exact decide_eq_false (i_irrefl _)
  trans x y z h1 h2 := by
    rw [lt_ord, decide_eq_true_eq] at *
    exact i_trans h1 h2
  ntrans x y z h1 h2 := by
    rw [lt_ord, decide_eq_false_iff_not] at *
    intro h
    by_cases e : x.key = y.key
    · rw [e] at h
      exact h2 h
    · exact h2 (i_trans (i_tri h1 e) h)
theorem cmpLaysI (blk off size : Nat) (w : World) : CmpLays Tryz.prog 66 #[] idR.enc 2 ordI blk off size w := fun m os dk hs x y => by
  refine (order_any x y _).mono ?_
  rintro e w' ⟨rfl, hb⟩
  exact ⟨rfl, hb.grow⟩
theorem isort_any (g cap : Nat) (l : List Im) (w : World) (hr : idR.Blk w g cap l) (hn : l.length ≤ 100000) :
    Calls Tryz.prog 65 #[.slice (some ⟨g, 0, none⟩) l.length cap, .func (.func 66) #[] #[]] w fun e w' => e = .returned (.tuple #[]) ∧ ∃ gs, gs.Perm l ∧ WeakI gs ∧ gs.length = l.length ∧ idR.Blk w' g cap gs ∧ w.grownBy w' (some g) := by
  have eg : ∀ args w, (callFunc 66 args).run Tryz.prog w = .ok (.enter 66 args) w := enters_of Tryz.func66 (by kernel_rfl) rfl
  have hcon := AnyQ.slices_SortFunc Tryz.laysSortId 2 Tryz.isAgg23 Tryz.sizeOf23 idR.enc idR.len idR.one ordI swoI 66 #[] g 0 cap l.toArray w eg (cmpLaysI g 0 l.toArray.size w) hr.holdsK hr.lt (by simp; omega)
  rw [List.size_toArray] at hcon
  change Calls Tryz.prog 65 _ _ _ at hcon
  refine hcon.mono ?_
  rintro e w' ⟨rfl, d', n, os, hp, hs, rfl⟩
  have hsz : d'.size = l.length := by have h := hp.1; simpa using h
  refine ⟨rfl, d'.toList, ?_, ?_, by simpa using hsz, hr.sorted n d' os hsz, Rk.sortWorld_grown w g n d' os⟩
  · have h := hp.2.2
    have e1 : d'.extract 0 l.length = d' := by rw [← hsz]; simp
    have e2 : l.toArray.extract 0 l.length = l.toArray := by rw [show l.length = l.toArray.size by simp]; simp
    rw [e1, e2] at h
    simpa using h
  · unfold WeakI
    rw [List.pairwise_iff_getElem]
    intro i j hi hj hij
    simp only [Array.length_toList] at hi hj
    have h := hs i j (Nat.zero_le _) hij (by omega)
    rw [getElem!_pos d' j hj, getElem!_pos d' i hi, lt_ord, decide_eq_false_iff_not] at h
    simpa using h
set_option maxHeartbeats 2000000 in
set_option maxRecDepth 100000 in
theorem iinsort_nil (p : Option Addr) (cap : Nat) (fv : Value) (w : World) :
    Calls Tryz.prog 97 #[.slice p 0 cap, .int .i64 0, .int .i64 0, fv] w fun e w' => e = .returned (.tuple #[]) ∧ w' = w := by
  go_enter Tryz.func97, Tryz.ntmps97
  go_wp2
  refine wp_loop_rounds 1 ?_
  rw [rounds_succ]
  go_wp2
  go_end0
  exact ⟨rfl, rfl⟩
set_option maxHeartbeats 2000000 in
set_option maxRecDepth 100000 in
theorem ipdq_nil (p : Option Addr) (cap : Nat) (lim : Int) (fv : Value) (w : World) :
    Calls Tryz.prog 84 #[.slice p 0 cap, .int .i64 0, .int .i64 0, .int .i64 lim, fv] w fun e w' => e = .returned (.tuple #[]) ∧ w' = w := by
  go_enter Tryz.func84, Tryz.ntmps84
  go_wp2
  refine wp_loop_rounds 1 ?_
  rw [rounds_succ]
  go_wp2_with fail
  refine (iinsort_nil _ _ _ _).mono ?_
  rintro e w' ⟨rfl, h⟩
  subst h
  go_wp2
  (try simp only [Exit.inBlock, Exit.then])
  refine bodyPost_ret (results_none rfl _ _ _) rfl ?_
  exact ⟨rfl, rfl⟩
set_option maxHeartbeats 2000000 in
set_option maxRecDepth 100000 in
/-- At no id the sort turns nothing. -/
theorem isort_nil (p : Option Addr) (cap : Nat) (fv : Value) (w : World) :
    Calls Tryz.prog 65 #[.slice p 0 cap, fv] w fun e w' => e = .returned (.tuple #[]) ∧ w' = w := by
  have hl : ∀ W, Calls Tryz.prog 85 #[.int .u64 0] W fun e w' => e = .returned (.int .i64 (Lib.bitLen 0 : Nat)) ∧ w' = W := fun W => by
    have h := Any.bits_Len (SlLaysF0.n15.bits (P := Tryz.prog) { Tryz.laysSortId with }) 0 W (by omega) (by omega)
    exact h
  go_enter Tryz.func65, Tryz.ntmps65
  go_wp2_with fail
  refine (hl _).mono ?_
  rintro e w' ⟨rfl, h⟩
  subst h
  go_wp2_with fail
  refine (ipdq_nil _ _ _ _ _).mono ?_
  rintro e w' ⟨rfl, h⟩
  subst h
  go_wp2
  go_end0
  exact ⟨rfl, rfl⟩
end Go.Proofs.YtioknegeebgdbaaGreatDoor
