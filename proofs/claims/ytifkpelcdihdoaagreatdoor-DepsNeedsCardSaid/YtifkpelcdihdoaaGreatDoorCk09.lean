/- Runs of one id cut to one, plainly: of ids in order it is the set. The library's SortFunc of ids over package ident's order. The library's Compact of ids. The library's Clone of ids. Package ident's Set. -/
import Derived.Test.YtifkpelcdihdoaaGreatDoorShelf2
import Derived.Shelf.SlSortCmp.WholeK
import Derived.Lib.SliceRun
import Derived.Laws.IdiomCopy
import Derived.BigQuiet
import Derived.Deep.QuietTactic
import Derived.Test.YtifkpelcdihdoaaGreatDoorCk08
namespace Go.Proofs.YtifkpelcdihdoaaGreatDoor
open Go.RowKit
set_option linter.unusedVariables false

/-- Ids, of each run of one the first alone. -/
def compI (l : List Im) : List Im := l.foldl (fun a x => if a.getLast? = some x then a else a ++ [x]) []
theorem compI_snoc (l : List Im) (x : Im) : compI (l ++ [x]) = if (compI l).getLast? = some x then compI l else compI l ++ [x] := by
  unfold compI
  rw [List.foldl_append]
  rfl
theorem snoc_ind {p : List Im → Prop} (h0 : p []) (h : ∀ l x, p l → p (l ++ [x])) (l : List Im) : p l := by
  have key : ∀ n (l : List Im), l.length = n → p l := by
    intro n
    induction n with
    | zero => intro l hl; rw [List.length_eq_zero_iff.1 hl]; exact h0
    | succ n ih =>
      intro l hl
      have e := List.dropLast_concat_getLast (l := l) (by intro e; rw [e] at hl; simp at hl)
      rw [← e]
      exact h _ _ (ih _ (by rw [List.length_dropLast]; omega))
  exact key _ l rfl
theorem compI_last : ∀ l, (compI l).getLast? = l.getLast? := by
  refine snoc_ind rfl fun l x ih => ?_
  rw [compI_snoc]
  split
  · rename_i h
    rw [h, List.getLast?_concat]
  · rw [List.getLast?_concat, List.getLast?_concat]
theorem compI_mem (z : Im) : ∀ l, z ∈ compI l ↔ z ∈ l := by
  refine snoc_ind (by simp [compI]) fun l x ih => ?_
  rw [compI_snoc]
  split
  · rename_i h
    rw [ih, List.mem_append, List.mem_singleton]
    refine ⟨.inl, fun k => k.elim id ?_⟩
    rintro rfl
    rw [← ih]
    exact List.mem_of_getLast? h
  · rw [List.mem_append, List.mem_append, ih]
/-- None is ahead of one before it. -/
def WeakI (l : List Im) : Prop := l.Pairwise fun x y => ¬ ltI y.key x.key
theorem compI_rise : ∀ l, WeakI l → RiseI (ikeys (compI l)) := by
  refine snoc_ind (fun _ => List.Pairwise.nil) fun l x ih hw => ?_
  unfold WeakI at hw
  rw [List.pairwise_append] at hw
  obtain ⟨h1, _, h3⟩ := hw
  have hr := ih h1
  rw [compI_snoc]
  split
  · exact hr
  · rename_i hne
    unfold ikeys
    rw [List.map_append]
    refine List.pairwise_append.2 ⟨hr, by simp, fun a ha b hb => ?_⟩
    obtain rfl : b = x.key := by simpa using hb
    obtain ⟨z, hz, rfl⟩ := List.mem_map.1 ha
    have hzl := (compI_mem z l).1 hz
    refine i_tri (h3 z hzl x (by simp)) fun e => ?_
    obtain rfl : x = z := Im.key_inj e
    refine hne ?_
    obtain ⟨y, hy⟩ : ∃ y, (compI l).getLast? = some y := by
      cases h : (compI l).getLast? with
      | none => rw [List.getLast?_eq_none_iff] at h; rw [h] at hz; cases hz
      | some y => exact ⟨y, rfl⟩
    rw [hy]
    have hyl : y ∈ l := (compI_mem y l).1 (List.mem_of_getLast? hy)
    by_cases e : y = x
    · rw [e]
    · exfalso
      obtain ⟨s, e2⟩ := List.getLast?_eq_some_iff.1 hy
      have hr2 := hr
      unfold RiseI ikeys at hr2
      rw [e2, List.map_append, List.pairwise_append] at hr2
      rw [e2, List.mem_append, List.mem_singleton] at hz
      rcases hz with hz | hz
      · exact h3 y hyl x (by simp) (hr2.2.2 x.key (List.mem_map.2 ⟨x, hz, rfl⟩) y.key (by simp))
      · exact e hz.symm
/-- In order, and each run cut to one: the set. -/
theorem compI_set {gs l : List Im} (hp : gs.Perm l) (hw : WeakI gs) : ikeys (compI gs) = setI (ikeys l) :=
  rise_ext (compI_rise gs hw) (rise_setI _) fun z => by
    rw [mem_setI]
    unfold ikeys
    simp only [List.mem_map]
    constructor
    · rintro ⟨x, hx, rfl⟩
      exact ⟨x, hp.mem_iff.1 ((compI_mem x gs).1 hx), rfl⟩
    · rintro ⟨x, hx, rfl⟩
      exact ⟨x, (compI_mem x gs).2 (hp.mem_iff.2 hx), rfl⟩
theorem compI_succ (l : List Im) (p : Nat) (h1 : 1 ≤ p) (h : p < l.length) : compI (l.take (p + 1)) = if l[p] = l[p - 1] then compI (l.take p) else compI (l.take p) ++ [l[p]] := by
  rw [List.take_succ_eq_append_getElem h, compI_snoc, compI_last]
  have e : (l.take p).getLast? = some l[p - 1] := by
    rw [List.getLast?_eq_getElem?, List.length_take, Nat.min_eq_left (by omega), List.getElem?_take, if_pos (by omega), List.getElem?_eq_getElem]
  rw [e]
  by_cases k : l[p] = l[p - 1]
  · rw [if_pos k, if_pos (by rw [k])]
  · rw [if_neg k, if_neg (fun q => k (by simpa using q.symm))]
theorem compI_all (l : List Im) (p : Nat) (hp : p ≤ l.length) (h : ∀ j (hj : j < l.length), 1 ≤ j → j < p → l[j] ≠ l[j - 1]) : compI (l.take p) = l.take p := by
  induction p with
  | zero => simp [compI]
  | succ p ih =>
    have ih := ih (by omega) fun j hj h1 h2 => h j hj h1 (by omega)
    by_cases h0 : p = 0
    · subst h0
      cases l with
      | nil => simp [compI]
      | cons x r => rfl
    · rw [compI_succ l p (by omega) (by omega), if_neg (h p (by omega) (by omega) (by omega)), ih, List.take_succ_eq_append_getElem (by omega)]
/-- The row as it is rewritten: k ids are kept of the first p, from p - 1 on all is as it was. -/
structure MidI (l d : List Im) (k p : Nat) : Prop where
  len : d.length = l.length
  kp : k + 1 ≤ p
  pn : p ≤ l.length
  low : d.take k = compI (l.take p)
  high : ∀ t (h : t < d.length) (h2 : t < l.length), p ≤ t + 1 → d[t] = l[t]
theorem MidI.start {l : List Im} {k : Nat} (h1 : 1 ≤ k) (hk : k < l.length) (he : l[k] = l[k - 1]) (hn : ∀ j (hj : j < l.length), 1 ≤ j → j < k → l[j] ≠ l[j - 1]) : MidI l l k (k + 1) :=
  ⟨rfl, by omega, by omega, by rw [compI_succ l k h1 hk, if_pos he, compI_all l k (by omega) hn], fun _ _ _ _ => rfl⟩
theorem MidI.skip {l d : List Im} {k p : Nat} (m : MidI l d k p) (hp : p < l.length) (he : l[p] = l[p - 1]) : MidI l d k (p + 1) :=
  ⟨m.len, by have := m.kp; omega, by omega, by rw [compI_succ l p (by have := m.kp; omega) hp, if_pos he]; exact m.low, fun t h h2 h3 => m.high t h h2 (by omega)⟩
theorem MidI.keep {l d : List Im} {k p : Nat} (m : MidI l d k p) (hp : p < l.length) (he : l[p] ≠ l[p - 1]) : MidI l (d.set k l[p]) (k + 1) (p + 1) := by
  have hk := m.kp
  have hl := m.len
  refine ⟨by rw [List.length_set]; exact m.len, by omega, by omega, ?_, fun t h h2 h3 => ?_⟩
  · rw [compI_succ l p (by omega) hp, if_neg he, ← m.low, List.take_succ_eq_append_getElem (by rw [List.length_set]; omega), List.getElem_set_self, List.take_set_of_le (Nat.le_refl _)]
  · rw [List.getElem_set_ne (by omega)]
    rw [List.length_set] at h
    exact m.high t h h2 (by omega)
end Go.Proofs.YtifkpelcdihdoaaGreatDoor
namespace Go.Proofs.YtifkpelcdihdoaaGreatDoor
open Go.RowKit
set_option linter.unusedVariables false

instance : Inhabited Im := ⟨⟨⟨#[]⟩, 0⟩⟩
theorem lt_ord (x y : Im) : ltOf ordI x y = decide (ltI x.key y.key) := by
  unfold ltOf
  exact decide_eq_decide.2 (ordI_lt x y)
theorem swoI : Sort.SWO (ltOf ordI) where
  irrefl x := by rw [lt_ord]; exact decide_eq_false (i_irrefl _)
  trans x y z h1 h2 := by
    rw [lt_ord, decide_eq_true_eq] at *
    exact i_trans h1 h2
  ntrans x y z h1 h2 := by
    rw [lt_ord, decide_eq_false_iff_not] at *
    intro h
    by_cases e : x.key = y.key
    · rw [e] at h
      exact h2 h
    · exact h2 (i_trans (i_tri h1 e) h)
theorem cmpLaysI (blk off size : Nat) (w : World) : CmpLays Tryz.prog 153 #[] idR.enc 2 ordI blk off size w := fun m os dk hs x y => by
  refine (order_any x y _).mono ?_
  rintro e w' ⟨rfl, hb⟩
  exact ⟨rfl, hb.grow⟩
theorem isort_any (g cap : Nat) (l : List Im) (w : World) (hr : idR.Blk w g cap l) (hn : l.length ≤ 100000) :
    Calls Tryz.prog 152 #[.slice (some ⟨g, 0, none⟩) l.length cap, .func (.func 153) #[] #[]] w fun e w' => e = .returned (.tuple #[]) ∧ ∃ gs, gs.Perm l ∧ WeakI gs ∧ gs.length = l.length ∧ idR.Blk w' g cap gs ∧ w.grownBy w' (some g) := by
  have eg : ∀ args w, (callFunc 153 args).run Tryz.prog w = .ok (.enter 153 args) w := enters_of Tryz.func153 (by kernel_rfl) rfl
  have hcon := AnyQ.slices_SortFunc Tryz.laysSortId 2 Tryz.isAgg81 Tryz.sizeOf81 idR.enc idR.len idR.one ordI swoI 153 #[] g 0 cap l.toArray w eg (cmpLaysI g 0 l.toArray.size w) hr.holdsK hr.lt (by simp; omega)
  rw [List.size_toArray] at hcon
  change Calls Tryz.prog 152 _ _ _ at hcon
  refine hcon.mono ?_
  rintro e w' ⟨rfl, d', n, os, hp, hs, rfl⟩
  have hsz : d'.size = l.length := by have h := hp.1; simpa using h
  refine ⟨rfl, d'.toList, ?_, ?_, by simpa using hsz, hr.sorted n d' os hsz, Rk.sortWorld_grown w g n d' os⟩
  · have h := hp.2.2
    have e1 : d'.extract 0 l.length = d' := by rw [← hsz]; simp
    have e2 : l.toArray.extract 0 l.length = l.toArray := by rw [show l.length = l.toArray.size by simp]; simp
    rw [e1, e2] at h
    simpa using h
  · unfold WeakI
    rw [List.pairwise_iff_getElem]
    intro i j hi hj hij
    simp only [Array.length_toList] at hi hj
    have h := hs i j (Nat.zero_le _) hij (by omega)
    rw [getElem!_pos d' j hj, getElem!_pos d' i hi, lt_ord, decide_eq_false_iff_not] at h
    simpa using h
set_option maxHeartbeats 2000000 in
set_option maxRecDepth 100000 in
theorem iinsort_nil (p : Option Addr) (cap : Nat) (fv : Value) (w : World) :
    Calls Tryz.prog 169 #[.slice p 0 cap, .int .i64 0, .int .i64 0, fv] w fun e w' => e = .returned (.tuple #[]) ∧ w' = w := by
  go_enter Tryz.func169, Tryz.ntmps169
  go_wp2
  refine wp_loop_rounds 1 ?_
  rw [rounds_succ]
  go_wp2
  go_end0
  exact ⟨rfl, rfl⟩
set_option maxHeartbeats 2000000 in
set_option maxRecDepth 100000 in
theorem ipdq_nil (p : Option Addr) (cap : Nat) (lim : Int) (fv : Value) (w : World) :
    Calls Tryz.prog 165 #[.slice p 0 cap, .int .i64 0, .int .i64 0, .int .i64 lim, fv] w fun e w' => e = .returned (.tuple #[]) ∧ w' = w := by
  go_enter Tryz.func165, Tryz.ntmps165
  go_wp2
  refine wp_loop_rounds 1 ?_
  rw [rounds_succ]
  go_wp2_with fail
  refine (iinsort_nil _ _ _ _).mono ?_
  rintro e w' ⟨rfl, h⟩
  subst h
  go_wp2
  (try simp only [Exit.inBlock, Exit.then])
  refine bodyPost_ret (results_none rfl _ _ _) rfl ?_
  exact ⟨rfl, rfl⟩
set_option maxHeartbeats 2000000 in
set_option maxRecDepth 100000 in
/-- At no id the sort turns nothing. -/
theorem isort_nil (p : Option Addr) (cap : Nat) (fv : Value) (w : World) :
    Calls Tryz.prog 152 #[.slice p 0 cap, fv] w fun e w' => e = .returned (.tuple #[]) ∧ w' = w := by
  have hl : ∀ W, Calls Tryz.prog 93 #[.int .u64 0] W fun e w' => e = .returned (.int .i64 (Lib.bitLen 0 : Nat)) ∧ w' = W := fun W => by
    have h := Any.bits_Len (SlLaysF0.n15.bits (P := Tryz.prog) { Tryz.laysSortId with }) 0 W (by omega) (by omega)
    exact h
  go_enter Tryz.func152, Tryz.ntmps152
  go_wp2_with fail
  refine (hl _).mono ?_
  rintro e w' ⟨rfl, h⟩
  subst h
  go_wp2_with fail
  refine (ipdq_nil _ _ _ _ _).mono ?_
  rintro e w' ⟨rfl, h⟩
  subst h
  go_wp2
  go_end0
  exact ⟨rfl, rfl⟩
end Go.Proofs.YtifkpelcdihdoaaGreatDoor
namespace Go.Proofs.YtifkpelcdihdoaaGreatDoor
open Go.RowKit
set_option linter.unusedVariables false

theorem clear_ids (w : World) (g cap : Nat) (d : List Im) (k : idR.Blk w g cap d) (i n c : Nat) (hn : 0 < n) (hin : i + n ≤ cap) (ty : TypeId) :
    (Builtin.clear_ #[82] ty #[.slice (some ⟨g, i * 2, none⟩) n c]).run Tryz.prog w = .ok (.tuple #[]) (w.setCells g (i * 2) (Builtin.zeroCells #[.string ⟨#[]⟩, .int .i64 0] n).toList) := by
  have hl : (Builtin.zeroCells #[.string ⟨#[]⟩, .int .i64 0] n).toList.length = n * 2 := by simp [Builtin.zeroCells]
  have h1 : ∀ v ∈ (Builtin.zeroCells #[.string ⟨#[]⟩, .int .i64 0] n).toList, v.oneCell' = true := by
    intro v hv
    simp only [Builtin.zeroCells, Array.toList_map, List.mem_map] at hv
    obtain ⟨j, _, rfl⟩ := hv
    have : j % 2 = 0 ∨ j % 2 = 1 := by omega
    rcases this with e | e <;> simp [e, Value.oneCell']
  have hst := run_storeCells_cells (P := Tryz.prog) g (i * 2) (Builtin.zeroCells #[.string ⟨#[]⟩, .int .i64 0] n).toList 0 w (fun j hj => k.some_ (by show _ < cap * 2; rw [hl] at hj; omega)) (fun j hj => k.fz _) h1
  simp only [Nat.add_zero] at hst
  obtain ⟨m, rfl⟩ : ∃ m, n = m + 1 := ⟨n - 1, by omega⟩
  simp [Builtin.clear_, run_underlying Tryz.underlying82, hst, Value.cells]
/-- What Compact leaves in the block. -/
def CompLeft (g cap : Nat) (l : List Im) (w : World) (e : Ending) (w' : World) : Prop := ∃ m, e = .returned (.slice (some ⟨g, 0, none⟩) m cap) ∧ Hid (m = (compI l).length) ∧ idR.Blk w' g cap (compI l) ∧ w.grownBy w' (some g)
theorem grown_drewN {w w' : World} {g : Nat} (h : w.grownBy w' (some g)) (q : Nat) : w.grownBy (w'.drewN q) (some g) := Rk.grown_below h (below_drewN (Below.refl _ _) q)
set_option maxHeartbeats 4000000 in
set_option maxRecDepth 100000 in
theorem icompact_any (g cap : Nat) (l : List Im) (w : World) (hb : idR.Blk w g cap l) (hn : l.length ≤ 100000) :
    Calls Tryz.prog 154 #[.slice (some ⟨g, 0, none⟩) l.length cap] w (CompLeft g cap l w) := by
  have hcap := hb.len
  have HB := Lib.hid hb
  clear hb
  by_cases h2 : l.length < 2
  · have hc : compI l = l := by
      have h := compI_all l l.length (Nat.le_refl _) fun j hj h1 h2 => absurd h2 (by omega)
      rwa [List.take_length] at h
    have HF : Hid (CompLeft g cap l w (.returned (.slice (some ⟨g, 0, none⟩) l.length cap)) w) := ⟨_, rfl, by show _ = _; rw [hc], by rw [hc]; exact HB.out, Rk.grown_refl w g⟩
    have h3 : (l.length : Int) < 2 := by omega
    clear hc
    go_enter Tryz.func154, Tryz.ntmps154
    go_wp2
    go_ret
    exact HF.out
  have h3 : ¬ (l.length : Int) < 2 := by omega
  obtain ⟨n, hnl⟩ : ∃ n, n = l.length := ⟨_, rfl⟩
  have HNL := Lib.hid hnl
  rw [← hnl] at h2 h3 hn hcap ⊢
  clear hnl
  go_enter Tryz.func154, Tryz.ntmps154
  go_wp2
  go_loopw [3] (fun i wr => ∃ k : Nat, 1 ≤ k ∧ k ≤ n ∧ i = .int .i64 (k : Int) ∧ Hid (∀ j (hj : j < l.length), 1 ≤ j → j < k → l[j] ≠ l[j - 1]) ∧ Hid (idR.Blk wr g cap l ∧ w.grownBy wr (some g))) (fun i _ => n - (intOf i).toNat)
  case atStart => exact ⟨1, Nat.le_refl _, by omega, rfl, fun j _ _ h => absurd h (by omega), HB.out, Rk.grown_refl w g⟩
  case round =>
    clear HB
    obtain ⟨k, hk1, hk, rfl, hall, HI⟩ := hrel
    by_cases hlt : k < n
    · have hkl : k < l.length := by have := HNL.out; omega
      have hkm : k - 1 < l.length := by omega
      have d0 : wr.cell? ⟨g, k * 2, none⟩ = some (.string l[k].p) := HI.out.1.cell hkl (r := 0) rfl
      have d1 : wr.cell? ⟨g, k * 2 + 1, none⟩ = some (.int .i64 l[k].n) := HI.out.1.cell hkl (r := 1) rfl
      have m0 : wr.cell? ⟨g, (k - 1) * 2, none⟩ = some (.string l[k - 1].p) := HI.out.1.cell hkm (r := 0) rfl
      have m1 : wr.cell? ⟨g, (k - 1) * 2 + 1, none⟩ = some (.int .i64 l[k - 1].n) := HI.out.1.cell hkm (r := 1) rfl
      have EQ := fun W => eql_id l[k] l[k - 1] W
      obtain ⟨k1, HK⟩ : ∃ k1, Hid (k1 = k - 1) := ⟨_, rfl⟩
      have hk3 := HK.out
      have u0 : (0 : Int) ≤ (k : Int) := by omega
      have u1 : (k : Int) < (n : Int) := by omega
      have u2 : IntKind.i64.wrap ((k : Int) - 1) = (k1 : Int) := by rw [IntWalk.i64_in _ (by omega)]; omega
      have u3 : (0 : Int) ≤ (k1 : Int) := by omega
      have u4 : (k1 : Int) < (n : Int) := by omega
      clear hk3
      have hq : ∀ q, Hid (idR.Blk (wr.drewN q) g cap l ∧ w.grownBy (wr.drewN q) (some g)) := fun q => ⟨HI.out.1.on (below_drewN (Below.refl _ _) q), grown_drewN HI.out.2 q⟩
      have hcmp : (l[k] = l[k - 1] ∧ Hid (MidI l l k (k + 1))) ∨ (l[k] ≠ l[k - 1] ∧ Hid (∀ j (hj : j < l.length), 1 ≤ j → j < k + 1 → l[j] ≠ l[j - 1])) := by
        by_cases e : l[k] = l[k - 1]
        · exact .inl ⟨e, MidI.start hk1 hkl e hall.out⟩
        · refine .inr ⟨e, fun j hj h1 h2 => ?_⟩
          by_cases ej : j = k
          · subst ej; exact e
          · exact hall.out j hj h1 (by omega)
      generalize l[k] = y at *
      generalize l[k - 1] = x at *
      rw [← HK.out] at m0 m1
      rcases hcmp with ⟨rfl, HM⟩ | ⟨hne, hnew⟩
      · rw [decide_eq_true rfl] at EQ
        have s1 : ∀ W, (Instr.slice 82 (.slice (some ⟨g, 0, none⟩) n cap) (some (.int .i64 (k : Int))) none none).run Tryz.prog W = .ok (.slice (some ⟨g, k * 2, none⟩) (n - k) (cap - k)) W := fun W => by
          have h := idR.run_slice (some ⟨g, 0, none⟩) n cap k n (some (.int .i64 (k : Int))) none W (by omega) (Nat.le_refl _) (by omega) (.inl rfl) (.inr ⟨rfl, rfl⟩)
          rw [if_neg (by omega), Option.map_some, rec_add, Nat.zero_add] at h
          exact h
        clear hall HI
        obtain ⟨L, hL⟩ : ∃ L, L = n - k := ⟨_, rfl⟩
        obtain ⟨C, hC⟩ : ∃ C, C = cap - k := ⟨_, rfl⟩
        rw [← hL, ← hC] at s1
        have HLN : Hid (L = n - k ∧ k < n) := ⟨hL, hlt⟩
        clear hL hC
        go_wp2
        go_quiet (fail)
        have HQ := hq nq
        clear hq
        go_wp2
        clear d0 d1 m0 m1 u2 u3 u4 u0 EQ s1
        go_loopw [3, 5] (fun s3 s5 wr => ∃ (K q : Nat) (d : List Im), s3 = .int .i64 (K : Int) ∧ s5 = .int .i64 (q : Int) ∧ 1 ≤ q ∧ q ≤ L ∧ Hid (MidI l d K (k + q)) ∧ Hid (idR.Blk wr g cap d ∧ w.grownBy wr (some g))) (fun _ s5 _ => L - (intOf s5).toNat)
        case atStart => exact ⟨k, 1, l, rfl, rfl, Nat.le_refl _, by have := HLN.out; omega, HM, HQ⟩
        case round =>
          clear HQ HM
          obtain ⟨K, q, d, rfl, rfl, hq1, hqL, HM, HI⟩ := hrel
          by_cases hql : q < L
          · -- @P2
            have hkn := HLN.out
            have hkp : K + 1 ≤ k + q := HM.out.kp
            have hdl : d.length = n := by rw [HM.out.len, HNL.out]
            have hpd : k + q < d.length := by omega
            have hpm : k + q - 1 < d.length := by omega
            have hKd : K < d.length := by omega
            have hpl : k + q < l.length := by have := HNL.out; omega
            have hpml : k + q - 1 < l.length := by omega
            have d0 : wr.cell? ⟨g, (k + q) * 2, none⟩ = some (.string d[k + q].p) := HI.out.1.cell hpd (r := 0) rfl
            have d1 : wr.cell? ⟨g, (k + q) * 2 + 1, none⟩ = some (.int .i64 d[k + q].n) := HI.out.1.cell hpd (r := 1) rfl
            have m0 : wr.cell? ⟨g, (k + q - 1) * 2, none⟩ = some (.string d[k + q - 1].p) := HI.out.1.cell hpm (r := 0) rfl
            have m1 : wr.cell? ⟨g, (k + q - 1) * 2 + 1, none⟩ = some (.int .i64 d[k + q - 1].n) := HI.out.1.cell hpm (r := 1) rfl
            have hcmp : (d[k + q] = d[k + q - 1] ∧ Hid (MidI l d K (k + (q + 1)))) ∨ (d[k + q] ≠ d[k + q - 1] ∧ Hid (MidI l (d.set K d[k + q]) (K + 1) (k + (q + 1)))) := by
              have e1 : d[k + q] = l[k + q] := HM.out.high _ hpd hpl (by omega)
              have e2 : d[k + q - 1] = l[k + q - 1] := HM.out.high _ hpm hpml (by omega)
              rw [e1, e2]
              by_cases e : l[k + q] = l[k + q - 1]
              · exact .inl ⟨e, HM.out.skip hpl e⟩
              · exact .inr ⟨e, HM.out.keep hpl e⟩
            have hq0 : ∀ nq, Hid (idR.Blk (wr.drewN nq) g cap d ∧ w.grownBy (wr.drewN nq) (some g)) := fun nq => ⟨HI.out.1.on (below_drewN (Below.refl _ _) nq), grown_drewN HI.out.2 nq⟩
            have EQ := fun W => neq_id d[k + q] d[k + q - 1] W
            obtain ⟨q1, HQ1⟩ : ∃ q1, Hid (q1 = q - 1) := ⟨_, rfl⟩
            have hk3 := HQ1.out
            have e5 : (k + q) * 2 = k * 2 + q * 2 := by omega
            have e6 : (k + q - 1) * 2 = k * 2 + q1 * 2 := by omega
            have u0 : (0 : Int) ≤ (q : Int) := by omega
            have u5 : (q : Int) < (L : Int) := by omega
            have u2 : IntKind.i64.wrap ((q : Int) - 1) = (q1 : Int) := by rw [IntWalk.i64_in _ (by omega)]; omega
            have u3 : (0 : Int) ≤ (q1 : Int) := by omega
            have u4 : (q1 : Int) < (L : Int) := by omega
            have u6 : (0 : Int) ≤ (K : Int) := by omega
            have u7 : (K : Int) < (n : Int) := by omega
            have hLn : L ≤ n := by omega
            have hKn : K + 1 ≤ n := by omega
            have o0 : ∀ nq, (wr.drewN nq).cell? ⟨g, K * 2, none⟩ = some (.string d[K].p) := fun nq => (hq0 nq).out.1.cell hKd (r := 0) rfl
            have o1 : ∀ nq, (wr.drewN nq).cell? ⟨g, K * 2 + 1, none⟩ = some (.int .i64 d[K].n) := fun nq => (hq0 nq).out.1.cell hKd (r := 1) rfl
            have f0 : ∀ nq, (wr.drewN nq).frozen? ⟨g, K * 2, none⟩ = false := fun nq => (hq0 nq).out.1.fz _
            have f1 : ∀ nq, (wr.drewN nq).frozen? ⟨g, K * 2 + 1, none⟩ = false := fun nq => (hq0 nq).out.1.fz _
            have hput := fun nq (x : Im) => Lib.hid ((hq0 nq).out.1.put hKd x)
            have hgr := fun nq => (hq0 nq).out.2
            generalize d[K] = o at *
            generalize d[k + q] = y at *
            generalize d[k + q - 1] = x at *
            rw [e5] at d0 d1
            rw [e6] at m0 m1
            clear e5 e6 hk3
            rcases hcmp with ⟨rfl, HM2⟩ | ⟨hne, HM2⟩
            · rw [decide_eq_true rfl, Bool.not_true] at EQ
              clear hkn hkp hdl hpd hpm hKd hpl hpml HM HI hput hgr o0 o1 f0 f1 u6 u7
              go_wp2
              go_quiet (fail)
              have HQ := hq0 nq
              clear hq0
              go_wp2
              go_roundw
              case rel => exact ⟨K, q + 1, d, rfl, by go_num, by omega, by omega, HM2, HQ⟩
              case measure => simp [intOf]; omega
            · rw [decide_eq_false hne, Bool.not_false] at EQ
              -- @P4
              have HJ : ∀ nq, Hid (idR.Blk (((wr.drewN nq).setCell ⟨g, K * 2, none⟩ (.string y.p)).setCell ⟨g, K * 2 + 1, none⟩ (.int .i64 y.n)) g cap (d.set K y) ∧ w.grownBy (((wr.drewN nq).setCell ⟨g, K * 2, none⟩ (.string y.p)).setCell ⟨g, K * 2 + 1, none⟩ (.int .i64 y.n)) (some g)) :=
                fun nq => ⟨(hput nq y).out, Rk.grown_both (hgr nq) (Rk.setCells_grown _ g (K * 2) [.string y.p, .int .i64 y.n])⟩
              have c0 : ∀ nq, (wr.drewN nq).cell? ⟨g, k * 2 + q * 2, none⟩ = some (.string y.p) := fun nq => d0
              have c1 : ∀ nq, (wr.drewN nq).cell? ⟨g, k * 2 + q * 2 + 1, none⟩ = some (.int .i64 y.n) := fun nq => d1
              clear hkn hkp hdl hpd hpm hKd hpl hpml HM HI hput hgr hne
              go_wp2
              go_quiet (fail)
              have HQ := HJ nq
              have p0 := o0 nq
              have p1 := o1 nq
              have g0 := f0 nq
              have g1 := f1 nq
              have r0 := c0 nq
              have r1 := c1 nq
              clear hq0 HJ o0 o1 f0 f1 c0 c1 d0 d1 m0 m1 EQ
              generalize wr.drewN nq = wq at *
              go_wp2
              go_roundw
              case rel => exact ⟨K + 1, q + 1, d.set K y, by go_num, by go_num, by omega, by omega, HM2, HQ⟩
              case measure => simp [intOf]; omega
          · -- @P3
            obtain rfl : q = L := by omega
            have hkn := HLN.out
            have hkp : K + 1 ≤ n := by have := HM.out.kp; omega
            have hdl : d.length = n := by rw [HM.out.len, HNL.out]
            have hlow : d.take K = compI l := by
              have h := HM.out.low
              rw [show k + q = l.length by have := HNL.out; omega, List.take_length] at h
              exact h
            have hlen : K = (compI l).length := by rw [← hlow, List.length_take]; omega
            have hti := HI.out.1.take K (by omega)
            have hl : (d.take K).length = K := by rw [List.length_take]; omega
            have hcd := hti.cleared (Builtin.zeroCells #[.string ⟨#[]⟩, .int .i64 0] (n - K)).toList
            rw [hl, hlow] at hcd
            have hcl := clear_ids wr g cap d HI.out.1 K (n - K) (cap - K) (by omega) (by omega)
            have s3 : ∀ W, (Instr.slice 82 (.slice (some ⟨g, 0, none⟩) n cap) (some (.int .i64 (K : Int))) none none).run Tryz.prog W = .ok (.slice (some ⟨g, K * 2, none⟩) (n - K) (cap - K)) W := fun W => by
              have h := idR.run_slice (some ⟨g, 0, none⟩) n cap K n (some (.int .i64 (K : Int))) none W (by omega) (Nat.le_refl _) (by omega) (.inl rfl) (.inr ⟨rfl, rfl⟩)
              rw [if_neg (by omega), Option.map_some, rec_add, Nat.zero_add] at h
              exact h
            have s4 : ∀ W, (Instr.slice 82 (.slice (some ⟨g, 0, none⟩) n cap) none (some (.int .i64 (K : Int))) none).run Tryz.prog W = .ok (.slice (some ⟨g, 0, none⟩) K cap) W := fun W => by
              have h := idR.run_slice (some ⟨g, 0, none⟩) n cap 0 K none (some (.int .i64 (K : Int))) W (by omega) (by omega) (by omega) (.inr ⟨rfl, rfl⟩) (.inl rfl)
              rw [if_neg (by omega), Option.map_some, rec_add] at h
              simp only [Nat.zero_mul, Nat.add_zero, Nat.sub_zero] at h
              exact h
            have HF : Hid (CompLeft g cap l w (.returned (.slice (some ⟨g, 0, none⟩) K cap)) (wr.setCells g (K * 2) (Builtin.zeroCells #[.string ⟨#[]⟩, .int .i64 0] (n - K)).toList)) :=
              ⟨K, rfl, hlen, hcd, Rk.grown_both HI.out.2 (Rk.setCells_grown wr g (K * 2) _)⟩
            have hql2 : ¬ (q : Int) < (q : Int) := by omega
            clear hlen hti hl hcd hlow hdl hkn hkp HM HI HLN
            go_wp2
            go_ret
            exact HF.out
      · rw [decide_eq_false hne] at EQ
        clear hall HI hne
        go_wp2
        go_quiet (fail)
        go_wp2
        go_roundw
        case rel => exact ⟨k + 1, by omega, by omega, by go_num, hnew, hq _⟩
        case measure => simp [intOf]; omega
    · obtain rfl : k = n := by omega
      have hc : compI l = l := by
        have h := compI_all l l.length (Nat.le_refl _) fun j hj h1 h2 => hall.out j hj h1 (by have := HNL.out; omega)
        rwa [List.take_length] at h
      have HF : Hid (CompLeft g cap l w (.returned (.slice (some ⟨g, 0, none⟩) k cap)) wr) := ⟨_, rfl, by show _ = _; rw [hc]; exact HNL.out, by rw [hc]; exact HI.out.1, HI.out.2⟩
      clear hall HI hc
      go_wp2
      go_ret
      exact HF.out
end Go.Proofs.YtifkpelcdihdoaaGreatDoor
namespace Go.Proofs.YtifkpelcdihdoaaGreatDoor
open Go.RowKit
set_option linter.unusedVariables false

set_option maxHeartbeats 1000000 in
set_option maxRecDepth 100000 in
theorem iclone_any (A : Option Addr) (l : List Im) (cap : Nat) (w : World) (hs : Ids w w.heap.size A l) (hr : Room A l.length cap) (hn : l.length ≤ 100000) :
    Calls Tryz.prog 56 #[.slice A l.length cap] w fun e w' => ∃ A' c', e = .returned (.slice A' l.length c') ∧ OwnId w' w.heap.size (.slice A' l.length c') l ∧ Below w.heap.size w w' := by
  have HS := Lib.hid hs
  have HR := Lib.hid hr
  clear hs hr
  have q : ∀ (W : World) (a : Option Addr) (n c n' c' : Nat), (binOp .eql 82 (.slice a n c) (.slice none n' c')).run Tryz.prog W = .ok (.bool a.isNone) W := fun W a n c n' c' => Lib.run_eql_slice_nil W _ _ a n c n' c' Tryz.underlying82
  cases A with
  | none =>
    have h0 : l = [] := by
      have h1 := HR.out.1 rfl
      have h2 := HR.out.2
      exact List.length_eq_zero_iff.1 (by omega)
    subst h0
    go_enter Tryz.func56, Tryz.ntmps56
    go_wp2
    go_ret
    exact ⟨_, _, rfl, Rk.Own.nil _ _, Below.refl _ _⟩
  | some a =>
    have hal : Below w.heap.size w (w.alloc (.cells #[] 81)) := (Below.refl _ _).alloc (Nat.le_refl _) _
    have HO : Hid (OwnId (w.alloc (.cells #[] 81)) w.heap.size (.slice (some ⟨w.heap.size, 0, none⟩) 0 0) []) := Rk.Own.made w w.heap.size (Nat.le_refl _)
    have HC := Lib.hid (HS.out.on hal)
    have HA := Lib.hid hal
    obtain ⟨n, hn0⟩ : ∃ n, n = l.length := ⟨_, rfl⟩
    have HN := Lib.hid hn0
    have hx : ([] : List Im).length + l.length ≤ 1000000 := by simp; omega
    have hm : Hid (n = ([] : List Im).length + l.length) := by show _ = _; simpa using hn0
    have hR := Lib.hid HR.out.1
    rw [← hn0]
    clear hal hn0 HR
    go_enter Tryz.func56, Tryz.ntmps56
    go_wp2_with (at_builtin; refine idR.wpList_append rfl _ _ rfl w.heap.size _ [] l rfl HO.out (some a) cap n rfl HN.out hR.out HC.out HA.out.size hx n hm.out ?_)
    intro A4 c4 w' ho hg
    have HB := Lib.hid (Rk.Own.app HA.out HO.out hg (Nat.le_refl _))
    have HO2 := Lib.hid ho
    clear ho hg
    go_wp2
    go_ret
    exact ⟨A4, c4, rfl, HO2.out, HB.out⟩
end Go.Proofs.YtifkpelcdihdoaaGreatDoor
namespace Go.Proofs.YtifkpelcdihdoaaGreatDoor
open Go.RowKit
set_option linter.unusedVariables false

set_option maxHeartbeats 2000000 in
set_option maxRecDepth 100000 in
theorem icompact_none (cap : Nat) (w : World) :
    Calls Tryz.prog 154 #[.slice none 0 cap] w fun e w' => e = .returned (.slice none 0 cap) ∧ w = w' := by
  go_enter Tryz.func154, Tryz.ntmps154
  go_wp2
  go_ret
  exact ⟨rfl, rfl⟩
set_option maxHeartbeats 4000000 in
set_option maxRecDepth 100000 in
theorem idset_any (A : Option Addr) (l : List Im) (c : Nat) (w : World) (hs : Ids w w.heap.size A l) (hr : Room A l.length c) (hn : l.length ≤ 100000) :
    Calls Tryz.prog 126 #[.slice A l.length c] w (IdsLeft w (setI (ikeys l))) := by
  have CC := Lib.hid (iclone_any A l c w hs hr hn)
  clear hs hr
  go_enter Tryz.func126, Tryz.ntmps126
  go_wp2_with fail
  refine CC.out.mono ?_
  rintro e w1 ⟨A1, c1, rfl, ho, hb⟩
  have HB := Lib.hid hb
  clear hb CC
  rcases Rk.own_cases ho with ⟨e0, e1⟩ | ⟨g, cap, e0, hg, hblk⟩
  · simp only [Value.slice.injEq] at e0
    obtain ⟨rfl, hl0, rfl⟩ := e0
    subst e1
    have HF : Hid (IdsLeft w (setI (ikeys [])) (.returned (.slice none 0 0)) w1) := ⟨none, 0, 0, [], rfl, rfl, Rk.Own.nil _ _, HB.out⟩
    clear ho hl0
    have CN := Lib.hid (fun W => isort_nil none 0 (.func (.func 153) #[] #[]) W)
    go_wp2_with fail
    refine (CN.out _).mono ?_
    rintro e w2 ⟨rfl, hw2⟩
    have hw2 := hw2.symm
    subst hw2
    clear CN
    go_wp2_with fail
    refine (icompact_none 0 _).mono ?_
    rintro e w3 ⟨rfl, rfl⟩
    go_wp2
    go_ret
    exact HF.out
  · simp only [Value.slice.injEq] at e0
    obtain ⟨rfl, -, rfl⟩ := e0
    have CS := Lib.hid (isort_any g c1 l w1 hblk hn)
    have HG : Hid (w.heap.size ≤ g) := hg
    clear ho hblk hg
    go_wp2_with fail
    refine CS.out.mono ?_
    rintro e w2 ⟨rfl, gs, hp, hwk, hgl, hblk2, hg2⟩
    have hset := compI_set hp hwk
    have CK := Lib.hid (icompact_any g c1 gs w2 hblk2 (by rw [hgl]; exact hn))
    have hB2 := HB.out.grown hg2 HB.out.size (fun k hk => by simp only [Option.some.injEq] at hk; have := HG.out; omega)
    have HB2 := Lib.hid hB2
    have HS := Lib.hid hset
    rw [hgl] at CK
    clear CS hp hwk hgl hblk2 hg2 hset hB2
    go_wp2_with fail
    refine CK.out.mono ?_
    rintro e w3 ⟨m, rfl, hm, hblk3, hg3⟩
    have HF : Hid (IdsLeft w (setI (ikeys l)) (.returned (.slice (some ⟨g, 0, none⟩) m c1)) w3) := by
      refine ⟨_, _, _, compI gs, rfl, HS.out, ?_, HB2.out.grown hg3 HB2.out.size (fun k hk => by simp only [Option.some.injEq] at hk; have := HG.out; omega)⟩
      rw [hm.out]
      exact hblk3.own HG.out
    clear hm hblk3 hg3 CK
    go_wp2
    go_ret
    exact HF.out
end Go.Proofs.YtifkpelcdihdoaaGreatDoor
