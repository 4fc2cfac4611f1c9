
/- Package ident's among and Meet: a function made for ids, asked of each of others. -/
import Derived.Test.YthenlajknoddcaaGreatDoorIdFind
import Derived.Test.YthenlajknoddcaaGreatDoorIdSet
import Derived.Test.YthenlajknoddcaaGreatDoorIdEq
import Derived.Deep.CutRange
namespace Go.Proofs.YthenlajknoddcaaGreatDoor
open Go.RowKit
set_option linter.unusedVariables false

/-- Where an id stands in a set, or would. -/
theorem lower_bound : ∀ (l : List Im) (t : Im), RiseI (ikeys l) → ∃ i, i ≤ l.length ∧ (∀ j (hj : j < l.length), j < i → ordI l[j] t < 0) ∧ (∀ j (hj : j < l.length), i ≤ j → ¬ ordI l[j] t < 0)
  | [], t, _ => ⟨0, Nat.le_refl _, fun j hj => absurd hj (by simp), fun j hj => absurd hj (by simp)⟩
  | x :: r, t, h => by
    unfold RiseI ikeys at h
    rw [List.map_cons, List.pairwise_cons] at h
    obtain ⟨h1, h2⟩ := h
    by_cases hx : ordI x t < 0
    · obtain ⟨i, hi, a, b⟩ := lower_bound r t h2
      refine ⟨i + 1, by simpa using hi, fun j hj hji => ?_, fun j hj hji => ?_⟩
      · cases j with
        | zero => exact hx
        | succ j => exact a j (by simpa using hj) (by omega)
      · cases j with
        | zero => omega
        | succ j => exact b j (by simpa using hj) (by omega)
    · refine ⟨0, Nat.zero_le _, fun j hj h => absurd h (by omega), fun j hj _ => ?_⟩
      cases j with
      | zero => exact hx
      | succ j =>
        rw [ordI_lt] at hx ⊢
        intro hl
        exact hx (i_trans (h1 _ (List.mem_map.2 ⟨_, List.getElem_mem (by simpa using hj), rfl⟩)) hl)
/-- An id is in a set just if it stands where it would. -/
theorem lower_mem {l : List Im} {t : Im} {i : Nat} (hr : RiseI (ikeys l)) (hi : i ≤ l.length) (h1 : ∀ j (hj : j < l.length), j < i → ordI l[j] t < 0) (h2 : ∀ j (hj : j < l.length), i ≤ j → ¬ ordI l[j] t < 0) : t ∈ l ↔ ∃ h : i < l.length, l[i] = t := by
  constructor
  · intro h
    obtain ⟨j, hj, rfl⟩ := List.getElem_of_mem h
    have hij : i ≤ j := by
      by_cases e : j < i
      · have h3 := h1 j hj e
        rw [ordI_lt] at h3
        exact absurd h3 (i_irrefl _)
      · omega
    refine ⟨by omega, ?_⟩
    by_cases e : i = j
    · subst e; rfl
    · exfalso
      have h3 : ltI l[i].key l[j].key := by
        have h4 := List.pairwise_iff_getElem.1 hr i j (by rw [ikeys_len]; omega) (by rw [ikeys_len]; exact hj) (by omega)
        rwa [ikeys_get, ikeys_get] at h4
      rw [← ordI_lt] at h3
      exact h2 i (by omega) (Nat.le_refl _) h3
  · rintro ⟨h, rfl⟩
    exact List.getElem_mem h
/-- What is kept for among: a set of ids, in a variable of its own. -/
structure Kept (w : World) (B : Nat) (s : List Im) : Prop where
  box : ∃ A c, w.heap[B]? = some (.cells #[.slice A s.length c] 22 (0, 0)) ∧ Ids w w.heap.size A s
  rise : RiseI (ikeys s)
  few : s.length ≤ 100000
theorem Kept.on {w w' : World} {B : Nat} {s : List Im} (k : Kept w B s) (hb : Below w.heap.size w w') : Kept w' B s := by
  obtain ⟨A, c, h1, h2⟩ := k.box
  exact ⟨⟨A, c, (hb.block B (Array.getElem?_eq_some_iff.1 h1).1).trans h1, h2.on hb⟩, k.rise, k.few⟩
set_option maxHeartbeats 4000000 in
set_option maxRecDepth 100000 in
theorem among1_any (B : Nat) (s : List Im) (x : Im) (w : World) (k : Kept w B s) (r : Bool) (hr : decide (x ∈ s) = r) :
    Calls Tryz.prog 43 #[.agg #[.string x.p, .int .i64 x.n], .pointer (some ⟨B, 0, none⟩)] w fun e w' => e = .returned (.bool r) ∧ Below w.heap.size w w' := by
  obtain ⟨i, hi, h1, h2⟩ := lower_bound s x k.rise
  have hm := lower_mem k.rise hi h1 h2
  obtain ⟨hal, hx⟩ := id_box w x
  obtain ⟨A, c, hB, hI⟩ := (k.on hal).box
  have hfew := k.few
  have hc : (w.alloc (.cells #[.string x.p, .int .i64 x.n] 24)).cell? ⟨B, 0, none⟩ = some (.slice A s.length c) := by simp [World.cell?, hB]
  have CB := Lib.hid (fun W hs => ibsearch_any A s c x i hi h1 h2 W hs (by omega))
  have HX := Lib.hid hx
  have HI := Lib.hid hI
  have HA := Lib.hid hal
  clear hal hx hB hI h1 h2 k
  go_enter Tryz.func43, Tryz.ntmps43
  have x0 := id_c0 HX.out
  have x1 := id_c1 HX.out
  go_upto_region 1 with (fail)
  generalize (w.alloc (.cells #[.string x.p, .int .i64 x.n] 24)) = wb at *
  generalize hgx : w.heap.size = gx at HX x0 x1
  clear hgx
  have C1 := Lib.hid (CB.out wb HI.out)
  clear CB
  go_wp2_with fail
  refine C1.out.mono ?_
  rintro e w1 ⟨b, rfl, hb⟩
  have hX1 := HX.out.on hb
  have y0 := id_c0 hX1
  have y1 := id_c1 hX1
  have hcB := cell_on hc hb
  have hI1 := HI.out.on hb
  have HF := Lib.hid (HA.out.trans (hb.mono HA.out.size))
  have hq : ∀ q, Hid (Below w.heap.size w (w1.drewN q)) := fun q => below_drewN HF.out q
  clear hb HX HI hc x0 x1 hX1 C1
  by_cases hin : i < s.length
  · obtain ⟨b2, off, rfl, _, c0, c1⟩ := ids_get hI1 hin
    have EQ := fun W => eql_id s[i] x W
    have hrr : decide (s[i] = x) = r := by
      rw [← hr]
      exact decide_eq_decide.2 ⟨fun h => hm.2 ⟨hin, h⟩, fun h => (hm.1 h).2⟩
    rw [hrr] at EQ
    have u0 : (0 : Int) ≤ (i : Int) := by omega
    have u1 : (i : Int) < (s.length : Int) := by omega
    generalize s[i] = y at *
    clear hm hr hI1 hrr
    go_wp2
    go_quiet (fail)
    go_wp2
    go_ret
    exact ⟨rfl, (hq _).out⟩
  · have hrr : r = false := by
      rw [← hr, decide_eq_false_iff_not]
      exact fun h => hin (hm.1 h).1
    subst hrr
    have u1 : ¬ (i : Int) < (s.length : Int) := by omega
    have u2 : decide ((i : Int) < (s.length : Int)) = false := decide_eq_false u1
    clear hm hr hI1
    go_wp2
    go_quiet (fail)
    go_wp2
    go_ret
    exact ⟨rfl, (hq _).out⟩
set_option maxHeartbeats 4000000 in
set_option maxRecDepth 100000 in
theorem iindexf_any (A : Option Addr) (l : List Im) (cap : Nat) (B : Nat) (s : List Im) (w : World) (hs : Ids w w.heap.size A l) (k : Kept w B s) (hn : l.length ≤ 100000) :
    Calls Tryz.prog 42 #[.slice A l.length cap, .func (.func 43) #[] #[.pointer (some ⟨B, 0, none⟩)]] w fun e w' => ∃ r : Int, e = .returned (.int .i64 r) ∧ Hid (decide (0 ≤ r) = l.any fun x => decide (x ∈ s)) ∧ Below w.heap.size w w' := by
  have HS := Lib.hid hs
  have HK := Lib.hid k
  clear hs k
  go_enter Tryz.func42, Tryz.ntmps42
  go_wp2
  go_loopw [8] (fun i wr => ∃ k : Nat, k ≤ l.length ∧ i = .int .i64 (k : Int) ∧ Hid (∀ j (hj : j < l.length), j < k → l[j] ∉ s) ∧ Hid (Below w.heap.size w wr)) (fun i _ => l.length - (intOf i).toNat)
  case atStart => exact ⟨0, Nat.zero_le _, rfl, fun j _ h => absurd h (by omega), Below.refl _ _⟩
  case round =>
    obtain ⟨k, hk, rfl, hall, hb⟩ := hrel
    by_cases hlt : k < l.length
    · have hS := HS.out.on hb.out
      obtain ⟨b, off, rfl, bl1, h1, h2⟩ := ids_get hS hlt
      have C := Lib.hid (among1_any B s l[k] wr (HK.out.on hb.out) _ rfl)
      by_cases he : l[k] ∈ s
      · have hres : Hid (decide (0 ≤ (k : Int)) = l.any fun x => decide (x ∈ s)) := by
          show _ = _
          rw [show l.any (fun x => decide (x ∈ s)) = true from List.any_eq_true.2 ⟨l[k], List.getElem_mem _, decide_eq_true he⟩]
          simp
        rw [decide_eq_true he] at C
        clear he hall hS
        generalize l[k] = y at *
        go_wp2_with fail
        refine C.out.mono ?_
        rintro e w1 ⟨rfl, hb1⟩
        have HB2 := Lib.hid (hb.out.trans (hb1.mono hb.out.size))
        clear hb1 C h1 h2
        go_wp2
        go_ret
        exact ⟨_, rfl, hres, HB2.out⟩
      · have hnew : Hid (∀ j (hj : j < l.length), j < k + 1 → l[j] ∉ s) := by
          intro j hj hjk
          by_cases e : j = k
          · subst e; exact he
          · exact hall.out j hj (by omega)
        rw [decide_eq_false he] at C
        clear he hall hS
        generalize l[k] = y at h1 h2 C
        go_wp2_with fail
        refine C.out.mono ?_
        rintro e w1 ⟨rfl, hb1⟩
        have HB2 : Hid (Below w.heap.size w w1) := hb.out.trans (hb1.mono hb.out.size)
        clear hb1 C h1 h2
        go_wp2
        go_roundw
        case rel => exact ⟨k + 1, by omega, by go_num, hnew, HB2⟩
        case measure => simp [intOf]; omega
    · obtain rfl : k = l.length := by omega
      have hres : Hid (decide (0 ≤ (-1 : Int)) = l.any fun x => decide (x ∈ s)) := by
        show _ = _
        rw [decide_eq_false (by decide), eq_comm, List.any_eq_false]
        intro x hx
        obtain ⟨j, hj, rfl⟩ := List.getElem_of_mem hx
        simpa using hall.out j hj hj
      clear hall
      go_wp2
      go_ret
      exact ⟨_, rfl, hres, hb.out⟩
set_option maxHeartbeats 4000000 in
set_option maxRecDepth 100000 in
theorem icontf_any (A : Option Addr) (l : List Im) (cap : Nat) (B : Nat) (s : List Im) (w : World) (hs : Ids w w.heap.size A l) (k : Kept w B s) (hn : l.length ≤ 100000) (r : Bool) (hr : (l.any fun x => decide (x ∈ s)) = r) :
    Calls Tryz.prog 29 #[.slice A l.length cap, .func (.func 43) #[] #[.pointer (some ⟨B, 0, none⟩)]] w fun e w' => e = .returned (.bool r) ∧ Below w.heap.size w w' := by
  have C := Lib.hid (iindexf_any A l cap B s w hs k hn)
  rw [hr] at C
  clear hs k hr
  go_enter Tryz.func29, Tryz.ntmps29
  go_wp2_with fail
  refine C.out.mono ?_
  rintro e w1 ⟨q, rfl, hq, hb⟩
  have HB := Lib.hid hb
  clear hb C
  go_wp2
  go_ret
  rw [← hq.out]
  exact ⟨rfl, HB.out⟩
set_option maxHeartbeats 4000000 in
set_option maxRecDepth 100000 in
theorem among_any (A : Option Addr) (l : List Im) (c : Nat) (w : World) (hs : Ids w w.heap.size A l) (hr : Room A l.length c) (hn : l.length ≤ 1000) :
    Calls Tryz.prog 30 #[.slice A l.length c] w fun e w' => ∃ B s, e = .returned (.func (.func 43) #[] #[.pointer (some ⟨B, 0, none⟩)]) ∧ Hid (Kept w' B s ∧ ikeys s = setI (ikeys l)) ∧ Below w.heap.size w w' := by
  have CS := Lib.hid (idset_any A l c w hs hr (by omega))
  clear hs hr
  go_enter Tryz.func30, Tryz.ntmps30
  go_wp2_with fail
  refine CS.out.mono ?_
  rintro e w1 ⟨A1, n1, c1, s, rfl, hk, ho, hb⟩
  obtain ⟨hn1, hrow, _, _, _⟩ := ho.parts
  have hal : Below w1.heap.size w1 (w1.alloc (.cells #[.slice A1 n1 c1] 22)) := (Below.refl _ _).alloc (Nat.le_refl _) _
  have hlen : s.length ≤ 1000 := by
    have h := setI_len (ikeys l)
    rw [← hk, ikeys_len, ikeys_len] at h
    omega
  have HF : Hid (Kept (w1.alloc (.cells #[.slice A1 n1 c1] 22)) w1.heap.size s ∧ ikeys s = setI (ikeys l)) :=
    ⟨⟨⟨A1, c1, by rw [hn1]; exact heap_alloc_new w1 _, hrow.on hal⟩, by rw [hk]; exact rise_setI _, by omega⟩, hk⟩
  have HB := Lib.hid (hb.trans (hal.mono hb.size))
  clear hk ho hb hn1 hrow hal hlen CS
  go_wp2
  go_ret
  exact ⟨_, s, rfl, HF, HB.out⟩
theorem meet_code {a b s : List Im} (h : ikeys s = setI (ikeys b)) : (a.any fun x => decide (x ∈ s)) = meetI (ikeys a) (ikeys b) := by
  unfold meetI
  have e : (ikeys a).any (fun x => decide (x ∈ ikeys b)) = a.any fun x => decide (x.key ∈ ikeys b) := by unfold ikeys; rw [List.any_map]; rfl
  rw [e]
  congr 1
  funext x
  refine decide_eq_decide.2 ?_
  rw [← mem_ikeys, h, mem_setI]
set_option maxHeartbeats 4000000 in
set_option maxRecDepth 100000 in
/-- Package ident's Meet. -/
theorem idmeet_any (A A2 : Option Addr) (l m : List Im) (c c2 : Nat) (w : World) (hs : Ids w w.heap.size A l) (ht : Ids w w.heap.size A2 m) (hr : Room A2 m.length c2) (hn : l.length ≤ 1000) (hn2 : m.length ≤ 1000) :
    Calls Tryz.prog 13 #[.slice A l.length c, .slice A2 m.length c2] w fun e w' => e = .returned (.bool (meetI (ikeys l) (ikeys m))) ∧ Below w.heap.size w w' := by
  have CA := Lib.hid (among_any A2 m c2 w ht hr hn2)
  have HS := Lib.hid hs
  obtain ⟨r, hr2⟩ : ∃ r, meetI (ikeys l) (ikeys m) = r := ⟨_, rfl⟩
  have HR := Lib.hid hr2
  rw [hr2]
  clear hs ht hr hr2
  go_enter Tryz.func13, Tryz.ntmps13
  go_wp2_with fail
  refine CA.out.mono ?_
  rintro e w1 ⟨B, s, rfl, hk, hb⟩
  have CF := Lib.hid (icontf_any A l c B s w1 (HS.out.on hb) hk.out.1 (by omega) r (by rw [meet_code hk.out.2, HR.out]))
  have HB := Lib.hid hb
  clear hb hk CA
  go_wp2_with fail
  refine CF.out.mono ?_
  rintro e w2 ⟨rfl, hb⟩
  have HB2 := Lib.hid (HB.out.trans (hb.mono HB.out.size))
  clear hb CF
  go_wp2
  go_ret
  exact ⟨rfl, HB2.out⟩
end Go.Proofs.YthenlajknoddcaaGreatDoor
