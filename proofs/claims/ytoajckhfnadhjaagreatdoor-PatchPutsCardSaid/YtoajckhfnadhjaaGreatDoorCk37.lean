/- The reference's May of layer 13. -/
import Derived.BigQuiet
import Derived.Deep.QuietTactic
import Derived.Handy
import Derived.Deep.CutRange
import Derived.Deep.RegionLaw
import Derived.Lib.QuietBelow
import Derived.Test.YtoajckhfnadhjaaGreatDoorCk34
import Derived.Test.YtoajckhfnadhjaaGreatDoorCk36
namespace Go.Proofs.YtoajckhfnadhjaaGreatDoor
open Go.RowKit
open Go.Sort
set_option linter.unusedVariables false

theorem qofb {P : Program} {f : FuncId} {args : Array Value} {w : World} {v : Value} (h : ∀ W, Below w.heap.size w W → Calls P f args W fun e w' => e = .returned v ∧ Below W.heap.size W w') (d : Nat) (os : Array Obj) :
    Calls P f args (grow (redrawn w d) os) fun e w'' => e = .returned v ∧ ∃ p : Regrown, w'' = grow (redrawn w p.d) p.os := Calls.regrown_of (h _ (below_regrown w d os))
theorem ins_few (x : List UInt8) : ∀ l : List (List UInt8), (ins x l).length ≤ l.length + 1
  | [] => by simp [ins]
  | y :: r => by
    unfold ins
    have h := ins_few x r
    split
    · simp only [List.length_cons]; omega
    · split <;> simp only [List.length_cons] <;> omega
theorem setS_few (l : List (List UInt8)) : (setS l).length ≤ l.length := by
  have h : ∀ (l a : List (List UInt8)), (l.foldl (fun a x => ins x a) a).length ≤ a.length + l.length := by
    intro l
    induction l with
    | nil => intro a; simp
    | cons x l ih =>
      intro a
      have h1 := ih (ins x a)
      have h2 := ins_few x a
      simp only [List.foldl_cons, List.length_cons]
      omega
  have h2 := h l []
  simpa [setS] using h2
/-- The first of May's tests: what speaks against a patch at once. -/
def badP (x : Ptm) : Bool := !decide (setS x.deps = x.deps) || (decide (x.name.data.toList ∈ x.deps) || decide (2000 < x.ops.length))
theorem may_bad {x : Ptm} (h : badP x = true) : mayP x.key = false := by
  unfold badP at h
  unfold mayP
  have e : x.key.ops.length = x.ops.length := okeys_len _
  rw [e]
  show (decide (setS x.deps = x.deps) && decide (x.name.data.toList ∉ x.deps) && decide (x.ops.length ≤ 2000) && _ && _) = false
  by_cases h1 : setS x.deps = x.deps
  · by_cases h2 : x.name.data.toList ∈ x.deps
    · simp [h2]
    · have h3 : ¬ x.ops.length ≤ 2000 := by simp [h1, h2] at h; omega
      simp [h3]
  · simp [h1]
theorem may_good {x : Ptm} (h : badP x = false) : x.ops.length ≤ 2000 ∧ mayP x.key = (asksP x.name.data.toList x.deps [] (okeys x.ops) && ownP x.name.data.toList (madeP x.name.data.toList (okeys x.ops))) := by
  unfold badP at h
  simp only [Bool.or_eq_false_iff, Bool.not_eq_false', decide_eq_true_eq, decide_eq_false_iff_not] at h
  obtain ⟨h1, h2, h3⟩ := h
  have h4 : x.ops.length ≤ 2000 := by omega
  refine ⟨h4, ?_⟩
  unfold mayP
  have e : x.key.ops.length = x.ops.length := okeys_len _
  rw [e]
  show (decide (setS x.deps = x.deps) && decide (x.name.data.toList ∉ x.deps) && decide (x.ops.length ≤ 2000) && _ && _) = _
  rw [decide_eq_true h1, decide_eq_true h2, decide_eq_true h4]
  rfl
theorem own_no {name : List UInt8} {l : List Im} {t : Nat} (ht : t < l.length) (h : ¬ (l[t].key.1 = name ∧ l[t].key.2 ≤ 1048576) ∨ l[t] ∈ l.take t) : ownP name (ikeys l) = false := by
  unfold ownP
  rcases h with h | h
  · have h2 : ((ikeys l).all fun i => decide (i.1 = name ∧ i.2 ≤ 1048576)) = false := by
      rw [List.all_eq_false]
      exact ⟨l[t].key, List.mem_map.2 ⟨_, List.getElem_mem ht, rfl⟩, by simpa using h⟩
    rw [h2]
    rfl
  · have h2 : ¬ (ikeys l).Nodup := by
      intro hn
      obtain ⟨j, hj, e⟩ := List.getElem_of_mem h
      rw [List.length_take] at hj
      rw [List.getElem_take] at e
      unfold List.Nodup at hn
      rw [List.pairwise_iff_getElem] at hn
      have h3 := hn j t (by rw [ikeys_len]; omega) (by rw [ikeys_len]; omega) (by omega)
      rw [ikeys_get, ikeys_get, e] at h3
      exact h3 rfl
    rw [decide_eq_false h2, Bool.and_false]
theorem own_yes {name : List UInt8} {l : List Im} (h : ∀ t (ht : t < l.length), (l[t].key.1 = name ∧ l[t].key.2 ≤ 1048576) ∧ l[t] ∉ l.take t) : ownP name (ikeys l) = true := by
  unfold ownP
  have h1 : ((ikeys l).all fun i => decide (i.1 = name ∧ i.2 ≤ 1048576)) = true := by
    rw [List.all_eq_true]
    intro k hk
    obtain ⟨i, hi, rfl⟩ := List.mem_map.1 hk
    obtain ⟨j, hj, rfl⟩ := List.getElem_of_mem hi
    exact decide_eq_true (h j hj).1
  have h2 : (ikeys l).Nodup := by
    unfold List.Nodup
    rw [List.pairwise_iff_getElem]
    intro i j hi hj hij e
    rw [ikeys_get, ikeys_get] at e
    rw [ikeys_len] at hi hj
    refine (h j hj).2 ?_
    rw [← Im.key_inj e]
    rw [List.mem_iff_getElem]
    exact ⟨i, by rw [List.length_take]; omega, by rw [List.getElem_take]⟩
  rw [h1, decide_eq_true h2]
  rfl
theorem known_in {name : ByteArray} {deps : List (List UInt8)} {mine : List Im} {i : Im} (h : i.p = name) : knownI name.data.toList deps (ikeys mine) i.key = decide (i ∈ mine) := by
  unfold knownI
  rw [if_pos (show i.key.1 = name.data.toList by show i.p.data.toList = _; rw [h])]
  exact decide_eq_decide.2 mem_ikeys
theorem known_out {name : ByteArray} {deps : List (List UInt8)} {mine : List Im} {i : Im} (h : i.p ≠ name) : knownI name.data.toList deps (ikeys mine) i.key = decide (i.p.data.toList ∈ deps) := by
  unfold knownI
  rw [if_neg (show ¬ i.key.1 = name.data.toList from fun e => h (bytes_inj e))]
  rfl
theorem asks_cut {name : List UInt8} {deps : List (List UInt8)} {l : List OpK} {k : Nat} (hk : k < l.length) : asksP name deps (l.take k) (l.drop k) = (mayO l[k] && (idsO l[k]).all (knownI name deps (madeP name (l.take (k + 1)))) && asksP name deps (l.take (k + 1)) (l.drop (k + 1))) := by
  rw [List.drop_eq_getElem_cons hk, List.take_succ_eq_append_getElem hk]
  rfl
theorem okeys_at (l : List Om) (k : Nat) (h : k < l.length) : (okeys l)[k]'(by rw [okeys_len]; exact h) = l[k].key := by simp [okeys]
theorem all_no {f : Ik → Bool} {l : List Im} {t : Nat} (ht : t < l.length) (h : f l[t].key = false) : (ikeys l).all f = false := by
  rw [List.all_eq_false]
  exact ⟨l[t].key, List.mem_map.2 ⟨_, List.getElem_mem ht, rfl⟩, by simp [h]⟩
theorem all_yes {f : Ik → Bool} {l : List Im} (h : ∀ t (ht : t < l.length), f l[t].key = true) : (ikeys l).all f = true := by
  rw [List.all_eq_true]
  intro k hk
  obtain ⟨i, hi, rfl⟩ := List.mem_map.1 hk
  obtain ⟨j, hj, rfl⟩ := List.getElem_of_mem hi
  exact h j hj
theorem refhask_any (A : Option Addr) (l : List (List UInt8)) (c : Nat) (s : ByteArray) (w : World) (hs : Strs w w.heap.size A (toBs l)) (hn : l.length ≤ 1000000) (r : Bool) (hr : decide (s.data.toList ∈ l) = r) :
    Calls Tryz.prog 62 #[.slice A l.length c, .string s] w fun e w' => e = .returned (.bool r) ∧ Below w.heap.size w w' := by
  have h := refhas_any A (toBs l) c s w hs (by rw [toBs_len]; exact hn)
  rw [toBs_len, lists_toBs, hr] at h
  exact h.mono fun e w' ⟨h, q⟩ => ⟨h, by rw [← q]; exact Below.refl _ _⟩
theorem refsetk_any (A : Option Addr) (l : List (List UInt8)) (c : Nat) (w : World) (hs : Strs w w.heap.size A (toBs l)) (hn : l.length ≤ 100000) (s : List (List UInt8)) (m : Nat) (hm : m = s.length) (hr : setS l = s) :
    Calls Tryz.prog 61 #[.slice A l.length c] w fun e w' => ∃ (A' : Option Addr) (c' : Nat), e = .returned (.slice A' m c') ∧ Hid (Strs w' w'.heap.size A' (toBs s)) ∧ Below w.heap.size w w' := by
  have h := refset_any A (toBs l) c w hs (by rw [toBs_len]; exact hn)
  rw [toBs_len, lists_toBs, hr] at h
  refine h.mono ?_
  rintro e w' ⟨v, rfl, ho, hb⟩
  obtain ⟨A', c', rfl, hs', _, _⟩ := ho.strs
  exact ⟨A', c', by rw [hm], hs', hb⟩
set_option maxHeartbeats 8000000 in
set_option maxRecDepth 100000 in
theorem refpmay_any (x : Ptm) (w : World) (ox : x.Ok w w.heap.size) (sx : x.Sz) (hm : (madeP x.name.data.toList (okeys x.ops)).length ≤ 900000) (hT : Tabs w) :
    Calls Tryz.prog 27 #[x.val] w fun e w' => e = .returned (.bool (mayP x.key)) ∧ Below w.heap.size w w' := by
  obtain ⟨hb, hx⟩ := pat_box w x
  have HX := Lib.hid hx
  have HF := Lib.hid hb
  have OX := Lib.hid (ox.on hb)
  have HT := Lib.hid (Tabs.on hT hb)
  have SX := Lib.hid sx
  have HM := Lib.hid hm
  clear hb hx ox sx hm hT
  unfold Ptm.val Ptm.cells
  go_enter Tryz.func27, Tryz.ntmps27
  go_upto_region 1 with (fail)
  generalize (w.alloc (.cells #[.string x.name, .slice x.a1 x.deps.length x.c1, .slice x.a2 x.ops.length x.c2] 25)) = wb at *
  generalize (Value.agg #[.string x.name, .slice x.a1 x.deps.length x.c1, .slice x.a2 x.ops.length x.c2]) = vx
  have HDR : Hid (Below wb.heap.size wb wb.drew) := (Below.refl _ _).drew
  obtain ⟨bd, hbd⟩ : ∃ b, badP x = b := ⟨_, rfl⟩
  go_cut [28] from 9 to 28 (fun v wx => v = .bool bd ∧ Hid (Below wb.heap.size wb wx))
  case first =>
    obtain ⟨sl, hsl⟩ : ∃ s, setS x.deps = s := ⟨_, rfl⟩
    obtain ⟨m, hm⟩ : ∃ m, m = sl.length := ⟨_, rfl⟩
    have hsm : sl.length ≤ 100000 := by rw [← hsl]; exact Nat.le_trans (setS_few _) SX.out.few
    have C1 := Lib.hid (fun W (hW : Below wb.heap.size wb W) => refsetk_any x.a1 x.deps x.c1 W (OX.out.on hW).deps SX.out.few sl m hm hsl)
    obtain ⟨s, hs⟩ : ∃ s, decide (sl = x.deps) = s := ⟨_, rfl⟩
    have C2 : Hid (∀ (W W2 : World) (A' : Option Addr) (c' : Nat), Below wb.heap.size wb W → Strs W W.heap.size A' (toBs sl) → Below W.heap.size W W2 → Calls Tryz.prog 35 #[.slice A' m c', .slice x.a1 x.deps.length x.c1] W2 fun e w' => e = .returned (.bool s) ∧ Below W2.heap.size W2 w') := fun W W2 A' c' hW hA hW2 => by
      rw [hm]
      exact refsamek_any A' x.a1 sl x.deps c' x.c1 W2 (hA.on hW2) ((OX.out.on hW).on hW2).deps (by omega) (by have := SX.out.few; omega) s hs
    obtain ⟨h, hh⟩ : ∃ h, decide (x.name.data.toList ∈ x.deps) = h := ⟨_, rfl⟩
    have C3 := Lib.hid (fun W (hW : Below wb.heap.size wb W) => refhask_any x.a1 x.deps x.c1 x.name W (OX.out.on hW).deps (by have := SX.out.few; omega) h hh)
    have HBD : Hid (bd = (!s || (h || decide (2000 < x.ops.length)))) := by show _ = _; rw [← hbd]; unfold badP; rw [hsl, hs, hh]
    clear hbd hsl hs hh hm hsm OX HT SX HM
    refine wp_region_noPanic ?_
    refine wp_region_held_drew (S := fun W => Below wb.heap.size wb W) (by kernel_rfl) HDR.out (fun hHeld => ?_)
    refine wpAnyH_take (i := 0) (oi := { dst := some 9, op := _, type := _, pos := _, after := _, guard := _ }) (v := .pointer (some ⟨w.heap.size, 1, none⟩)) rfl (by kernel_rfl) (by kernel_rfl) (by kernel_rfl) (fun _ _ _ h => h) (Or.inl ⟨by rfl, fun w' hSw => ?_⟩) (by assumption) ?_
    · dsimp only at hSw
      have z0 := (HX.out.on hSw).c0
      have z1 := (HX.out.on hSw).c1
      have z2 := (HX.out.on hSw).c2
      go_simp
    try simp only [Act.put, List.setIfInBounds_toArray, List.set_cons_zero, List.set_cons_succ]
    refine wpAnyH_take (i := 1) (oi := { dst := some 10, op := _, type := _, pos := _, after := _, guard := _ }) (v := .slice x.a1 x.deps.length x.c1) rfl (by kernel_rfl) (by kernel_rfl) (by kernel_rfl) (fun _ _ _ h => h) (Or.inl ⟨by rfl, fun w' hSw => ?_⟩) (by assumption) ?_
    · dsimp only at hSw
      have z0 := (HX.out.on hSw).c0
      have z1 := (HX.out.on hSw).c1
      have z2 := (HX.out.on hSw).c2
      go_simp
    try simp only [Act.put, List.setIfInBounds_toArray, List.set_cons_zero, List.set_cons_succ]
    refine wpAnyH_take (i := 3) (oi := { dst := some 12, op := _, type := _, pos := _, after := _, guard := _ }) (v := .pointer (some ⟨w.heap.size, 1, none⟩)) rfl (by kernel_rfl) (by kernel_rfl) (by kernel_rfl) (fun _ _ _ h => h) (Or.inl ⟨by rfl, fun w' hSw => ?_⟩) (by assumption) ?_
    · dsimp only at hSw
      have z0 := (HX.out.on hSw).c0
      have z1 := (HX.out.on hSw).c1
      have z2 := (HX.out.on hSw).c2
      go_simp
    try simp only [Act.put, List.setIfInBounds_toArray, List.set_cons_zero, List.set_cons_succ]
    refine wpAnyH_take (i := 4) (oi := { dst := some 13, op := _, type := _, pos := _, after := _, guard := _ }) (v := .slice x.a1 x.deps.length x.c1) rfl (by kernel_rfl) (by kernel_rfl) (by kernel_rfl) (fun _ _ _ h => h) (Or.inl ⟨by rfl, fun w' hSw => ?_⟩) (by assumption) ?_
    · dsimp only at hSw
      have z0 := (HX.out.on hSw).c0
      have z1 := (HX.out.on hSw).c1
      have z2 := (HX.out.on hSw).c2
      go_simp
    try simp only [Act.put, List.setIfInBounds_toArray, List.set_cons_zero, List.set_cons_succ]
    have XD := Lib.hid HDR.out
    generalize hwD : wb.drew = wD at *
    clear hwD HDR
    refine wpAnyH_ready (rs := [2]) (by kernel_rfl) (by simp) ?_
    refine AllReadyH.cons rfl (fun K hK => ?_) AllReadyH.nil
    go_simp
    go_at_call 61
    refine (C1.out _ XD.out).mono ?_
    rintro e v1 ⟨A1, c1, rfl, hst, hb⟩
    have X1 := Lib.hid (XD.out.trans (hb.mono XD.out.size))
    clear hb
    refine hK.out _ _ X1.out (fun hHeld2 => ?_)
    clear hK K hHeld
    try simp only [Act.put, List.setIfInBounds_toArray, List.set_cons_zero, List.set_cons_succ]
    have HST := Lib.hid hst.out
    clear hst
    refine wpAnyH_ready (rs := [5]) (by kernel_rfl) (by simp) ?_
    refine AllReadyH.cons rfl (fun K hK => ?_) AllReadyH.nil
    go_simp
    go_at_call 35
    refine (C2.out v1 v1 A1 c1 X1.out HST.out (Below.refl _ _)).mono ?_
    rintro e v2 ⟨rfl, hb⟩
    have X2 := Lib.hid (X1.out.trans (hb.mono X1.out.size))
    clear hb
    refine hK.out _ _ X2.out (fun hHeld5 => ?_)
    clear hK K hHeld2
    try simp only [Act.put, List.setIfInBounds_toArray, List.set_cons_zero, List.set_cons_succ]
    cases s
    · refine wpAnyH_take (i := 6) (oi := { dst := some 15, op := _, type := _, pos := _, after := _, guard := _ }) (v := .bool true) rfl (by kernel_rfl) (by kernel_rfl) (by kernel_rfl) (fun _ _ _ h => h) (Or.inl ⟨by rfl, fun w' hSw => ?_⟩) (by assumption) ?_
      · dsimp only at hSw
        have z0 := (HX.out.on hSw).c0
        have z1 := (HX.out.on hSw).c1
        have z2 := (HX.out.on hSw).c2
        go_simp
      try simp only [Act.put, List.setIfInBounds_toArray, List.set_cons_zero, List.set_cons_succ]
      refine wpAnyH_take (i := 7) (oi := { dst := some 16, op := _, type := _, pos := _, after := _, guard := _ }) (v := .bool true) rfl (by kernel_rfl) (by kernel_rfl) (by kernel_rfl) (fun _ _ _ h => h) (Or.inl ⟨by rfl, fun w' hSw => ?_⟩) (by assumption) ?_
      · dsimp only at hSw
        have z0 := (HX.out.on hSw).c0
        have z1 := (HX.out.on hSw).c1
        have z2 := (HX.out.on hSw).c2
        go_simp
      try simp only [Act.put, List.setIfInBounds_toArray, List.set_cons_zero, List.set_cons_succ]
      refine wpAnyH_take (i := 8) (oi := { dst := some 17, op := _, type := _, pos := _, after := _, guard := _ }) (v := undef) rfl (by kernel_rfl) (by kernel_rfl) (by kernel_rfl) (fun _ _ _ h => h) (Or.inr ⟨by rfl, rfl⟩) (by assumption) ?_
      try simp only [Act.put, List.setIfInBounds_toArray, List.set_cons_zero, List.set_cons_succ]
      refine wpAnyH_take (i := 9) (oi := { dst := some 18, op := _, type := _, pos := _, after := _, guard := _ }) (v := undef) rfl (by kernel_rfl) (by kernel_rfl) (by kernel_rfl) (fun _ _ _ h => h) (Or.inr ⟨by rfl, rfl⟩) (by assumption) ?_
      try simp only [Act.put, List.setIfInBounds_toArray, List.set_cons_zero, List.set_cons_succ]
      refine wpAnyH_take (i := 10) (oi := { dst := some 19, op := _, type := _, pos := _, after := _, guard := _ }) (v := undef) rfl (by kernel_rfl) (by kernel_rfl) (by kernel_rfl) (fun _ _ _ h => h) (Or.inr ⟨by rfl, rfl⟩) (by assumption) ?_
      try simp only [Act.put, List.setIfInBounds_toArray, List.set_cons_zero, List.set_cons_succ]
      refine wpAnyH_take (i := 11) (oi := { dst := some 20, op := _, type := _, pos := _, after := _, guard := _ }) (v := undef) rfl (by kernel_rfl) (by kernel_rfl) (by kernel_rfl) (fun _ _ _ h => h) (Or.inr ⟨by rfl, rfl⟩) (by assumption) ?_
      try simp only [Act.put, List.setIfInBounds_toArray, List.set_cons_zero, List.set_cons_succ]
      refine wpAnyH_take (i := 12) (oi := { dst := some 21, op := _, type := _, pos := _, after := _, guard := _ }) (v := undef) rfl (by kernel_rfl) (by kernel_rfl) (by kernel_rfl) (fun _ _ _ h => h) (Or.inr ⟨by rfl, rfl⟩) (by assumption) ?_
      try simp only [Act.put, List.setIfInBounds_toArray, List.set_cons_zero, List.set_cons_succ]
      refine wpAnyH_take (i := 13) (oi := { dst := some 22, op := _, type := _, pos := _, after := _, guard := _ }) (v := .bool true) rfl (by kernel_rfl) (by kernel_rfl) (by kernel_rfl) (fun _ _ _ h => h) (Or.inl ⟨by rfl, fun w' hSw => ?_⟩) (by assumption) ?_
      · dsimp only at hSw
        have z0 := (HX.out.on hSw).c0
        have z1 := (HX.out.on hSw).c1
        have z2 := (HX.out.on hSw).c2
        go_simp
      try simp only [Act.put, List.setIfInBounds_toArray, List.set_cons_zero, List.set_cons_succ]
      refine wpAnyH_take (i := 14) (oi := { dst := some 23, op := _, type := _, pos := _, after := _, guard := _ }) (v := .bool true) rfl (by kernel_rfl) (by kernel_rfl) (by kernel_rfl) (fun _ _ _ h => h) (Or.inl ⟨by rfl, fun w' hSw => ?_⟩) (by assumption) ?_
      · dsimp only at hSw
        have z0 := (HX.out.on hSw).c0
        have z1 := (HX.out.on hSw).c1
        have z2 := (HX.out.on hSw).c2
        go_simp
      try simp only [Act.put, List.setIfInBounds_toArray, List.set_cons_zero, List.set_cons_succ]
      refine wpAnyH_take (i := 15) (oi := { dst := some 24, op := _, type := _, pos := _, after := _, guard := _ }) (v := undef) rfl (by kernel_rfl) (by kernel_rfl) (by kernel_rfl) (fun _ _ _ h => h) (Or.inr ⟨by rfl, rfl⟩) (by assumption) ?_
      try simp only [Act.put, List.setIfInBounds_toArray, List.set_cons_zero, List.set_cons_succ]
      refine wpAnyH_take (i := 16) (oi := { dst := some 25, op := _, type := _, pos := _, after := _, guard := _ }) (v := undef) rfl (by kernel_rfl) (by kernel_rfl) (by kernel_rfl) (fun _ _ _ h => h) (Or.inr ⟨by rfl, rfl⟩) (by assumption) ?_
      try simp only [Act.put, List.setIfInBounds_toArray, List.set_cons_zero, List.set_cons_succ]
      refine wpAnyH_take (i := 17) (oi := { dst := some 26, op := _, type := _, pos := _, after := _, guard := _ }) (v := undef) rfl (by kernel_rfl) (by kernel_rfl) (by kernel_rfl) (fun _ _ _ h => h) (Or.inr ⟨by rfl, rfl⟩) (by assumption) ?_
      try simp only [Act.put, List.setIfInBounds_toArray, List.set_cons_zero, List.set_cons_succ]
      refine wpAnyH_take (i := 18) (oi := { dst := some 27, op := _, type := _, pos := _, after := _, guard := _ }) (v := undef) rfl (by kernel_rfl) (by kernel_rfl) (by kernel_rfl) (fun _ _ _ h => h) (Or.inr ⟨by rfl, rfl⟩) (by assumption) ?_
      try simp only [Act.put, List.setIfInBounds_toArray, List.set_cons_zero, List.set_cons_succ]
      refine wpAnyH_take (i := 19) (oi := { dst := some 28, op := _, type := _, pos := _, after := _, guard := _ }) (v := .bool true) rfl (by kernel_rfl) (by kernel_rfl) (by kernel_rfl) (fun _ _ _ h => h) (Or.inl ⟨by rfl, fun w' hSw => ?_⟩) (by assumption) ?_
      · dsimp only at hSw
        have z0 := (HX.out.on hSw).c0
        have z1 := (HX.out.on hSw).c1
        have z2 := (HX.out.on hSw).c2
        go_simp
      try simp only [Act.put, List.setIfInBounds_toArray, List.set_cons_zero, List.set_cons_succ]
      refine wpAnyH_done (by kernel_rfl) ?_ _
      refine NoPanic.normal ?_
      go_wp2_with fail
      go_meet
      case rel => exact ⟨by rw [HBD.out]; rfl, X2.out⟩
    · refine wpAnyH_take (i := 6) (oi := { dst := some 15, op := _, type := _, pos := _, after := _, guard := _ }) (v := .bool false) rfl (by kernel_rfl) (by kernel_rfl) (by kernel_rfl) (fun _ _ _ h => h) (Or.inl ⟨by rfl, fun w' hSw => ?_⟩) (by assumption) ?_
      · dsimp only at hSw
        have z0 := (HX.out.on hSw).c0
        have z1 := (HX.out.on hSw).c1
        have z2 := (HX.out.on hSw).c2
        go_simp
      try simp only [Act.put, List.setIfInBounds_toArray, List.set_cons_zero, List.set_cons_succ]
      refine wpAnyH_take (i := 7) (oi := { dst := some 16, op := _, type := _, pos := _, after := _, guard := _ }) (v := .bool false) rfl (by kernel_rfl) (by kernel_rfl) (by kernel_rfl) (fun _ _ _ h => h) (Or.inl ⟨by rfl, fun w' hSw => ?_⟩) (by assumption) ?_
      · dsimp only at hSw
        have z0 := (HX.out.on hSw).c0
        have z1 := (HX.out.on hSw).c1
        have z2 := (HX.out.on hSw).c2
        go_simp
      try simp only [Act.put, List.setIfInBounds_toArray, List.set_cons_zero, List.set_cons_succ]
      refine wpAnyH_take (i := 8) (oi := { dst := some 17, op := _, type := _, pos := _, after := _, guard := _ }) (v := .pointer (some ⟨w.heap.size, 1, none⟩)) rfl (by kernel_rfl) (by kernel_rfl) (by kernel_rfl) (fun _ _ _ h => h) (Or.inl ⟨by rfl, fun w' hSw => ?_⟩) (by assumption) ?_
      · dsimp only at hSw
        have z0 := (HX.out.on hSw).c0
        have z1 := (HX.out.on hSw).c1
        have z2 := (HX.out.on hSw).c2
        go_simp
      try simp only [Act.put, List.setIfInBounds_toArray, List.set_cons_zero, List.set_cons_succ]
      refine wpAnyH_take (i := 9) (oi := { dst := some 18, op := _, type := _, pos := _, after := _, guard := _ }) (v := .slice x.a1 x.deps.length x.c1) rfl (by kernel_rfl) (by kernel_rfl) (by kernel_rfl) (fun _ _ _ h => h) (Or.inl ⟨by rfl, fun w' hSw => ?_⟩) (by assumption) ?_
      · dsimp only at hSw
        have z0 := (HX.out.on hSw).c0
        have z1 := (HX.out.on hSw).c1
        have z2 := (HX.out.on hSw).c2
        go_simp
      try simp only [Act.put, List.setIfInBounds_toArray, List.set_cons_zero, List.set_cons_succ]
      refine wpAnyH_take (i := 10) (oi := { dst := some 19, op := _, type := _, pos := _, after := _, guard := _ }) (v := .pointer (some ⟨w.heap.size, 0, none⟩)) rfl (by kernel_rfl) (by kernel_rfl) (by kernel_rfl) (fun _ _ _ h => h) (Or.inl ⟨by rfl, fun w' hSw => ?_⟩) (by assumption) ?_
      · dsimp only at hSw
        have z0 := (HX.out.on hSw).c0
        have z1 := (HX.out.on hSw).c1
        have z2 := (HX.out.on hSw).c2
        go_simp
      try simp only [Act.put, List.setIfInBounds_toArray, List.set_cons_zero, List.set_cons_succ]
      refine wpAnyH_take (i := 11) (oi := { dst := some 20, op := _, type := _, pos := _, after := _, guard := _ }) (v := .string x.name) rfl (by kernel_rfl) (by kernel_rfl) (by kernel_rfl) (fun _ _ _ h => h) (Or.inl ⟨by rfl, fun w' hSw => ?_⟩) (by assumption) ?_
      · dsimp only at hSw
        have z0 := (HX.out.on hSw).c0
        have z1 := (HX.out.on hSw).c1
        have z2 := (HX.out.on hSw).c2
        go_simp
      try simp only [Act.put, List.setIfInBounds_toArray, List.set_cons_zero, List.set_cons_succ]
      refine wpAnyH_ready (rs := [12]) (by kernel_rfl) (by simp) ?_
      refine AllReadyH.cons rfl (fun K hK => ?_) AllReadyH.nil
      go_simp
      go_at_call 62
      refine (C3.out _ X2.out).mono ?_
      rintro e v3 ⟨rfl, hb⟩
      have X3 := Lib.hid (X2.out.trans (hb.mono X2.out.size))
      clear hb
      refine hK.out _ _ X3.out (fun hHeld12 => ?_)
      clear hK K hHeld5
      try simp only [Act.put, List.setIfInBounds_toArray, List.set_cons_zero, List.set_cons_succ]
      cases h
      · refine wpAnyH_take (i := 13) (oi := { dst := some 22, op := _, type := _, pos := _, after := _, guard := _ }) (v := .bool false) rfl (by kernel_rfl) (by kernel_rfl) (by kernel_rfl) (fun _ _ _ h => h) (Or.inl ⟨by rfl, fun w' hSw => ?_⟩) (by assumption) ?_
        · dsimp only at hSw
          have z0 := (HX.out.on hSw).c0
          have z1 := (HX.out.on hSw).c1
          have z2 := (HX.out.on hSw).c2
          go_simp
        try simp only [Act.put, List.setIfInBounds_toArray, List.set_cons_zero, List.set_cons_succ]
        refine wpAnyH_take (i := 14) (oi := { dst := some 23, op := _, type := _, pos := _, after := _, guard := _ }) (v := .bool false) rfl (by kernel_rfl) (by kernel_rfl) (by kernel_rfl) (fun _ _ _ h => h) (Or.inl ⟨by rfl, fun w' hSw => ?_⟩) (by assumption) ?_
        · dsimp only at hSw
          have z0 := (HX.out.on hSw).c0
          have z1 := (HX.out.on hSw).c1
          have z2 := (HX.out.on hSw).c2
          go_simp
        try simp only [Act.put, List.setIfInBounds_toArray, List.set_cons_zero, List.set_cons_succ]
        refine wpAnyH_take (i := 15) (oi := { dst := some 24, op := _, type := _, pos := _, after := _, guard := _ }) (v := .pointer (some ⟨w.heap.size, 2, none⟩)) rfl (by kernel_rfl) (by kernel_rfl) (by kernel_rfl) (fun _ _ _ h => h) (Or.inl ⟨by rfl, fun w' hSw => ?_⟩) (by assumption) ?_
        · dsimp only at hSw
          have z0 := (HX.out.on hSw).c0
          have z1 := (HX.out.on hSw).c1
          have z2 := (HX.out.on hSw).c2
          go_simp
        try simp only [Act.put, List.setIfInBounds_toArray, List.set_cons_zero, List.set_cons_succ]
        refine wpAnyH_take (i := 16) (oi := { dst := some 25, op := _, type := _, pos := _, after := _, guard := _ }) (v := .slice x.a2 x.ops.length x.c2) rfl (by kernel_rfl) (by kernel_rfl) (by kernel_rfl) (fun _ _ _ h => h) (Or.inl ⟨by rfl, fun w' hSw => ?_⟩) (by assumption) ?_
        · dsimp only at hSw
          have z0 := (HX.out.on hSw).c0
          have z1 := (HX.out.on hSw).c1
          have z2 := (HX.out.on hSw).c2
          go_simp
        try simp only [Act.put, List.setIfInBounds_toArray, List.set_cons_zero, List.set_cons_succ]
        refine wpAnyH_take (i := 17) (oi := { dst := some 26, op := _, type := _, pos := _, after := _, guard := _ }) (v := .int .i64 (x.ops.length : Int)) rfl (by kernel_rfl) (by kernel_rfl) (by kernel_rfl) (fun _ _ _ h => h) (Or.inl ⟨by rfl, fun w' hSw => ?_⟩) (by assumption) ?_
        · dsimp only at hSw
          have z0 := (HX.out.on hSw).c0
          have z1 := (HX.out.on hSw).c1
          have z2 := (HX.out.on hSw).c2
          go_simp
        try simp only [Act.put, List.setIfInBounds_toArray, List.set_cons_zero, List.set_cons_succ]
        by_cases hl : x.ops.length ≤ 2000
        · have q1 : ¬ (x.ops.length : Int) > 2000 := by omega
          refine wpAnyH_take (i := 18) (oi := { dst := some 27, op := _, type := _, pos := _, after := _, guard := _ }) (v := .bool false) rfl (by kernel_rfl) (by kernel_rfl) (by kernel_rfl) (fun _ _ _ h => h) (Or.inl ⟨by rfl, fun w' hSw => ?_⟩) (by assumption) ?_
          · dsimp only at hSw
            have z0 := (HX.out.on hSw).c0
            have z1 := (HX.out.on hSw).c1
            have z2 := (HX.out.on hSw).c2
            go_simp
          try simp only [Act.put, List.setIfInBounds_toArray, List.set_cons_zero, List.set_cons_succ]
          refine wpAnyH_take (i := 19) (oi := { dst := some 28, op := _, type := _, pos := _, after := _, guard := _ }) (v := .bool false) rfl (by kernel_rfl) (by kernel_rfl) (by kernel_rfl) (fun _ _ _ h => h) (Or.inl ⟨by rfl, fun w' hSw => ?_⟩) (by assumption) ?_
          · dsimp only at hSw
            have z0 := (HX.out.on hSw).c0
            have z1 := (HX.out.on hSw).c1
            have z2 := (HX.out.on hSw).c2
            go_simp
          try simp only [Act.put, List.setIfInBounds_toArray, List.set_cons_zero, List.set_cons_succ]
          refine wpAnyH_done (by kernel_rfl) ?_ _
          refine NoPanic.normal ?_
          go_wp2_with fail
          go_meet
          case rel => exact ⟨by rw [HBD.out]; simp; omega, X3.out⟩
        · have q1 : (x.ops.length : Int) > 2000 := by omega
          refine wpAnyH_take (i := 18) (oi := { dst := some 27, op := _, type := _, pos := _, after := _, guard := _ }) (v := .bool true) rfl (by kernel_rfl) (by kernel_rfl) (by kernel_rfl) (fun _ _ _ h => h) (Or.inl ⟨by rfl, fun w' hSw => ?_⟩) (by assumption) ?_
          · dsimp only at hSw
            have z0 := (HX.out.on hSw).c0
            have z1 := (HX.out.on hSw).c1
            have z2 := (HX.out.on hSw).c2
            go_simp
          try simp only [Act.put, List.setIfInBounds_toArray, List.set_cons_zero, List.set_cons_succ]
          refine wpAnyH_take (i := 19) (oi := { dst := some 28, op := _, type := _, pos := _, after := _, guard := _ }) (v := .bool true) rfl (by kernel_rfl) (by kernel_rfl) (by kernel_rfl) (fun _ _ _ h => h) (Or.inl ⟨by rfl, fun w' hSw => ?_⟩) (by assumption) ?_
          · dsimp only at hSw
            have z0 := (HX.out.on hSw).c0
            have z1 := (HX.out.on hSw).c1
            have z2 := (HX.out.on hSw).c2
            go_simp
          try simp only [Act.put, List.setIfInBounds_toArray, List.set_cons_zero, List.set_cons_succ]
          refine wpAnyH_done (by kernel_rfl) ?_ _
          refine NoPanic.normal ?_
          go_wp2_with fail
          go_meet
          case rel => exact ⟨by rw [HBD.out]; simp; omega, X3.out⟩
      · refine wpAnyH_take (i := 13) (oi := { dst := some 22, op := _, type := _, pos := _, after := _, guard := _ }) (v := .bool true) rfl (by kernel_rfl) (by kernel_rfl) (by kernel_rfl) (fun _ _ _ h => h) (Or.inl ⟨by rfl, fun w' hSw => ?_⟩) (by assumption) ?_
        · dsimp only at hSw
          have z0 := (HX.out.on hSw).c0
          have z1 := (HX.out.on hSw).c1
          have z2 := (HX.out.on hSw).c2
          go_simp
        try simp only [Act.put, List.setIfInBounds_toArray, List.set_cons_zero, List.set_cons_succ]
        refine wpAnyH_take (i := 14) (oi := { dst := some 23, op := _, type := _, pos := _, after := _, guard := _ }) (v := .bool true) rfl (by kernel_rfl) (by kernel_rfl) (by kernel_rfl) (fun _ _ _ h => h) (Or.inl ⟨by rfl, fun w' hSw => ?_⟩) (by assumption) ?_
        · dsimp only at hSw
          have z0 := (HX.out.on hSw).c0
          have z1 := (HX.out.on hSw).c1
          have z2 := (HX.out.on hSw).c2
          go_simp
        try simp only [Act.put, List.setIfInBounds_toArray, List.set_cons_zero, List.set_cons_succ]
        refine wpAnyH_take (i := 15) (oi := { dst := some 24, op := _, type := _, pos := _, after := _, guard := _ }) (v := undef) rfl (by kernel_rfl) (by kernel_rfl) (by kernel_rfl) (fun _ _ _ h => h) (Or.inr ⟨by rfl, rfl⟩) (by assumption) ?_
        try simp only [Act.put, List.setIfInBounds_toArray, List.set_cons_zero, List.set_cons_succ]
        refine wpAnyH_take (i := 16) (oi := { dst := some 25, op := _, type := _, pos := _, after := _, guard := _ }) (v := undef) rfl (by kernel_rfl) (by kernel_rfl) (by kernel_rfl) (fun _ _ _ h => h) (Or.inr ⟨by rfl, rfl⟩) (by assumption) ?_
        try simp only [Act.put, List.setIfInBounds_toArray, List.set_cons_zero, List.set_cons_succ]
        refine wpAnyH_take (i := 17) (oi := { dst := some 26, op := _, type := _, pos := _, after := _, guard := _ }) (v := undef) rfl (by kernel_rfl) (by kernel_rfl) (by kernel_rfl) (fun _ _ _ h => h) (Or.inr ⟨by rfl, rfl⟩) (by assumption) ?_
        try simp only [Act.put, List.setIfInBounds_toArray, List.set_cons_zero, List.set_cons_succ]
        refine wpAnyH_take (i := 18) (oi := { dst := some 27, op := _, type := _, pos := _, after := _, guard := _ }) (v := undef) rfl (by kernel_rfl) (by kernel_rfl) (by kernel_rfl) (fun _ _ _ h => h) (Or.inr ⟨by rfl, rfl⟩) (by assumption) ?_
        try simp only [Act.put, List.setIfInBounds_toArray, List.set_cons_zero, List.set_cons_succ]
        refine wpAnyH_take (i := 19) (oi := { dst := some 28, op := _, type := _, pos := _, after := _, guard := _ }) (v := .bool true) rfl (by kernel_rfl) (by kernel_rfl) (by kernel_rfl) (fun _ _ _ h => h) (Or.inl ⟨by rfl, fun w' hSw => ?_⟩) (by assumption) ?_
        · dsimp only at hSw
          have z0 := (HX.out.on hSw).c0
          have z1 := (HX.out.on hSw).c1
          have z2 := (HX.out.on hSw).c2
          go_simp
        try simp only [Act.put, List.setIfInBounds_toArray, List.set_cons_zero, List.set_cons_succ]
        refine wpAnyH_done (by kernel_rfl) ?_ _
        refine NoPanic.normal ?_
        go_wp2_with fail
        go_meet
        case rel => exact ⟨by rw [HBD.out]; rfl, X3.out⟩
  case rest =>
    obtain ⟨rfl, HG1⟩ := hcut
    clear HDR
    obtain ⟨w1, hw1⟩ : ∃ w1, w1 = wc := ⟨_, rfl⟩
    subst hw1
    cases bd
    · obtain ⟨hcnt, hmp⟩ := may_good hbd
      have HMP := Lib.hid hmp
      clear hbd hmp
      -- @P2
      go_wp2
      go_loopw [3, 4, 5, 6] (fun iv _ _ _ wr => ∃ k : Nat, iv = .int .i64 (k : Int) ∧ k ≤ x.ops.length ∧ Hid (asksP x.name.data.toList x.deps [] (okeys x.ops) = asksP x.name.data.toList x.deps ((okeys x.ops).take k) ((okeys x.ops).drop k)) ∧ Hid (∀ j (hj : j < x.ops.length), j < k → mayO x.ops[j].key = true) ∧ Hid (Below wb.heap.size wb wr)) (fun iv _ _ _ _ => x.ops.length - (intOf iv).toNat)
      case atStart => exact ⟨0, rfl, Nat.zero_le _, (by show _ = _; rw [List.take_zero, List.drop_zero]), fun j _ h => absurd h (by omega), HG1.out⟩
      case round =>
        clear HG1
        obtain ⟨k, rfl, hk, HASK, HALL, HG⟩ := hrel
        have a0 := (HX.out.on HG.out).c0
        have a1 := (HX.out.on HG.out).c1
        have a2 := (HX.out.on HG.out).c2
        by_cases hlt : k < x.ops.length
        · have hO := (OX.out.on HG.out).ops
          obtain ⟨b, off, eA, hbB, hcx⟩ := hO.1.get hlt
          have HOK := Lib.hid (hO.2 _ (List.getElem_mem hlt))
          have HYS := Lib.hid (SX.out.ops _ (List.getElem_mem hlt))
          have hk2 : k < (okeys x.ops).length := by rw [okeys_len]; exact hlt
          have HCUT := Lib.hid (asks_cut (name := x.name.data.toList) (deps := x.deps) hk2)
          rw [okeys_at x.ops k hlt] at HCUT
          obtain ⟨y, hy⟩ : ∃ y, x.ops[k] = y := ⟨_, rfl⟩
          have HY := Lib.hid hy
          rw [hy] at HOK HYS hcx HCUT
          have RX := Lib.hid (op_rngp hcx)
          have HEA := Lib.hid eA
          obtain ⟨m, hm⟩ : ∃ m, mayO y.key = m := ⟨_, rfl⟩
          have HMM := Lib.hid hm
          have CM : Hid (Calls Tryz.prog 63 #[y.val] wr fun e w' => e = .returned (.bool m) ∧ Below wr.heap.size wr w') := by
            have h := refmay_any y wr HOK.out HYS.out (Tabs.on HT.out HG.out)
            rw [hm] at h
            exact h
          rw [eA] at a2
          have u0 : (0 : Int) ≤ (k : Int) := by omega
          have u1 : (k : Int) < (x.ops.length : Int) := by omega
          clear hO eA hbB hcx hk2 hy hm
          -- @P3
          go_wp2_with ((with_reducible refine wpList_load_opr (.tmp 39) b (off + k * 16) y RX.out ?_ ?_ ?_ ?_); rfl; rfl; rfl; simp only [Act.put, List.setIfInBounds_toArray, List.set_cons_zero, List.set_cons_succ])
          refine CM.out.mono ?_
          rintro e w2 ⟨rfl, hb2⟩
          have HG2 := Lib.hid (HG.out.trans (hb2.mono HG.out.size))
          generalize y.val = vy
          cases m
          · have HFF : Hid (mayP x.key = false) := by
              show _ = _
              rw [HMP.out, HASK.out, HCUT.out, HMM.out]
              rfl
            have HFW := Lib.hid (HF.out.trans (HG2.out.mono HF.out.size))
            clear hb2 CM HASK HCUT HALL a0 a1 a2
            go_wp2
            go_ret
            exact ⟨by rw [HFF.out]; rfl, HFW.out⟩
          · have HALL2 : Hid (∀ j (hj : j < x.ops.length), j < k + 1 → mayO x.ops[j].key = true) := fun j hj hjk => by
              by_cases e : j = k
              · subst e
                rw [HY.out]
                exact HMM.out
              · exact HALL.out j hj (by omega)
            have HOK2 := Lib.hid (HOK.out.on hb2)
            clear hb2 CM HALL HG HOK a0 a1 a2 RX
            go_upto_region 8 with (fail)
            obtain ⟨A8, c8, fd, hfd, hrow8, hroom8, hA8, hsl8⟩ := opR.part x.a2 x.ops x.c2 0 (k + 1) OX.out.room2 (by rw [HEA.out]; exact .inr ⟨_, _, rfl⟩) (Nat.zero_le _) (by omega)
            have hfd2 : fd = x.ops.take (k + 1) := by rw [hfd, List.drop_zero, Nat.sub_zero]
            have hfl : fd.length = k + 1 := by rw [hfd2, List.length_take]; omega
            have hS8 : ∀ w, (Instr.slice 23 (.slice x.a2 x.ops.length x.c2) none (some (.int .i64 ((k : Int) + 1))) none).run Tryz.prog w = .ok (.slice A8 (k + 1) c8) w := fun w => by
              have h := hsl8 none (some (.int .i64 ((k : Int) + 1))) w (.inr ⟨rfl, rfl⟩) (.inl (by congr 2))
              rw [hfl] at h
              exact h
            have q8 : IntKind.i64.wrap ((k : Int) + 1) = (k : Int) + 1 := IntWalk.i64_in _ (by omega)
            have CMD : Hid (∀ W, Below wb.heap.size wb W → Calls Tryz.prog 19 #[.agg #[.string x.name, .slice none 0 0, .slice A8 (k + 1) c8]] W (IdsLeft W (madeP x.name.data.toList ((okeys x.ops).take (k + 1))))) := fun W hW => by
              have hops : Ops W W.heap.size A8 fd := ⟨hrow8 W W.heap.size (OX.out.on hW).ops.1, fun o ho => (OX.out.on hW).ops.2 o (by rw [hfd2] at ho; exact List.mem_of_mem_take ho)⟩
              have h := refpmade_any x.name none 0 0 A8 fd c8 W hops (by omega) (fun o ho => by
                rw [hfd2] at ho
                obtain ⟨j, hj, e⟩ := List.getElem_of_mem ho
                rw [List.getElem_take] at e
                rw [List.length_take] at hj
                have hmay := HALL2.out j (by omega) (by omega)
                rw [e] at hmay
                have ok := op_ok hmay
                exact ⟨(lines_few ok.lines).1, by have h := ok.first.2; have e2 : o.key.first = o.first := rfl; omega⟩) (by
                rw [hfd2, okeys_take]
                exact Nat.le_trans (made_take_len _ _ _) HM.out)
              rw [hfl, hfd2, okeys_take] at h
              exact h
            have HDR2 : Hid (Below wb.heap.size wb w2.drew) := HG2.out.drew
            have HDW2 : Hid (Below w2.heap.size w2 w2.drew) := (Below.refl _ _).drew
            clear hfd hrow8 hroom8 hA8 hsl8 hfd2 hfl
            -- @P4
            refine wp_region_noPanic ?_
            refine wp_region_held_drew (S := fun W => Below wb.heap.size wb W) (by kernel_rfl) HDR2.out (fun hHeld => ?_)
            refine wpAnyH_take (i := 0) (oi := { dst := some 43, op := _, type := _, pos := _, after := _, guard := _ }) (v := .pointer (some ⟨w.heap.size, 0, none⟩)) rfl (by kernel_rfl) (by kernel_rfl) (by kernel_rfl) (fun _ _ _ h => h) (Or.inl ⟨by rfl, fun w' hSw => ?_⟩) (by assumption) ?_
            · dsimp only at hSw
              have z0 := (HX.out.on hSw).c0
              have z1 := (HX.out.on hSw).c1
              have z2 := (HX.out.on hSw).c2
              go_simp
            try simp only [Act.put, List.setIfInBounds_toArray, List.set_cons_zero, List.set_cons_succ]
            refine wpAnyH_take (i := 1) (oi := { dst := some 44, op := _, type := _, pos := _, after := _, guard := _ }) (v := .string x.name) rfl (by kernel_rfl) (by kernel_rfl) (by kernel_rfl) (fun _ _ _ h => h) (Or.inl ⟨by rfl, fun w' hSw => ?_⟩) (by assumption) ?_
            · dsimp only at hSw
              have z0 := (HX.out.on hSw).c0
              have z1 := (HX.out.on hSw).c1
              have z2 := (HX.out.on hSw).c2
              go_simp
            try simp only [Act.put, List.setIfInBounds_toArray, List.set_cons_zero, List.set_cons_succ]
            refine wpAnyH_take (i := 2) (oi := { dst := some 45, op := _, type := _, pos := _, after := _, guard := _ }) (v := .pointer (some ⟨w.heap.size, 2, none⟩)) rfl (by kernel_rfl) (by kernel_rfl) (by kernel_rfl) (fun _ _ _ h => h) (Or.inl ⟨by rfl, fun w' hSw => ?_⟩) (by assumption) ?_
            · dsimp only at hSw
              have z0 := (HX.out.on hSw).c0
              have z1 := (HX.out.on hSw).c1
              have z2 := (HX.out.on hSw).c2
              go_simp
            try simp only [Act.put, List.setIfInBounds_toArray, List.set_cons_zero, List.set_cons_succ]
            refine wpAnyH_take (i := 3) (oi := { dst := some 46, op := _, type := _, pos := _, after := _, guard := _ }) (v := .slice x.a2 x.ops.length x.c2) rfl (by kernel_rfl) (by kernel_rfl) (by kernel_rfl) (fun _ _ _ h => h) (Or.inl ⟨by rfl, fun w' hSw => ?_⟩) (by assumption) ?_
            · dsimp only at hSw
              have z0 := (HX.out.on hSw).c0
              have z1 := (HX.out.on hSw).c1
              have z2 := (HX.out.on hSw).c2
              go_simp
            try simp only [Act.put, List.setIfInBounds_toArray, List.set_cons_zero, List.set_cons_succ]
            refine wpAnyH_take (i := 4) (oi := { dst := some 47, op := _, type := _, pos := _, after := _, guard := _ }) (v := .int .i64 (k : Int)) rfl (by kernel_rfl) (by kernel_rfl) (by kernel_rfl) (fun _ _ _ h => h) (Or.inl ⟨by rfl, fun w' hSw => ?_⟩) (by assumption) ?_
            · dsimp only at hSw
              have z0 := (HX.out.on hSw).c0
              have z1 := (HX.out.on hSw).c1
              have z2 := (HX.out.on hSw).c2
              go_simp
            try simp only [Act.put, List.setIfInBounds_toArray, List.set_cons_zero, List.set_cons_succ]
            refine wpAnyH_take (i := 5) (oi := { dst := some 48, op := _, type := _, pos := _, after := _, guard := _ }) (v := .int .i64 ((k : Int) + 1)) rfl (by kernel_rfl) (by kernel_rfl) (by kernel_rfl) (fun _ _ _ h => h) (Or.inl ⟨by rfl, fun w' hSw => ?_⟩) (by assumption) ?_
            · dsimp only at hSw
              have z0 := (HX.out.on hSw).c0
              have z1 := (HX.out.on hSw).c1
              have z2 := (HX.out.on hSw).c2
              go_simp
            try simp only [Act.put, List.setIfInBounds_toArray, List.set_cons_zero, List.set_cons_succ]
            refine wpAnyH_take (i := 6) (oi := { dst := some 49, op := _, type := _, pos := _, after := _, guard := _ }) (v := .slice A8 (k + 1) c8) rfl (by kernel_rfl) (by kernel_rfl) (by kernel_rfl) (fun _ _ _ h => h) (Or.inl ⟨by rfl, fun w' hSw => ?_⟩) (by assumption) ?_
            · dsimp only at hSw
              have z0 := (HX.out.on hSw).c0
              have z1 := (HX.out.on hSw).c1
              have z2 := (HX.out.on hSw).c2
              go_simp
            try simp only [Act.put, List.setIfInBounds_toArray, List.set_cons_zero, List.set_cons_succ]
            refine wpAnyH_take (i := 7) (oi := { dst := some 50, op := _, type := _, pos := _, after := _, guard := _ }) (v := .agg #[.string x.name, .slice none 0 0, .slice A8 (k + 1) c8]) rfl (by kernel_rfl) (by kernel_rfl) (by kernel_rfl) (fun _ _ _ h => h) (Or.inl ⟨by rfl, fun w' hSw => ?_⟩) (by assumption) ?_
            · dsimp only at hSw
              have z0 := (HX.out.on hSw).c0
              have z1 := (HX.out.on hSw).c1
              have z2 := (HX.out.on hSw).c2
              go_simp
            try simp only [Act.put, List.setIfInBounds_toArray, List.set_cons_zero, List.set_cons_succ]
            generalize hwD : w2.drew = wD at *
            clear hwD
            refine wpAnyH_ready (rs := [8]) (by kernel_rfl) (by simp) ?_
            refine AllReadyH.cons rfl (fun K hK => ?_) AllReadyH.nil
            go_simp
            go_at_call 19
            refine (CMD.out _ HDR2.out).mono ?_
            rintro e w3 ⟨A4, n4, c4, mine, rfl, hmk, hmo, hb⟩
            have X8 := Lib.hid (HDR2.out.trans (hb.mono HDR2.out.size))
            have HOK3 := Lib.hid ((HOK2.out.on HDW2.out).on hb)
            clear hb
            refine hK.out _ _ X8.out (fun hHeld8 => ?_)
            clear hK K hHeld
            try simp only [Act.put, List.setIfInBounds_toArray, List.set_cons_zero, List.set_cons_succ]
            refine wpAnyH_take (i := 9) (oi := { dst := some 4, op := _, type := _, pos := _, after := _, guard := _ }) (v := .slice A4 n4 c4) rfl (by kernel_rfl) (by kernel_rfl) (by kernel_rfl) (fun _ _ _ h => h) (Or.inl ⟨by rfl, fun w' hSw => ?_⟩) (by assumption) ?_
            · dsimp only at hSw
              have z0 := (HX.out.on hSw).c0
              have z1 := (HX.out.on hSw).c1
              have z2 := (HX.out.on hSw).c2
              go_simp
            try simp only [Act.put, List.setIfInBounds_toArray, List.set_cons_zero, List.set_cons_succ]
            refine wpAnyH_done (by kernel_rfl) ?_ _
            refine NoPanic.normal ?_
            have HMI : Hid (Ids w3 w3.heap.size A4 mine) := hmo.parts.2.1
            have hn4 : n4 = mine.length := hmo.parts.1
            have HMK := Lib.hid hmk
            clear hmo hmk HOK2 HDR2 HDW2 HG2 CMD hS8 q8
            -- @P5
            have hO3 := (OX.out.on X8.out).ops
            obtain ⟨b3, off3, eA3, -, hcx3⟩ := hO3.1.get hlt
            have e3 := HEA.out.symm.trans eA3
            simp only [Option.some.injEq, Addr.mk.injEq, and_true] at e3
            obtain ⟨rfl, rfl⟩ := e3
            rw [HY.out] at hcx3
            have RX3 := Lib.hid (op_rngp hcx3)
            have b2 := (HX.out.on X8.out).c2
            rw [HEA.out] at b2
            have CI := Lib.hid (refids_any y w3 HOK3.out (by have h := (op_ok HMM.out).few; have e : y.key.dels.length = y.dels.length := ikeys_len _; omega))
            have HML : Hid (mine.length ≤ 900000) := by
              show _ ≤ _
              rw [← ikeys_len, HMK.out]
              exact Nat.le_trans (made_take_len _ _ _) HM.out
            clear hO3 eA3 hcx3
            go_wp2_with ((with_reducible refine wpList_load_opr (.tmp 55) b (off + k * 16) y RX3.out ?_ ?_ ?_ ?_); rfl; rfl; rfl; simp only [Act.put, List.setIfInBounds_toArray, List.set_cons_zero, List.set_cons_succ])
            refine CI.out.mono ?_
            rintro e w4 ⟨A5, n5, c5, ids, rfl, hik, hio, hb4⟩
            have HG4 := Lib.hid (X8.out.trans (hb4.mono X8.out.size))
            have HMI4 := Lib.hid (HMI.out.on hb4)
            have HID : Hid (Ids w4 w4.heap.size A5 ids) := hio.parts.2.1
            have hn5 : n5 = ids.length := hio.parts.1
            have hn5b : n5 ≤ 9223372036854775807 := by have h1 := hio.parts.2.2.2.1; have h2 := hio.parts.2.2.1.2; unfold maxLen at h1; omega
            have HIK := Lib.hid hik
            have HG0 : Hid (Below w4.heap.size w4 w4) := Below.refl _ _
            have HN4 := Lib.hid hn4
            have HN5 := Lib.hid hn5
            generalize y.val = vy2
            clear hik hio hb4 CI b2 RX3 X8 hHeld8 HMI HOK3 hn4 hn5
            go_wp2
            go_loopw [6] (fun qv wi => ∃ q : Nat, q ≤ n5 ∧ qv = .int .i64 (q : Int) ∧ Hid (∀ t (ht : t < ids.length), t < q → knownI x.name.data.toList x.deps (ikeys mine) ids[t].key = true) ∧ Hid (Below w4.heap.size w4 wi)) (fun qv _ => n5 - (intOf qv).toNat)
            case atStart => exact ⟨0, Nat.zero_le _, rfl, fun t _ h => absurd h (by omega), HG0.out⟩
            case round =>
              clear HG0
              obtain ⟨q, hq, rfl, HKN, HB⟩ := hrel
              by_cases hql : q < n5
              · have hqi : q < ids.length := by have h := HN5.out; omega
                obtain ⟨g, go, rfl, hg, c0, c1⟩ := ids_get (HID.out.on HB.out) hqi
                obtain ⟨z, hz⟩ : ∃ z, ids[q] = z := ⟨_, rfl⟩
                rw [hz] at c0 c1
                obtain ⟨kn, hkn⟩ : ∃ r, knownI x.name.data.toList x.deps (ikeys mine) z.key = r := ⟨_, rfl⟩
                have v0 : (0 : Int) ≤ (q : Int) := by omega
                have v1 : (q : Int) < (n5 : Int) := by omega
                have HGW := Lib.hid (HG4.out.trans (HB.out.mono HG4.out.size))
                have HPW := Lib.hid (HX.out.on HGW.out)
                have HKN0 := Lib.hid hkn
                have HZ := Lib.hid hz
                go_upto_region 13 with (fail)
                go_cut [101] from 64 to 101 (fun v wx => v = .bool (!kn) ∧ Hid (Below w4.heap.size w4 wx))
                case first =>
                  have p0 := fun d os => cell_regrown HPW.out.c0 d os
                  have p1 := fun d os => cell_regrown HPW.out.c1 d os
                  have i1 := fun d os => cell_regrown c1 d os
                  by_cases he : z.p = x.name
                  · rw [known_in he] at hkn
                    rw [he] at c0
                    have i0 := fun d os => cell_regrown c0 d os
                    have q0 := str_eqb x.name
                    have n0 := qofb (fun W (hW : Below wr.heap.size wr W) => show Calls Tryz.prog 54 #[.slice A4 n4 c4, .agg #[.string x.name, .int .i64 z.n]] W fun e w' => e = .returned (.bool kn) ∧ Below W.heap.size W w' by
                      have h := refihas_any A4 mine c4 z W ((HMI4.out.on HB.out).on hW) (by have := HML.out; omega)
                      rw [← HN4.out, hkn] at h
                      unfold Im.val at h
                      rw [he] at h
                      exact h)
                    clear he hz hkn c0 c1
                    cases kn
                    · refine wp_region_quiet_below (by kernel_rfl) (by kernel_rfl) ?_
                      repeat (go_big_quiet_step (first | with_reducible exact n0 _ _))
                      refine wpQuiet_nil ?_
                      intro _ hw'
                      obtain ⟨⟨dq, osq⟩, hw''⟩ := hw'
                      subst hw''
                      have HF2 := Lib.hid (HB.out.trans ((below_regrown wr dq osq).mono HB.out.size))
                      go_wp2_with fail
                      go_meet
                      case rel => exact ⟨rfl, HF2.out⟩
                    · refine wp_region_quiet_below (by kernel_rfl) (by kernel_rfl) ?_
                      repeat (go_big_quiet_step (first | with_reducible exact n0 _ _))
                      refine wpQuiet_nil ?_
                      intro _ hw'
                      obtain ⟨⟨dq, osq⟩, hw''⟩ := hw'
                      subst hw''
                      have HF2 := Lib.hid (HB.out.trans ((below_regrown wr dq osq).mono HB.out.size))
                      go_wp2_with fail
                      go_meet
                      case rel => exact ⟨rfl, HF2.out⟩
                  · rw [known_out he] at hkn
                    have i0 := fun d os => cell_regrown c0 d os
                    have q0 := str_ne he
                    have n0 := qofb (fun W (hW : Below wr.heap.size wr W) => refhask_any x.a1 x.deps x.c1 z.p W ((OX.out.on HGW.out).on hW).deps (by have := SX.out.few; omega) kn hkn)
                    clear he hz hkn c0 c1
                    cases kn
                    · refine wp_region_quiet_below (by kernel_rfl) (by kernel_rfl) ?_
                      repeat (go_big_quiet_step (first | with_reducible exact n0 _ _))
                      refine wpQuiet_nil ?_
                      intro _ hw'
                      obtain ⟨⟨dq, osq⟩, hw''⟩ := hw'
                      subst hw''
                      have HF2 := Lib.hid (HB.out.trans ((below_regrown wr dq osq).mono HB.out.size))
                      go_wp2_with fail
                      go_meet
                      case rel => exact ⟨rfl, HF2.out⟩
                    · refine wp_region_quiet_below (by kernel_rfl) (by kernel_rfl) ?_
                      repeat (go_big_quiet_step (first | with_reducible exact n0 _ _))
                      refine wpQuiet_nil ?_
                      intro _ hw'
                      obtain ⟨⟨dq, osq⟩, hw''⟩ := hw'
                      subst hw''
                      have HF2 := Lib.hid (HB.out.trans ((below_regrown wr dq osq).mono HB.out.size))
                      go_wp2_with fail
                      go_meet
                      case rel => exact ⟨rfl, HF2.out⟩
                case rest =>
                  obtain ⟨rfl, HB2⟩ := hcut
                  clear c0 c1 hkn hz hg
                  obtain ⟨w5, hw5⟩ : ∃ w5, w5 = wc := ⟨_, rfl⟩
                  subst hw5
                  cases kn
                  · have HFF : Hid (mayP x.key = false) := by
                      show _ = _
                      rw [HMP.out, HASK.out, HCUT.out, ← HIK.out, ← HMK.out, all_no hqi (by rw [HZ.out]; exact HKN0.out), Bool.and_false, Bool.false_and, Bool.false_and]
                    have HFW := Lib.hid (HF.out.trans ((HG4.out.trans (HB2.out.mono HG4.out.size)).mono HF.out.size))
                    clear HKN HB HPW HGW
                    go_wp2
                    go_ret
                    exact ⟨by rw [HFF.out]; rfl, HFW.out⟩
                  · have HKN2 : Hid (∀ t (ht : t < ids.length), t < q + 1 → knownI x.name.data.toList x.deps (ikeys mine) ids[t].key = true) := fun t ht htq => by
                      by_cases e : t = q
                      · subst e
                        rw [HZ.out]
                        exact HKN0.out
                      · exact HKN.out t ht (by omega)
                    clear HKN HB HPW HGW
                    go_wp2
                    go_roundw
                    case rel => exact ⟨q + 1, by omega, by go_num, HKN2.out, HB2.out⟩
                    case measure => simp [intOf]; omega
              · have HASK2 : Hid (asksP x.name.data.toList x.deps [] (okeys x.ops) = asksP x.name.data.toList x.deps ((okeys x.ops).take (k + 1)) ((okeys x.ops).drop (k + 1))) := by
                  show _ = _
                  rw [HASK.out, HCUT.out, HMM.out, ← HIK.out, ← HMK.out, all_yes (fun t ht => HKN.out t ht (by have h := HN5.out; omega)), Bool.true_and, Bool.true_and]
                have HGE := Lib.hid (HG4.out.trans (HB.out.mono HG4.out.size))
                clear HKN HB HASK HCUT
                go_wp2
                go_roundw
                case rel => exact ⟨k + 1, by go_num, by omega, HASK2.out, HALL2.out, HGE.out⟩
                case measure => simp [intOf]; omega
        · have hke : k = x.ops.length := by omega
          have HASK1 : Hid (asksP x.name.data.toList x.deps [] (okeys x.ops) = true) := by
            show _ = _
            rw [HASK.out, List.drop_of_length_le (by rw [okeys_len]; omega)]
            rfl
          have CM2 : Hid (Calls Tryz.prog 19 #[.agg #[.string x.name, .slice x.a1 x.deps.length x.c1, .slice x.a2 x.ops.length x.c2]] wr (IdsLeft wr (madeP x.name.data.toList (okeys x.ops)))) :=
            refpmade_any x.name x.a1 x.deps.length x.c1 x.a2 x.ops x.c2 wr (OX.out.on HG.out).ops (by omega) (fun o ho => by
              obtain ⟨j, hj, e⟩ := List.getElem_of_mem ho
              have hmay := HALL.out j hj (by omega)
              rw [e] at hmay
              have ok := op_ok hmay
              exact ⟨(lines_few ok.lines).1, by have h := ok.first.2; have e2 : o.key.first = o.first := rfl; omega⟩) HM.out
          clear HASK HALL
          go_wp2_with fail
          refine CM2.out.mono ?_
          rintro e w2 ⟨A7, n7, c7, al, rfl, hak, hao, hb2⟩
          have HG2 := Lib.hid (HG.out.trans (hb2.mono HG.out.size))
          have HAL : Hid (Ids w2 w2.heap.size A7 al) := hao.parts.2.1
          have hn7 : n7 = al.length := hao.parts.1
          have HN7 := Lib.hid hn7
          have HAK := Lib.hid hak
          have hal : al.length ≤ 900000 := by rw [← ikeys_len, hak]; exact HM.out
          have HRM := Lib.hid hao.parts.2.2.1
          have HAB := Lib.hid hao.parts.2.2.2.2
          have HG0 : Hid (Below w2.heap.size w2 w2) := Below.refl _ _
          have hn7b : n7 ≤ 900000 := by rw [hn7]; exact hal
          clear hak hao hb2 CM2 HG a0 a1 a2 hn7 hal
          go_wp2
          go_loopw [8] (fun qv wi => ∃ q : Nat, q ≤ n7 ∧ qv = .int .i64 (q : Int) ∧ Hid (∀ t (ht : t < al.length), t < q → (al[t].key.1 = x.name.data.toList ∧ al[t].key.2 ≤ 1048576) ∧ al[t] ∉ al.take t) ∧ Hid (Below w2.heap.size w2 wi)) (fun qv _ => n7 - (intOf qv).toNat)
          case atStart => exact ⟨0, Nat.zero_le _, rfl, fun t _ h => absurd h (by omega), HG0.out⟩
          case round =>
            clear HG0
            obtain ⟨q, hq, rfl, HKN, HB⟩ := hrel
            by_cases hql : q < n7
            · have hqi : q < al.length := by have h := HN7.out; omega
              obtain ⟨g, go, eg, hg, c0, c1⟩ := ids_get (HAL.out.on HB.out) hqi
              obtain ⟨A9, c9, fd, hfd, hrow9, hroom9, -, hsl9⟩ := idR.part A7 al c7 0 q HRM.out HAB.out (Nat.zero_le _) (by omega)
              have hfd2 : fd = al.take q := by rw [hfd, List.drop_zero, Nat.sub_zero]
              have hfl : fd.length = q := by rw [hfd2, List.length_take]; omega
              have hS9 : ∀ w, (Instr.slice 38 (.slice A7 n7 c7) none (some (.int .i64 (q : Int))) none).run Tryz.prog w = .ok (.slice A9 q c9) w := fun w => by
                have h := hsl9 none (some (.int .i64 (q : Int))) w (.inr ⟨rfl, rfl⟩) (.inl rfl)
                rw [hfl] at h
                rw [HN7.out]
                exact h
              obtain ⟨z, hz⟩ : ∃ z, al[q] = z := ⟨_, rfl⟩
              rw [hz] at c0 c1
              subst eg
              have v0 : (0 : Int) ≤ (q : Int) := by omega
              have v1 : (q : Int) < (n7 : Int) := by omega
              have HGW := Lib.hid (HG2.out.trans (HB.out.mono HG2.out.size))
              have HPW := Lib.hid (HX.out.on HGW.out)
              have HZ := Lib.hid hz
              obtain ⟨h, hh⟩ : ∃ h, decide (z ∈ al.take q) = h := ⟨_, rfl⟩
              obtain ⟨bad, hbad⟩ : ∃ b, (!decide (z.p = x.name) || (decide (1048576 < z.n) || h)) = b := ⟨_, rfl⟩
              have HBAD := Lib.hid hbad
              have HH := Lib.hid hh
              have CH := Lib.hid (fun W (hW : Below wr.heap.size wr W) => show Calls Tryz.prog 54 #[.slice A9 q c9, .agg #[.string z.p, .int .i64 z.n]] W fun e w' => e = .returned (.bool h) ∧ Below W.heap.size W w' by
                have h2 := refihas_any A9 fd c9 z W (hrow9 W W.heap.size ((HAL.out.on HB.out).on hW)) (by omega)
                rw [hfl, hfd2, hh] at h2
                exact h2)
              clear hz hh hg hfd hrow9 hroom9 hsl9 hfd2 hfl
              go_upto_region 19 with (fail)
              go_cut [135] from 110 to 135 (fun v wx => v = .bool bad ∧ Hid (Below w2.heap.size w2 wx))
              case first =>
                have p0 := fun d os => cell_regrown HPW.out.c0 d os
                have i1 := fun d os => cell_regrown c1 d os
                by_cases he : z.p = x.name
                · rw [decide_eq_true he, Bool.not_true, Bool.false_or] at hbad
                  rw [he] at c0 CH
                  have i0 := fun d os => cell_regrown c0 d os
                  have q0 := str_eqb x.name
                  by_cases hn : 1048576 < z.n
                  · rw [decide_eq_true hn, Bool.true_or] at hbad
                    subst hbad
                    have q1 : z.n > 1048576 := hn
                    clear he c0 c1 HBAD
                    refine wp_region_quiet_below (by kernel_rfl) (by kernel_rfl) ?_
                    repeat (go_big_quiet_step (fail))
                    refine wpQuiet_nil ?_
                    intro _ hw'
                    obtain ⟨⟨dq, osq⟩, hw''⟩ := hw'
                    subst hw''
                    have HF2 := Lib.hid (HB.out.trans ((below_regrown wr dq osq).mono HB.out.size))
                    go_wp2_with fail
                    go_meet
                    case rel => exact ⟨rfl, HF2.out⟩
                  · rw [decide_eq_false hn, Bool.false_or] at hbad
                    subst hbad
                    have q1 : ¬ z.n > 1048576 := hn
                    have n0 := qofb (fun W hW => CH.out W hW)
                    clear he c0 c1 HBAD
                    cases h
                    · refine wp_region_quiet_below (by kernel_rfl) (by kernel_rfl) ?_
                      repeat (go_big_quiet_step (first | with_reducible exact n0 _ _))
                      refine wpQuiet_nil ?_
                      intro _ hw'
                      obtain ⟨⟨dq, osq⟩, hw''⟩ := hw'
                      subst hw''
                      have HF2 := Lib.hid (HB.out.trans ((below_regrown wr dq osq).mono HB.out.size))
                      go_wp2_with fail
                      go_meet
                      case rel => exact ⟨rfl, HF2.out⟩
                    · refine wp_region_quiet_below (by kernel_rfl) (by kernel_rfl) ?_
                      repeat (go_big_quiet_step (first | with_reducible exact n0 _ _))
                      refine wpQuiet_nil ?_
                      intro _ hw'
                      obtain ⟨⟨dq, osq⟩, hw''⟩ := hw'
                      subst hw''
                      have HF2 := Lib.hid (HB.out.trans ((below_regrown wr dq osq).mono HB.out.size))
                      go_wp2_with fail
                      go_meet
                      case rel => exact ⟨rfl, HF2.out⟩
                · rw [decide_eq_false he, Bool.not_false, Bool.true_or] at hbad
                  subst hbad
                  have i0 := fun d os => cell_regrown c0 d os
                  have q0 := str_ne he
                  clear he c0 c1 HBAD
                  refine wp_region_quiet_below (by kernel_rfl) (by kernel_rfl) ?_
                  repeat (go_big_quiet_step (fail))
                  refine wpQuiet_nil ?_
                  intro _ hw'
                  obtain ⟨⟨dq, osq⟩, hw''⟩ := hw'
                  subst hw''
                  have HF2 := Lib.hid (HB.out.trans ((below_regrown wr dq osq).mono HB.out.size))
                  go_wp2_with fail
                  go_meet
                  case rel => exact ⟨rfl, HF2.out⟩
              case rest =>
                obtain ⟨rfl, HB2⟩ := hcut
                clear c0 c1 hbad CH hS9
                obtain ⟨w5, hw5⟩ : ∃ w5, w5 = wc := ⟨_, rfl⟩
                subst hw5
                cases bad
                · have HKN2 : Hid (∀ t (ht : t < al.length), t < q + 1 → (al[t].key.1 = x.name.data.toList ∧ al[t].key.2 ≤ 1048576) ∧ al[t] ∉ al.take t) := fun t ht htq => by
                    by_cases e : t = q
                    · subst e
                      have h2 := HBAD.out
                      rw [← HH.out] at h2
                      simp only [Bool.or_eq_false_iff, Bool.not_eq_false', decide_eq_true_eq, decide_eq_false_iff_not] at h2
                      rw [HZ.out]
                      exact ⟨⟨by show z.p.data.toList = _; rw [h2.1], by show z.n ≤ _; have := h2.2.1; omega⟩, h2.2.2⟩
                    · exact HKN.out t ht (by omega)
                  clear HKN HB HPW HGW
                  go_wp2
                  go_roundw
                  case rel => exact ⟨q + 1, by omega, by go_num, HKN2.out, HB2.out⟩
                  case measure => simp [intOf]; omega
                · have HFF : Hid (mayP x.key = false) := by
                    show _ = _
                    rw [HMP.out, ← HAK.out, own_no (t := q) hqi (by
                      rw [HZ.out]
                      have h2 := HBAD.out
                      rw [← HH.out] at h2
                      by_cases h3 : z.p = x.name
                      · by_cases h4 : 1048576 < z.n
                        · exact .inl fun h5 => by have h6 : z.n ≤ 1048576 := h5.2; omega
                        · exact .inr (by simpa [h3, h4] using h2)
                      · exact .inl fun h5 => h3 (bytes_inj h5.1)), Bool.and_false]
                  have HFW := Lib.hid (HF.out.trans ((HG2.out.trans (HB2.out.mono HG2.out.size)).mono HF.out.size))
                  clear HKN HB HPW HGW
                  go_wp2
                  go_ret
                  exact ⟨by rw [HFF.out]; rfl, HFW.out⟩
            · have HFF : Hid (mayP x.key = true) := by
                show _ = _
                rw [HMP.out, HASK1.out, ← HAK.out, own_yes (fun t ht => HKN.out t ht (by have h := HN7.out; omega))]
                rfl
              have HFW := Lib.hid (HF.out.trans ((HG2.out.trans (HB.out.mono HG2.out.size)).mono HF.out.size))
              clear HKN HB
              go_wp2
              go_ret
              exact ⟨by rw [HFF.out]; rfl, HFW.out⟩
    · have HFF := Lib.hid (may_bad hbd)
      have HFW := Lib.hid (HF.out.trans (HG1.out.mono HF.out.size))
      clear HX OX HT SX HM HG1 HF
      go_wp2
      go_ret
      exact ⟨by rw [HFF.out]; rfl, HFW.out⟩
end Go.Proofs.YtoajckhfnadhjaaGreatDoor
