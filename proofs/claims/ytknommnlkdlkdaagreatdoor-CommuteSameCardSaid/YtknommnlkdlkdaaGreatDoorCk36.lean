/- Package tree's check. -/
import Derived.Test.YtknommnlkdlkdaaGreatDoorCk35
import Derived.Test.YtknommnlkdlkdaaGreatDoorCk28
namespace Go.Proofs.YtknommnlkdlkdaaGreatDoor
open Go.RowKit
set_option linter.unusedVariables false

/-- Does the next file stand at this path, too? -/
def nextK : List PF → List UInt8 → Bool
  | [], _ => false
  | g :: _, p => decide (g.1 = p)
/-- What is wrong with a file behind those ahead of it and ahead of the rest. -/
def chkP (av : List PF) (f : PF) (rest : List PF) : Int :=
  if names nameP f.1 = [] then 8
  else if nextK rest f.1 = true then 10
  else if dirK av (dirP nameP f.1) = false then 9
  else if checkN (toBs f.2.2) ≠ 0 then checkN (toBs f.2.2)
  else if f.2.1 = true ∧ f.2.2.length ≠ 0 then 6 else 0
def chkK (ks : List PF) (i : Nat) : Int := match ks.drop i with
  | [] => 0
  | f :: rest => chkP (ks.take i) f rest
/-- What Of answers: no error, if no file has one; else one of theirs. -/
def OfE (ks : List PF) (er : Int) : Prop := (er = 0 ∧ ∀ i, i < ks.length → chkK ks i = 0) ∨ (er ≠ 0 ∧ ∃ i, i < ks.length ∧ chkK ks i = er)
/-- In order, alike ones beside one another. -/
def WeakK (ks : List PF) : Prop := ∀ i j (hi : i < ks.length) (hj : j < ks.length), i < j → lessK ks[j] ks[i] = false
theorem chkK_at {ks : List PF} {i : Nat} (h : i < ks.length) : chkK ks i = chkP (ks.take i) ks[i] (ks.drop (i + 1)) := by
  unfold chkK
  rw [List.drop_eq_getElem_cons h]
theorem chkP_ok {av : List PF} {f : PF} {rest : List PF} (h : chkP av f rest = 0) : names nameP f.1 ≠ [] ∧ (∀ g ∈ rest.head?, g.1 ≠ f.1) ∧ dirK av (dirP nameP f.1) = true ∧ checkN (toBs f.2.2) = 0 ∧ (f.2.1 = true → f.2.2 = []) := by
  unfold chkP at h
  split at h
  · omega
  rename_i h1
  split at h
  · omega
  rename_i h2
  split at h
  · omega
  rename_i h3
  split at h
  · rename_i h4
    exact absurd h h4
  rename_i h4
  split at h
  · omega
  rename_i h5
  refine ⟨h1, fun g hg => ?_, by simpa using h3, by simpa using h4, fun e => ?_⟩
  · cases rest with
    | nil => cases hg
    | cons x r =>
      simp only [List.head?_cons, Option.mem_some_iff] at hg
      subst hg
      simpa [nextK] using h2
  · by_cases e2 : f.2.2.length = 0
    · exact List.length_eq_zero_iff.1 e2
    · exact absurd ⟨e, e2⟩ h5
theorem well_of {ks : List PF} (hs : WeakK ks) (hc : ∀ i, i < ks.length → chkK ks i = 0) : Well ks := by
  have hk := fun i (hi : i < ks.length) => chkP_ok (by have := hc i hi; rwa [chkK_at hi] at this)
  have hadj : ∀ i (hi : i + 1 < ks.length), lessK (ks[i]'(by omega)) ks[i + 1] = true := fun i hi => by
    have h1 := (hk i (by omega)).2.1 ks[i + 1] (by rw [List.drop_eq_getElem_cons hi]; simp)
    rcases lessK_or (x := ks[i]'(by omega)) (y := ks[i + 1]) (fun e => h1 e.symm) with h | h
    · exact h
    · rw [hs i (i + 1) (by omega) hi (by omega)] at h
      cases h
  have hall : ∀ d i (hi : i + d + 1 < ks.length), lessK (ks[i]'(by omega)) ks[i + d + 1] = true := fun d => by
    induction d with
    | zero => exact fun i hi => hadj i hi
    | succ d ih => exact fun i hi => lessK_trans (ih i (by omega)) (hadj (i + d + 1) hi)
  refine ⟨?_, ?_, ?_, ?_, ?_⟩
  · unfold Rise
    rw [List.pairwise_iff_getElem]
    intro i j hi hj hij
    have h := hall (j - i - 1) i (by omega)
    simp only [show i + (j - i - 1) + 1 = j by omega] at h
    exact h
  · intro k hm
    obtain ⟨i, hi, rfl⟩ := List.getElem_of_mem hm
    exact (hk i hi).1
  · intro k hm
    obtain ⟨i, hi, rfl⟩ := List.getElem_of_mem hm
    have h := (hk i hi).2.2.1
    unfold dirK at h
    rw [Bool.or_eq_true, decide_eq_true_eq] at h
    rcases h with h | h
    · exact .inl h
    · right
      split at h
      · rename_i d hd
        exact ⟨d, List.mem_of_mem_take (List.mem_of_find?_eq_some hd), by simpa using List.find?_some hd, h⟩
      · cases h
  · intro k hm
    obtain ⟨i, hi, rfl⟩ := List.getElem_of_mem hm
    exact (hk i hi).2.2.2.1
  · intro k hm hd
    obtain ⟨i, hi, rfl⟩ := List.getElem_of_mem hm
    exact (hk i hi).2.2.2.2 hd

theorem below_dN {w w' : World} {n : Nat} (h : Below (w.drewN n).heap.size (w.drewN n) w') : Below w.heap.size w w' := ⟨h.os, h.tape, h.output, h.size, h.block⟩
set_option maxHeartbeats 4000000 in
set_option maxRecDepth 100000 in
theorem tcheck_any (A1 : Option Addr) (av : List Fm) (c1 : Nat) (A2 : Option Addr) (f : Fm) (rest : List Fm) (n2 c2 : Nat) (hn2 : n2 = rest.length + 1) (w : World) (h1 : Fs w w.heap.size A1 av) (h2 : Fs w w.heap.size A2 (f :: rest)) (hl : av.length ≤ 100000) (hr : rest.length ≤ 100000) (hz : f.p.size ≤ 100000) (hw : WideK f.ls) (hTb : Tabs w) (r : Int) (he : chkP (fkeys av) f.key (fkeys rest) = r) :
    Calls Tryz.prog 19 #[.agg #[.slice A1 av.length c1], .slice A2 n2 c2] w fun e w' => e = .returned (.int .i64 r) ∧ Below w.heap.size w w' := by
  have hal : Below w.heap.size w ((w.alloc (.cells #[.slice A1 av.length c1] 31)).alloc (.cells #[.string f.p, .bool f.d, .slice f.a f.ls.length f.c] 42)) := ((Below.refl _ _).alloc (Nat.le_refl _) _).alloc (by simp) _
  have HT : Hid (TAt ((w.alloc (.cells #[.slice A1 av.length c1] 31)).alloc (.cells #[.string f.p, .bool f.d, .slice f.a f.ls.length f.c] 42)) w.heap.size A1 av.length c1) := (TAt.new_ w A1 av.length c1).on ((Below.refl _ _).alloc (Nat.le_refl _) _)
  have HX : Hid (FileAt ((w.alloc (.cells #[.slice A1 av.length c1] 31)).alloc (.cells #[.string f.p, .bool f.d, .slice f.a f.ls.length f.c] 42)) (w.heap.size + 1) f) := by
    have h := FileAt.new_ (w.alloc (.cells #[.slice A1 av.length c1] 31)) f
    rw [World.size_alloc] at h
    exact h
  obtain ⟨b, off, e2, hbl, d0, d1, d2⟩ := h2.get (j := 0) (by simp)
  simp only [List.getElem_cons_zero, Nat.zero_mul, Nat.add_zero] at d0 d1 d2
  subst e2
  have H2 := Lib.hid (h2.on hal)
  have HF := Lib.hid ((h2.ok f (by simp)).on hal)
  have CR := Lib.hid (fun W => pright_any f.p W (by omega))
  have CH := Lib.hid (fun W (hb : Below ((w.alloc (.cells #[.slice A1 av.length c1] 31)).alloc (.cells #[.string f.p, .bool f.d, .slice f.a f.ls.length f.c] 42)).heap.size ((w.alloc (.cells #[.slice A1 av.length c1] 31)).alloc (.cells #[.string f.p, .bool f.d, .slice f.a f.ls.length f.c] 42)) W) => holds_any A1 av c1 f.p W ((h1.on hal).on hb) (by omega) hz)
  have CK := Lib.hid (fun W (hb : Below ((w.alloc (.cells #[.slice A1 av.length c1] 31)).alloc (.cells #[.string f.p, .bool f.d, .slice f.a f.ls.length f.c] 42)).heap.size ((w.alloc (.cells #[.slice A1 av.length c1] 31)).alloc (.cells #[.string f.p, .bool f.d, .slice f.a f.ls.length f.c] 42)) W) => by
    have h := lcheck_any f.a (toBs f.ls) f.c W (HF.out.on hb).ls (by rw [toBs_len]; have := hw.1; omega) (fun s hs => by
      obtain ⟨x, hx, rfl⟩ := List.mem_map.1 hs
      have h3 := hw.2 x hx
      have h4 : (toB x).size = x.length := by simp [toB, ByteArray.size]
      omega) (Tabs.on (Tabs.on hTb hal) hb)
    rw [toBs_len] at h
    exact h)
  have HA := Lib.hid hal
  have hdk := key_updir av f.p
  unfold chkP at he
  have hkn : f.key.1 = f.p.data.toList := rfl
  have hkd : f.key.2.1 = f.d := rfl
  have hkl : f.key.2.2 = f.ls := rfl
  rw [hkn, hkd, hkl, ← hdk] at he
  clear hal h1 hTb hz hdk hkn hkd hkl
  obtain ⟨ck, hck⟩ : ∃ x, checkN (toBs f.ls) = x := ⟨_, rfl⟩
  rw [hck] at he CK
  obtain ⟨dv, hdv⟩ : ∃ x, dirAt av (updir f.p) = x := ⟨_, rfl⟩
  rw [hdv] at he CH
  have HX2 : Hid (w.heap.size + 1 < ((w.alloc (.cells #[.slice A1 av.length c1] 31)).alloc (.cells #[.string f.p, .bool f.d, .slice f.a f.ls.length f.c] 42)).heap.size) := by show _ < _; simp
  have x0 := HX.out.c0
  have x1 := HX.out.c1
  have x2 := HX.out.c2
  have t0 := HT.out.c0
  by_cases hpn : names nameP f.p.data.toList = []
  · rw [if_pos hpn] at he
    subst he
    have CR1 := fun W => CR.out W
    unfold pnames at CR1
    simp only [decide_eq_false (show ¬ (names nameP f.p.data.toList ≠ []) by simp [hpn])] at CR1
    go_enter Tryz.func19, Tryz.ntmps19
    go_wp2_with fail
    generalize ((w.alloc (.cells #[.slice A1 av.length c1] 31)).alloc (.cells #[.string f.p, .bool f.d, .slice f.a f.ls.length f.c] 42)) = wa at *
    refine (CR1 _).mono ?_
    rintro e w1 ⟨rfl, hb⟩
    have HB1 := Lib.hid hb
    clear hb x0 x1 x2 t0
    have x0 := (HX.out.on HB1.out).c0
    have x1 := (HX.out.on HB1.out).c1
    have x2 := (HX.out.on HB1.out).c2
    have t0 := (HT.out.on HB1.out).c0
    go_wp2
    go_ret
    exact ⟨rfl, HA.out.trans (HB1.out.mono HA.out.size)⟩
  · rw [if_neg hpn] at he
    have CR1 := fun W => CR.out W
    unfold pnames at CR1
    simp only [decide_eq_true (show (names nameP f.p.data.toList ≠ []) by simp [hpn])] at CR1
    cases rest with
    | nil =>
      rw [if_neg (by simp [fkeys, nextK])] at he
      subst hn2
      simp only [List.length_nil, Nat.zero_add]
      have g1 : ¬ ((1 : Int) < ((1 : Nat) : Int)) := by decide
      go_enter Tryz.func19, Tryz.ntmps19
      go_wp2_with fail
      generalize ((w.alloc (.cells #[.slice A1 av.length c1] 31)).alloc (.cells #[.string f.p, .bool f.d, .slice f.a f.ls.length f.c] 42)) = wa at *
      refine (CR1 _).mono ?_
      rintro e w1 ⟨rfl, hb⟩
      have HB1 := Lib.hid hb
      clear hb x0 x1 x2 t0
      have x0 := (HX.out.on HB1.out).c0
      have x1 := (HX.out.on HB1.out).c1
      have x2 := (HX.out.on HB1.out).c2
      have t0 := (HT.out.on HB1.out).c0
      go_wp2
      (try go_quiet (fail))
      go_wp2_with fail
      cases dv
      · rw [if_pos rfl] at he
        subst he
        refine (CH.out _ (below_drewN HB1.out _)).mono ?_
        rintro e w2 ⟨rfl, hb⟩
        have HB2 := Lib.hid (HB1.out.trans ((below_dN hb).mono HB1.out.size))
        clear hb x0 x1 x2 t0
        have x0 := (HX.out.on HB2.out).c0
        have x1 := (HX.out.on HB2.out).c1
        have x2 := (HX.out.on HB2.out).c2
        have t0 := (HT.out.on HB2.out).c0
        go_wp2
        go_ret
        exact ⟨rfl, HA.out.trans (HB2.out.mono HA.out.size)⟩
      · rw [if_neg (by simp)] at he
        by_cases hc0 : ck = 0
        · cases hfd : f.d
          · rw [hfd] at he x1
            subst hc0
            rw [if_neg (by simp), if_neg (by simp)] at he
            subst he
            refine (CH.out _ (below_drewN HB1.out _)).mono ?_
            rintro e w2 ⟨rfl, hb⟩
            have HB2 := Lib.hid (HB1.out.trans ((below_dN hb).mono HB1.out.size))
            clear hb x0 x1 x2 t0
            have x0 := (HX.out.on HB2.out).c0
            have x1 := (HX.out.on HB2.out).c1
            have x2 := (HX.out.on HB2.out).c2
            have t0 := (HT.out.on HB2.out).c0
            go_wp2_with fail
            refine (CK.out _ HB2.out).mono ?_
            rintro e w3 ⟨rfl, hb⟩
            have HB3 := Lib.hid ((HB2.out).trans (hb.mono (HB2.out).size))
            clear hb x0 x1 x2 t0
            have x0 := (HX.out.on HB3.out).c0
            have x1 := (HX.out.on HB3.out).c1
            have x2 := (HX.out.on HB3.out).c2
            have t0 := (HT.out.on HB3.out).c0
            go_wp2
            go_ret
            exact ⟨rfl, HA.out.trans (HB3.out.mono HA.out.size)⟩
          · rw [hfd] at he x1
            by_cases hrn0 : f.ls.length = 0
            · subst hc0
              rw [if_neg (by simp), if_neg (fun h => h.2 hrn0)] at he
              subst he
              have hpos : ¬ (0 : Int) < (f.ls.length : Int) := by omega
              clear hrn0
              refine (CH.out _ (below_drewN HB1.out _)).mono ?_
              rintro e w2 ⟨rfl, hb⟩
              have HB2 := Lib.hid (HB1.out.trans ((below_dN hb).mono HB1.out.size))
              clear hb x0 x1 x2 t0
              have x0 := (HX.out.on HB2.out).c0
              have x1 := (HX.out.on HB2.out).c1
              have x2 := (HX.out.on HB2.out).c2
              have t0 := (HT.out.on HB2.out).c0
              go_wp2_with fail
              refine (CK.out _ HB2.out).mono ?_
              rintro e w3 ⟨rfl, hb⟩
              have HB3 := Lib.hid ((HB2.out).trans (hb.mono (HB2.out).size))
              clear hb x0 x1 x2 t0
              have x0 := (HX.out.on HB3.out).c0
              have x1 := (HX.out.on HB3.out).c1
              have x2 := (HX.out.on HB3.out).c2
              have t0 := (HT.out.on HB3.out).c0
              go_wp2
              go_ret
              exact ⟨rfl, HA.out.trans (HB3.out.mono HA.out.size)⟩
            · subst hc0
              rw [if_neg (by simp), if_pos ⟨rfl, hrn0⟩] at he
              subst he
              have hpos : (0 : Int) < (f.ls.length : Int) := by omega
              clear hrn0
              refine (CH.out _ (below_drewN HB1.out _)).mono ?_
              rintro e w2 ⟨rfl, hb⟩
              have HB2 := Lib.hid (HB1.out.trans ((below_dN hb).mono HB1.out.size))
              clear hb x0 x1 x2 t0
              have x0 := (HX.out.on HB2.out).c0
              have x1 := (HX.out.on HB2.out).c1
              have x2 := (HX.out.on HB2.out).c2
              have t0 := (HT.out.on HB2.out).c0
              go_wp2_with fail
              refine (CK.out _ HB2.out).mono ?_
              rintro e w3 ⟨rfl, hb⟩
              have HB3 := Lib.hid ((HB2.out).trans (hb.mono (HB2.out).size))
              clear hb x0 x1 x2 t0
              have x0 := (HX.out.on HB3.out).c0
              have x1 := (HX.out.on HB3.out).c1
              have x2 := (HX.out.on HB3.out).c2
              have t0 := (HT.out.on HB3.out).c0
              go_wp2
              go_ret
              exact ⟨rfl, HA.out.trans (HB3.out.mono HA.out.size)⟩
        · rw [if_pos hc0] at he
          subst he
          have hcb : (ck == 0) = false := by simpa using hc0
          have hcb2 : (ck != 0) = true := by simpa using hc0
          refine (CH.out _ (below_drewN HB1.out _)).mono ?_
          rintro e w2 ⟨rfl, hb⟩
          have HB2 := Lib.hid (HB1.out.trans ((below_dN hb).mono HB1.out.size))
          clear hb x0 x1 x2 t0
          have x0 := (HX.out.on HB2.out).c0
          have x1 := (HX.out.on HB2.out).c1
          have x2 := (HX.out.on HB2.out).c2
          have t0 := (HT.out.on HB2.out).c0
          go_wp2_with fail
          refine (CK.out _ HB2.out).mono ?_
          rintro e w3 ⟨rfl, hb⟩
          have HB3 := Lib.hid ((HB2.out).trans (hb.mono (HB2.out).size))
          clear hb x0 x1 x2 t0
          have x0 := (HX.out.on HB3.out).c0
          have x1 := (HX.out.on HB3.out).c1
          have x2 := (HX.out.on HB3.out).c2
          have t0 := (HT.out.on HB3.out).c0
          go_wp2
          go_ret
          exact ⟨rfl, HA.out.trans (HB3.out.mono HA.out.size)⟩
    | cons g rest =>
      obtain ⟨b', off', e', _, g0, _, _⟩ := h2.get (j := 1) (by simp)
      simp only [Option.some.injEq, Addr.mk.injEq, and_true] at e'
      obtain ⟨rfl, rfl⟩ := e'
      simp only [List.getElem_cons_succ, List.getElem_cons_zero, Nat.one_mul] at g0
      have g1 : (1 : Int) < (n2 : Int) := by rw [hn2]; simp; omega
      have g2 : (1 : Nat) < n2 := by rw [hn2]; simp
      have hgb : b < w.heap.size := hbl
      have G0 := Lib.hid (cell_on g0 HA.out)
      have hgk : (fkeys (g :: rest)) = g.key :: fkeys rest := rfl
      rw [hgk] at he
      simp only [nextK, show g.key.1 = g.p.data.toList from rfl] at he
      clear g0 hgk hn2
      by_cases hgp : g.p = f.p
      · have hsb : (g.p.toList == f.p.toList) = true := by rw [hgp]; simp
        rw [hgp, decide_eq_true rfl, if_pos rfl] at he
        subst he
        go_enter Tryz.func19, Tryz.ntmps19
        go_wp2_with fail
        generalize ((w.alloc (.cells #[.slice A1 av.length c1] 31)).alloc (.cells #[.string f.p, .bool f.d, .slice f.a f.ls.length f.c] 42)) = wa at *
        refine (CR1 _).mono ?_
        rintro e w1 ⟨rfl, hb⟩
        have HB1 := Lib.hid hb
        clear hb x0 x1 x2 t0
        have x0 := (HX.out.on HB1.out).c0
        have x1 := (HX.out.on HB1.out).c1
        have x2 := (HX.out.on HB1.out).c2
        have t0 := (HT.out.on HB1.out).c0
        have g0 := cell_on G0.out HB1.out
        go_wp2
        go_quiet (fail)
        go_wp2
        go_ret
        exact ⟨rfl, HA.out.trans ((below_drewN HB1.out _).mono HA.out.size)⟩
      · have hsb : (g.p.toList == f.p.toList) = false := str_ne hgp
        rw [decide_eq_false (fun e => hgp (bytes_inj e)), if_neg (by simp)] at he
        go_enter Tryz.func19, Tryz.ntmps19
        go_wp2_with fail
        generalize ((w.alloc (.cells #[.slice A1 av.length c1] 31)).alloc (.cells #[.string f.p, .bool f.d, .slice f.a f.ls.length f.c] 42)) = wa at *
        refine (CR1 _).mono ?_
        rintro e w1 ⟨rfl, hb⟩
        have HB1 := Lib.hid hb
        clear hb x0 x1 x2 t0
        have x0 := (HX.out.on HB1.out).c0
        have x1 := (HX.out.on HB1.out).c1
        have x2 := (HX.out.on HB1.out).c2
        have t0 := (HT.out.on HB1.out).c0
        have g0 := cell_on G0.out HB1.out
        go_wp2
        go_quiet (fail)
        go_wp2_with fail
        cases dv
        · rw [if_pos rfl] at he
          subst he
          refine (CH.out _ (below_drewN HB1.out _)).mono ?_
          rintro e w2 ⟨rfl, hb⟩
          have HB2 := Lib.hid (HB1.out.trans ((below_dN hb).mono HB1.out.size))
          clear hb x0 x1 x2 t0
          have x0 := (HX.out.on HB2.out).c0
          have x1 := (HX.out.on HB2.out).c1
          have x2 := (HX.out.on HB2.out).c2
          have t0 := (HT.out.on HB2.out).c0
          go_wp2
          go_ret
          exact ⟨rfl, HA.out.trans (HB2.out.mono HA.out.size)⟩
        · rw [if_neg (by simp)] at he
          by_cases hc0 : ck = 0
          · cases hfd : f.d
            · rw [hfd] at he x1
              subst hc0
              rw [if_neg (by simp), if_neg (by simp)] at he
              subst he
              refine (CH.out _ (below_drewN HB1.out _)).mono ?_
              rintro e w2 ⟨rfl, hb⟩
              have HB2 := Lib.hid (HB1.out.trans ((below_dN hb).mono HB1.out.size))
              clear hb x0 x1 x2 t0
              have x0 := (HX.out.on HB2.out).c0
              have x1 := (HX.out.on HB2.out).c1
              have x2 := (HX.out.on HB2.out).c2
              have t0 := (HT.out.on HB2.out).c0
              go_wp2_with fail
              refine (CK.out _ HB2.out).mono ?_
              rintro e w3 ⟨rfl, hb⟩
              have HB3 := Lib.hid ((HB2.out).trans (hb.mono (HB2.out).size))
              clear hb x0 x1 x2 t0
              have x0 := (HX.out.on HB3.out).c0
              have x1 := (HX.out.on HB3.out).c1
              have x2 := (HX.out.on HB3.out).c2
              have t0 := (HT.out.on HB3.out).c0
              go_wp2
              go_ret
              exact ⟨rfl, HA.out.trans (HB3.out.mono HA.out.size)⟩
            · rw [hfd] at he x1
              by_cases hrn0 : f.ls.length = 0
              · subst hc0
                rw [if_neg (by simp), if_neg (fun h => h.2 hrn0)] at he
                subst he
                have hpos : ¬ (0 : Int) < (f.ls.length : Int) := by omega
                clear hrn0
                refine (CH.out _ (below_drewN HB1.out _)).mono ?_
                rintro e w2 ⟨rfl, hb⟩
                have HB2 := Lib.hid (HB1.out.trans ((below_dN hb).mono HB1.out.size))
                clear hb x0 x1 x2 t0
                have x0 := (HX.out.on HB2.out).c0
                have x1 := (HX.out.on HB2.out).c1
                have x2 := (HX.out.on HB2.out).c2
                have t0 := (HT.out.on HB2.out).c0
                go_wp2_with fail
                refine (CK.out _ HB2.out).mono ?_
                rintro e w3 ⟨rfl, hb⟩
                have HB3 := Lib.hid ((HB2.out).trans (hb.mono (HB2.out).size))
                clear hb x0 x1 x2 t0
                have x0 := (HX.out.on HB3.out).c0
                have x1 := (HX.out.on HB3.out).c1
                have x2 := (HX.out.on HB3.out).c2
                have t0 := (HT.out.on HB3.out).c0
                go_wp2
                go_ret
                exact ⟨rfl, HA.out.trans (HB3.out.mono HA.out.size)⟩
              · subst hc0
                rw [if_neg (by simp), if_pos ⟨rfl, hrn0⟩] at he
                subst he
                have hpos : (0 : Int) < (f.ls.length : Int) := by omega
                clear hrn0
                refine (CH.out _ (below_drewN HB1.out _)).mono ?_
                rintro e w2 ⟨rfl, hb⟩
                have HB2 := Lib.hid (HB1.out.trans ((below_dN hb).mono HB1.out.size))
                clear hb x0 x1 x2 t0
                have x0 := (HX.out.on HB2.out).c0
                have x1 := (HX.out.on HB2.out).c1
                have x2 := (HX.out.on HB2.out).c2
                have t0 := (HT.out.on HB2.out).c0
                go_wp2_with fail
                refine (CK.out _ HB2.out).mono ?_
                rintro e w3 ⟨rfl, hb⟩
                have HB3 := Lib.hid ((HB2.out).trans (hb.mono (HB2.out).size))
                clear hb x0 x1 x2 t0
                have x0 := (HX.out.on HB3.out).c0
                have x1 := (HX.out.on HB3.out).c1
                have x2 := (HX.out.on HB3.out).c2
                have t0 := (HT.out.on HB3.out).c0
                go_wp2
                go_ret
                exact ⟨rfl, HA.out.trans (HB3.out.mono HA.out.size)⟩
          · rw [if_pos hc0] at he
            subst he
            have hcb : (ck == 0) = false := by simpa using hc0
            have hcb2 : (ck != 0) = true := by simpa using hc0
            refine (CH.out _ (below_drewN HB1.out _)).mono ?_
            rintro e w2 ⟨rfl, hb⟩
            have HB2 := Lib.hid (HB1.out.trans ((below_dN hb).mono HB1.out.size))
            clear hb x0 x1 x2 t0
            have x0 := (HX.out.on HB2.out).c0
            have x1 := (HX.out.on HB2.out).c1
            have x2 := (HX.out.on HB2.out).c2
            have t0 := (HT.out.on HB2.out).c0
            go_wp2_with fail
            refine (CK.out _ HB2.out).mono ?_
            rintro e w3 ⟨rfl, hb⟩
            have HB3 := Lib.hid ((HB2.out).trans (hb.mono (HB2.out).size))
            clear hb x0 x1 x2 t0
            have x0 := (HX.out.on HB3.out).c0
            have x1 := (HX.out.on HB3.out).c1
            have x2 := (HX.out.on HB3.out).c2
            have t0 := (HT.out.on HB3.out).c0
            go_wp2
            go_ret
            exact ⟨rfl, HA.out.trans (HB3.out.mono HA.out.size)⟩
end Go.Proofs.YtknommnlkdlkdaaGreatDoor
