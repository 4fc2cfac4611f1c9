/- Package tree's check. The library's SortFunc over byPath. -/
import Derived.BigQuiet
import Derived.Deep.QuietTactic
import Derived.Handy
import Derived.Deep.RegionLaw
import Derived.Test.YtalabahjfmcnbaaGreatDoorShelf2
import Derived.Shelf.SlSortCmp.WholeK
import Derived.Test.YtalabahjfmcnbaaGreatDoorCk45
import Derived.Test.YtalabahjfmcnbaaGreatDoorCk52
namespace Go.Proofs.YtalabahjfmcnbaaGreatDoor
open Go.RowKit
set_option linter.unusedVariables false

/-- Does the next file stand at this path, too? -/
def nextK : List PF → List UInt8 → Bool
  | [], _ => false
  | g :: _, p => decide (g.1 = p)
/-- What is wrong with a file behind those ahead of it and ahead of the rest. -/
def chkP (av : List PF) (f : PF) (rest : List PF) : Int :=
  if names nameP f.1 = [] then 8
  else if nextK rest f.1 = true then 10
  else if dirK av (dirP nameP f.1) = false then 9
  else if checkN (toBs f.2.2) ≠ 0 then checkN (toBs f.2.2)
  else if f.2.1 = true ∧ f.2.2.length ≠ 0 then 6 else 0
def chkK (ks : List PF) (i : Nat) : Int := match ks.drop i with
  | [] => 0
  | f :: rest => chkP (ks.take i) f rest
/-- What Of answers: no error, if no file has one; else one of theirs. -/
def OfE (ks : List PF) (er : Int) : Prop := (er = 0 ∧ ∀ i, i < ks.length → chkK ks i = 0) ∨ (er ≠ 0 ∧ ∃ i, i < ks.length ∧ chkK ks i = er)
/-- In order, alike ones beside one another. -/
def WeakK (ks : List PF) : Prop := ∀ i j (hi : i < ks.length) (hj : j < ks.length), i < j → lessK ks[j] ks[i] = false
theorem chkK_at {ks : List PF} {i : Nat} (h : i < ks.length) : chkK ks i = chkP (ks.take i) ks[i] (ks.drop (i + 1)) := by
  unfold chkK
  rw [List.drop_eq_getElem_cons h]
theorem chkP_ok {av : List PF} {f : PF} {rest : List PF} (h : chkP av f rest = 0) : names nameP f.1 ≠ [] ∧ (∀ g ∈ rest.head?, g.1 ≠ f.1) ∧ dirK av (dirP nameP f.1) = true ∧ checkN (toBs f.2.2) = 0 ∧ (f.2.1 = true → f.2.2 = []) := by
  unfold chkP at h
  split at h
  · omega
  rename_i h1
  split at h
  · omega
  rename_i h2
  split at h
  · omega
  rename_i h3
  split at h
  · rename_i h4
    exact absurd h h4
  rename_i h4
  split at h
  · omega
  rename_i h5
  refine ⟨h1, fun g hg => ?_, by simpa using h3, by simpa using h4, fun e => ?_⟩
  · cases rest with
    | nil => cases hg
    | cons x r =>
      simp only [List.head?_cons, Option.mem_some_iff] at hg
      subst hg
      simpa [nextK] using h2
  · by_cases e2 : f.2.2.length = 0
    · exact List.length_eq_zero_iff.1 e2
    · exact absurd ⟨e, e2⟩ h5
theorem well_of {ks : List PF} (hs : WeakK ks) (hc : ∀ i, i < ks.length → chkK ks i = 0) : Well ks := by
  have hk := fun i (hi : i < ks.length) => chkP_ok (by have := hc i hi; rwa [chkK_at hi] at this)
  have hadj : ∀ i (hi : i + 1 < ks.length), lessK (ks[i]'(by omega)) ks[i + 1] = true := fun i hi => by
    have h1 := (hk i (by omega)).2.1 ks[i + 1] (by rw [List.drop_eq_getElem_cons hi]; simp)
    rcases lessK_or (x := ks[i]'(by omega)) (y := ks[i + 1]) (fun e => h1 e.symm) with h | h
    · exact h
    · rw [hs i (i + 1) (by omega) hi (by omega)] at h
      cases h
  have hall : ∀ d i (hi : i + d + 1 < ks.length), lessK (ks[i]'(by omega)) ks[i + d + 1] = true := fun d => by
    induction d with
    | zero => exact fun i hi => hadj i hi
    | succ d ih => exact fun i hi => lessK_trans (ih i (by omega)) (hadj (i + d + 1) hi)
  refine ⟨?_, ?_, ?_, ?_, ?_⟩
  · unfold Rise
    rw [List.pairwise_iff_getElem]
    intro i j hi hj hij
    have h := hall (j - i - 1) i (by omega)
    simp only [show i + (j - i - 1) + 1 = j by omega] at h
    exact h
  · intro k hm
    obtain ⟨i, hi, rfl⟩ := List.getElem_of_mem hm
    exact (hk i hi).1
  · intro k hm
    obtain ⟨i, hi, rfl⟩ := List.getElem_of_mem hm
    have h := (hk i hi).2.2.1
    unfold dirK at h
    rw [Bool.or_eq_true, decide_eq_true_eq] at h
    rcases h with h | h
    · exact .inl h
    · right
      split at h
      · rename_i d hd
        exact ⟨d, List.mem_of_mem_take (List.mem_of_find?_eq_some hd), by simpa using List.find?_some hd, h⟩
      · cases h
  · intro k hm
    obtain ⟨i, hi, rfl⟩ := List.getElem_of_mem hm
    exact (hk i hi).2.2.2.1
  · intro k hm hd
    obtain ⟨i, hi, rfl⟩ := List.getElem_of_mem hm
    exact (hk i hi).2.2.2.2 hd

theorem below_dN {w w' : World} {n : Nat} (h : Below (w.drewN n).heap.size (w.drewN n) w') : Below w.heap.size w w' := ⟨h.os, h.tape, h.output, h.size, h.block⟩
set_option maxHeartbeats 4000000 in
set_option maxRecDepth 100000 in
theorem tcheck_any (A1 : Option Addr) (av : List Fm) (c1 : Nat) (A2 : Option Addr) (f : Fm) (rest : List Fm) (n2 c2 : Nat) (hn2 : n2 = rest.length + 1) (w : World) (h1 : Fs w w.heap.size A1 av) (h2 : Fs w w.heap.size A2 (f :: rest)) (hl : av.length ≤ 100000) (hr : rest.length ≤ 100000) (hz : f.p.size ≤ 100000) (hw : WideK f.ls) (hTb : Tabs w) (r : Int) (he : chkP (fkeys av) f.key (fkeys rest) = r) :
    Calls Tryz.prog 34 #[.agg #[.slice A1 av.length c1], .slice A2 n2 c2] w fun e w' => e = .returned (.int .i64 r) ∧ Below w.heap.size w w' := by
  have hal : Below w.heap.size w ((w.alloc (.cells #[.slice A1 av.length c1] 43)).alloc (.cells #[.string f.p, .bool f.d, .slice f.a f.ls.length f.c] 62)) := ((Below.refl _ _).alloc (Nat.le_refl _) _).alloc (by simp) _
  have HT : Hid (TAt ((w.alloc (.cells #[.slice A1 av.length c1] 43)).alloc (.cells #[.string f.p, .bool f.d, .slice f.a f.ls.length f.c] 62)) w.heap.size A1 av.length c1) := (TAt.new_ w A1 av.length c1).on ((Below.refl _ _).alloc (Nat.le_refl _) _)
  have HX : Hid (FileAt ((w.alloc (.cells #[.slice A1 av.length c1] 43)).alloc (.cells #[.string f.p, .bool f.d, .slice f.a f.ls.length f.c] 62)) (w.heap.size + 1) f) := by
    have h := FileAt.new_ (w.alloc (.cells #[.slice A1 av.length c1] 43)) f
    rw [World.size_alloc] at h
    exact h
  obtain ⟨b, off, e2, hbl, d0, d1, d2⟩ := h2.get (j := 0) (by simp)
  simp only [List.getElem_cons_zero, Nat.zero_mul, Nat.add_zero] at d0 d1 d2
  subst e2
  have H2 := Lib.hid (h2.on hal)
  have HF := Lib.hid ((h2.ok f (by simp)).on hal)
  have CR := Lib.hid (fun W => pright_any f.p W (by omega))
  have CH := Lib.hid (fun W (hb : Below ((w.alloc (.cells #[.slice A1 av.length c1] 43)).alloc (.cells #[.string f.p, .bool f.d, .slice f.a f.ls.length f.c] 62)).heap.size ((w.alloc (.cells #[.slice A1 av.length c1] 43)).alloc (.cells #[.string f.p, .bool f.d, .slice f.a f.ls.length f.c] 62)) W) => holds_any A1 av c1 f.p W ((h1.on hal).on hb) (by omega) hz)
  have CK := Lib.hid (fun W (hb : Below ((w.alloc (.cells #[.slice A1 av.length c1] 43)).alloc (.cells #[.string f.p, .bool f.d, .slice f.a f.ls.length f.c] 62)).heap.size ((w.alloc (.cells #[.slice A1 av.length c1] 43)).alloc (.cells #[.string f.p, .bool f.d, .slice f.a f.ls.length f.c] 62)) W) => by
    have h := lcheck_any f.a (toBs f.ls) f.c W (HF.out.on hb).ls (by rw [toBs_len]; have := hw.1; omega) (fun s hs => by
      obtain ⟨x, hx, rfl⟩ := List.mem_map.1 hs
      have h3 := hw.2 x hx
      have h4 : (toB x).size = x.length := by simp [toB, ByteArray.size]
      omega) (Tabs.on (Tabs.on hTb hal) hb)
    rw [toBs_len] at h
    exact h)
  have HA := Lib.hid hal
  have hdk := key_updir av f.p
  unfold chkP at he
  have hkn : f.key.1 = f.p.data.toList := rfl
  have hkd : f.key.2.1 = f.d := rfl
  have hkl : f.key.2.2 = f.ls := rfl
  rw [hkn, hkd, hkl, ← hdk] at he
  clear hal h1 hTb hz hdk hkn hkd hkl
  obtain ⟨ck, hck⟩ : ∃ x, checkN (toBs f.ls) = x := ⟨_, rfl⟩
  rw [hck] at he CK
  obtain ⟨dv, hdv⟩ : ∃ x, dirAt av (updir f.p) = x := ⟨_, rfl⟩
  rw [hdv] at he CH
  have HX2 : Hid (w.heap.size + 1 < ((w.alloc (.cells #[.slice A1 av.length c1] 43)).alloc (.cells #[.string f.p, .bool f.d, .slice f.a f.ls.length f.c] 62)).heap.size) := by show _ < _; simp
  have x0 := HX.out.c0
  have x1 := HX.out.c1
  have x2 := HX.out.c2
  have t0 := HT.out.c0
  by_cases hpn : names nameP f.p.data.toList = []
  · rw [if_pos hpn] at he
    subst he
    have CR1 := fun W => CR.out W
    unfold pnames at CR1
    simp only [decide_eq_false (show ¬ (names nameP f.p.data.toList ≠ []) by simp [hpn])] at CR1
    go_enter Tryz.func34, Tryz.ntmps34
    go_wp2_with fail
    generalize ((w.alloc (.cells #[.slice A1 av.length c1] 43)).alloc (.cells #[.string f.p, .bool f.d, .slice f.a f.ls.length f.c] 62)) = wa at *
    refine (CR1 _).mono ?_
    rintro e w1 ⟨rfl, hb⟩
    have HB1 := Lib.hid hb
    clear hb x0 x1 x2 t0
    have x0 := (HX.out.on HB1.out).c0
    have x1 := (HX.out.on HB1.out).c1
    have x2 := (HX.out.on HB1.out).c2
    have t0 := (HT.out.on HB1.out).c0
    go_wp2
    go_ret
    exact ⟨rfl, HA.out.trans (HB1.out.mono HA.out.size)⟩
  · rw [if_neg hpn] at he
    have CR1 := fun W => CR.out W
    unfold pnames at CR1
    simp only [decide_eq_true (show (names nameP f.p.data.toList ≠ []) by simp [hpn])] at CR1
    cases rest with
    | nil =>
      rw [if_neg (by simp [fkeys, nextK])] at he
      subst hn2
      simp only [List.length_nil, Nat.zero_add]
      have g1 : ¬ ((1 : Int) < ((1 : Nat) : Int)) := by decide
      go_enter Tryz.func34, Tryz.ntmps34
      go_wp2_with fail
      generalize ((w.alloc (.cells #[.slice A1 av.length c1] 43)).alloc (.cells #[.string f.p, .bool f.d, .slice f.a f.ls.length f.c] 62)) = wa at *
      refine (CR1 _).mono ?_
      rintro e w1 ⟨rfl, hb⟩
      have HB1 := Lib.hid hb
      clear hb x0 x1 x2 t0
      have x0 := (HX.out.on HB1.out).c0
      have x1 := (HX.out.on HB1.out).c1
      have x2 := (HX.out.on HB1.out).c2
      have t0 := (HT.out.on HB1.out).c0
      go_wp2
      (try go_quiet (fail))
      go_wp2_with fail
      cases dv
      · rw [if_pos rfl] at he
        subst he
        refine (CH.out _ (below_drewN HB1.out _)).mono ?_
        rintro e w2 ⟨rfl, hb⟩
        have HB2 := Lib.hid (HB1.out.trans ((below_dN hb).mono HB1.out.size))
        clear hb x0 x1 x2 t0
        have x0 := (HX.out.on HB2.out).c0
        have x1 := (HX.out.on HB2.out).c1
        have x2 := (HX.out.on HB2.out).c2
        have t0 := (HT.out.on HB2.out).c0
        go_wp2
        go_ret
        exact ⟨rfl, HA.out.trans (HB2.out.mono HA.out.size)⟩
      · rw [if_neg (by simp)] at he
        by_cases hc0 : ck = 0
        · cases hfd : f.d
          · rw [hfd] at he x1
            subst hc0
            rw [if_neg (by simp), if_neg (by simp)] at he
            subst he
            refine (CH.out _ (below_drewN HB1.out _)).mono ?_
            rintro e w2 ⟨rfl, hb⟩
            have HB2 := Lib.hid (HB1.out.trans ((below_dN hb).mono HB1.out.size))
            clear hb x0 x1 x2 t0
            have x0 := (HX.out.on HB2.out).c0
            have x1 := (HX.out.on HB2.out).c1
            have x2 := (HX.out.on HB2.out).c2
            have t0 := (HT.out.on HB2.out).c0
            go_wp2_with fail
            refine (CK.out _ HB2.out).mono ?_
            rintro e w3 ⟨rfl, hb⟩
            have HB3 := Lib.hid ((HB2.out).trans (hb.mono (HB2.out).size))
            clear hb x0 x1 x2 t0
            have x0 := (HX.out.on HB3.out).c0
            have x1 := (HX.out.on HB3.out).c1
            have x2 := (HX.out.on HB3.out).c2
            have t0 := (HT.out.on HB3.out).c0
            go_wp2
            go_ret
            exact ⟨rfl, HA.out.trans (HB3.out.mono HA.out.size)⟩
          · rw [hfd] at he x1
            by_cases hrn0 : f.ls.length = 0
            · subst hc0
              rw [if_neg (by simp), if_neg (fun h => h.2 hrn0)] at he
              subst he
              have hpos : ¬ (0 : Int) < (f.ls.length : Int) := by omega
              clear hrn0
              refine (CH.out _ (below_drewN HB1.out _)).mono ?_
              rintro e w2 ⟨rfl, hb⟩
              have HB2 := Lib.hid (HB1.out.trans ((below_dN hb).mono HB1.out.size))
              clear hb x0 x1 x2 t0
              have x0 := (HX.out.on HB2.out).c0
              have x1 := (HX.out.on HB2.out).c1
              have x2 := (HX.out.on HB2.out).c2
              have t0 := (HT.out.on HB2.out).c0
              go_wp2_with fail
              refine (CK.out _ HB2.out).mono ?_
              rintro e w3 ⟨rfl, hb⟩
              have HB3 := Lib.hid ((HB2.out).trans (hb.mono (HB2.out).size))
              clear hb x0 x1 x2 t0
              have x0 := (HX.out.on HB3.out).c0
              have x1 := (HX.out.on HB3.out).c1
              have x2 := (HX.out.on HB3.out).c2
              have t0 := (HT.out.on HB3.out).c0
              go_wp2
              go_ret
              exact ⟨rfl, HA.out.trans (HB3.out.mono HA.out.size)⟩
            · subst hc0
              rw [if_neg (by simp), if_pos ⟨rfl, hrn0⟩] at he
              subst he
              have hpos : (0 : Int) < (f.ls.length : Int) := by omega
              clear hrn0
              refine (CH.out _ (below_drewN HB1.out _)).mono ?_
              rintro e w2 ⟨rfl, hb⟩
              have HB2 := Lib.hid (HB1.out.trans ((below_dN hb).mono HB1.out.size))
              clear hb x0 x1 x2 t0
              have x0 := (HX.out.on HB2.out).c0
              have x1 := (HX.out.on HB2.out).c1
              have x2 := (HX.out.on HB2.out).c2
              have t0 := (HT.out.on HB2.out).c0
              go_wp2_with fail
              refine (CK.out _ HB2.out).mono ?_
              rintro e w3 ⟨rfl, hb⟩
              have HB3 := Lib.hid ((HB2.out).trans (hb.mono (HB2.out).size))
              clear hb x0 x1 x2 t0
              have x0 := (HX.out.on HB3.out).c0
              have x1 := (HX.out.on HB3.out).c1
              have x2 := (HX.out.on HB3.out).c2
              have t0 := (HT.out.on HB3.out).c0
              go_wp2
              go_ret
              exact ⟨rfl, HA.out.trans (HB3.out.mono HA.out.size)⟩
        · rw [if_pos hc0] at he
          subst he
          have hcb : (ck == 0) = false := by simpa using hc0
          have hcb2 : (ck != 0) = true := by simpa using hc0
          refine (CH.out _ (below_drewN HB1.out _)).mono ?_
          rintro e w2 ⟨rfl, hb⟩
          have HB2 := Lib.hid (HB1.out.trans ((below_dN hb).mono HB1.out.size))
          clear hb x0 x1 x2 t0
          have x0 := (HX.out.on HB2.out).c0
          have x1 := (HX.out.on HB2.out).c1
          have x2 := (HX.out.on HB2.out).c2
          have t0 := (HT.out.on HB2.out).c0
          go_wp2_with fail
          refine (CK.out _ HB2.out).mono ?_
          rintro e w3 ⟨rfl, hb⟩
          have HB3 := Lib.hid ((HB2.out).trans (hb.mono (HB2.out).size))
          clear hb x0 x1 x2 t0
          have x0 := (HX.out.on HB3.out).c0
          have x1 := (HX.out.on HB3.out).c1
          have x2 := (HX.out.on HB3.out).c2
          have t0 := (HT.out.on HB3.out).c0
          go_wp2
          go_ret
          exact ⟨rfl, HA.out.trans (HB3.out.mono HA.out.size)⟩
    | cons g rest =>
      obtain ⟨b', off', e', _, g0, _, _⟩ := h2.get (j := 1) (by simp)
      simp only [Option.some.injEq, Addr.mk.injEq, and_true] at e'
      obtain ⟨rfl, rfl⟩ := e'
      simp only [List.getElem_cons_succ, List.getElem_cons_zero, Nat.one_mul] at g0
      have g1 : (1 : Int) < (n2 : Int) := by rw [hn2]; simp; omega
      have g2 : (1 : Nat) < n2 := by rw [hn2]; simp
      have hgb : b < w.heap.size := hbl
      have G0 := Lib.hid (cell_on g0 HA.out)
      have hgk : (fkeys (g :: rest)) = g.key :: fkeys rest := rfl
      rw [hgk] at he
      simp only [nextK, show g.key.1 = g.p.data.toList from rfl] at he
      clear g0 hgk hn2
      by_cases hgp : g.p = f.p
      · have hsb : (g.p.toList == f.p.toList) = true := by rw [hgp]; simp
        rw [hgp, decide_eq_true rfl, if_pos rfl] at he
        subst he
        go_enter Tryz.func34, Tryz.ntmps34
        go_wp2_with fail
        generalize ((w.alloc (.cells #[.slice A1 av.length c1] 43)).alloc (.cells #[.string f.p, .bool f.d, .slice f.a f.ls.length f.c] 62)) = wa at *
        refine (CR1 _).mono ?_
        rintro e w1 ⟨rfl, hb⟩
        have HB1 := Lib.hid hb
        clear hb x0 x1 x2 t0
        have x0 := (HX.out.on HB1.out).c0
        have x1 := (HX.out.on HB1.out).c1
        have x2 := (HX.out.on HB1.out).c2
        have t0 := (HT.out.on HB1.out).c0
        have g0 := cell_on G0.out HB1.out
        go_wp2
        go_quiet (fail)
        go_wp2
        go_ret
        exact ⟨rfl, HA.out.trans ((below_drewN HB1.out _).mono HA.out.size)⟩
      · have hsb : (g.p.toList == f.p.toList) = false := str_ne hgp
        rw [decide_eq_false (fun e => hgp (bytes_inj e)), if_neg (by simp)] at he
        go_enter Tryz.func34, Tryz.ntmps34
        go_wp2_with fail
        generalize ((w.alloc (.cells #[.slice A1 av.length c1] 43)).alloc (.cells #[.string f.p, .bool f.d, .slice f.a f.ls.length f.c] 62)) = wa at *
        refine (CR1 _).mono ?_
        rintro e w1 ⟨rfl, hb⟩
        have HB1 := Lib.hid hb
        clear hb x0 x1 x2 t0
        have x0 := (HX.out.on HB1.out).c0
        have x1 := (HX.out.on HB1.out).c1
        have x2 := (HX.out.on HB1.out).c2
        have t0 := (HT.out.on HB1.out).c0
        have g0 := cell_on G0.out HB1.out
        go_wp2
        go_quiet (fail)
        go_wp2_with fail
        cases dv
        · rw [if_pos rfl] at he
          subst he
          refine (CH.out _ (below_drewN HB1.out _)).mono ?_
          rintro e w2 ⟨rfl, hb⟩
          have HB2 := Lib.hid (HB1.out.trans ((below_dN hb).mono HB1.out.size))
          clear hb x0 x1 x2 t0
          have x0 := (HX.out.on HB2.out).c0
          have x1 := (HX.out.on HB2.out).c1
          have x2 := (HX.out.on HB2.out).c2
          have t0 := (HT.out.on HB2.out).c0
          go_wp2
          go_ret
          exact ⟨rfl, HA.out.trans (HB2.out.mono HA.out.size)⟩
        · rw [if_neg (by simp)] at he
          by_cases hc0 : ck = 0
          · cases hfd : f.d
            · rw [hfd] at he x1
              subst hc0
              rw [if_neg (by simp), if_neg (by simp)] at he
              subst he
              refine (CH.out _ (below_drewN HB1.out _)).mono ?_
              rintro e w2 ⟨rfl, hb⟩
              have HB2 := Lib.hid (HB1.out.trans ((below_dN hb).mono HB1.out.size))
              clear hb x0 x1 x2 t0
              have x0 := (HX.out.on HB2.out).c0
              have x1 := (HX.out.on HB2.out).c1
              have x2 := (HX.out.on HB2.out).c2
              have t0 := (HT.out.on HB2.out).c0
              go_wp2_with fail
              refine (CK.out _ HB2.out).mono ?_
              rintro e w3 ⟨rfl, hb⟩
              have HB3 := Lib.hid ((HB2.out).trans (hb.mono (HB2.out).size))
              clear hb x0 x1 x2 t0
              have x0 := (HX.out.on HB3.out).c0
              have x1 := (HX.out.on HB3.out).c1
              have x2 := (HX.out.on HB3.out).c2
              have t0 := (HT.out.on HB3.out).c0
              go_wp2
              go_ret
              exact ⟨rfl, HA.out.trans (HB3.out.mono HA.out.size)⟩
            · rw [hfd] at he x1
              by_cases hrn0 : f.ls.length = 0
              · subst hc0
                rw [if_neg (by simp), if_neg (fun h => h.2 hrn0)] at he
                subst he
                have hpos : ¬ (0 : Int) < (f.ls.length : Int) := by omega
                clear hrn0
                refine (CH.out _ (below_drewN HB1.out _)).mono ?_
                rintro e w2 ⟨rfl, hb⟩
                have HB2 := Lib.hid (HB1.out.trans ((below_dN hb).mono HB1.out.size))
                clear hb x0 x1 x2 t0
                have x0 := (HX.out.on HB2.out).c0
                have x1 := (HX.out.on HB2.out).c1
                have x2 := (HX.out.on HB2.out).c2
                have t0 := (HT.out.on HB2.out).c0
                go_wp2_with fail
                refine (CK.out _ HB2.out).mono ?_
                rintro e w3 ⟨rfl, hb⟩
                have HB3 := Lib.hid ((HB2.out).trans (hb.mono (HB2.out).size))
                clear hb x0 x1 x2 t0
                have x0 := (HX.out.on HB3.out).c0
                have x1 := (HX.out.on HB3.out).c1
                have x2 := (HX.out.on HB3.out).c2
                have t0 := (HT.out.on HB3.out).c0
                go_wp2
                go_ret
                exact ⟨rfl, HA.out.trans (HB3.out.mono HA.out.size)⟩
              · subst hc0
                rw [if_neg (by simp), if_pos ⟨rfl, hrn0⟩] at he
                subst he
                have hpos : (0 : Int) < (f.ls.length : Int) := by omega
                clear hrn0
                refine (CH.out _ (below_drewN HB1.out _)).mono ?_
                rintro e w2 ⟨rfl, hb⟩
                have HB2 := Lib.hid (HB1.out.trans ((below_dN hb).mono HB1.out.size))
                clear hb x0 x1 x2 t0
                have x0 := (HX.out.on HB2.out).c0
                have x1 := (HX.out.on HB2.out).c1
                have x2 := (HX.out.on HB2.out).c2
                have t0 := (HT.out.on HB2.out).c0
                go_wp2_with fail
                refine (CK.out _ HB2.out).mono ?_
                rintro e w3 ⟨rfl, hb⟩
                have HB3 := Lib.hid ((HB2.out).trans (hb.mono (HB2.out).size))
                clear hb x0 x1 x2 t0
                have x0 := (HX.out.on HB3.out).c0
                have x1 := (HX.out.on HB3.out).c1
                have x2 := (HX.out.on HB3.out).c2
                have t0 := (HT.out.on HB3.out).c0
                go_wp2
                go_ret
                exact ⟨rfl, HA.out.trans (HB3.out.mono HA.out.size)⟩
          · rw [if_pos hc0] at he
            subst he
            have hcb : (ck == 0) = false := by simpa using hc0
            have hcb2 : (ck != 0) = true := by simpa using hc0
            refine (CH.out _ (below_drewN HB1.out _)).mono ?_
            rintro e w2 ⟨rfl, hb⟩
            have HB2 := Lib.hid (HB1.out.trans ((below_dN hb).mono HB1.out.size))
            clear hb x0 x1 x2 t0
            have x0 := (HX.out.on HB2.out).c0
            have x1 := (HX.out.on HB2.out).c1
            have x2 := (HX.out.on HB2.out).c2
            have t0 := (HT.out.on HB2.out).c0
            go_wp2_with fail
            refine (CK.out _ HB2.out).mono ?_
            rintro e w3 ⟨rfl, hb⟩
            have HB3 := Lib.hid ((HB2.out).trans (hb.mono (HB2.out).size))
            clear hb x0 x1 x2 t0
            have x0 := (HX.out.on HB3.out).c0
            have x1 := (HX.out.on HB3.out).c1
            have x2 := (HX.out.on HB3.out).c2
            have t0 := (HT.out.on HB3.out).c0
            go_wp2
            go_ret
            exact ⟨rfl, HA.out.trans (HB3.out.mono HA.out.size)⟩
end Go.Proofs.YtalabahjfmcnbaaGreatDoor
namespace Go.Proofs.YtalabahjfmcnbaaGreatDoor
open Go.RowKit
set_option linter.unusedVariables false


/-- Files whose paths are not far too long. -/
abbrev ShortF := { f : Fm // f.p.size ≤ 100000 }
instance : Inhabited ShortF := ⟨⟨Fm.zero, by decide⟩⟩
def encF (x : ShortF) : List Value := x.1.cells
def cfF (x y : ShortF) : Int := cmpP x.1.p y.1.p
theorem lt_cf (x y : ShortF) : ltOf cfF x y = lessP nameP x.1.p.data.toList y.1.p.data.toList := by
  unfold ltOf cfF cmpP
  by_cases h : x.1.p = y.1.p
  · rw [if_pos h, h, lessP_irrefl]
    rfl
  · rw [if_neg h]
    cases lessP nameP x.1.p.data.toList y.1.p.data.toList <;> simp
theorem swoF : Sort.SWO (ltOf cfF) where
  irrefl x := by rw [lt_cf, lessP_irrefl]
  trans x y z h1 h2 := by
    rw [lt_cf] at *
    exact lessP_trans nameP h1 h2
  ntrans x y z h1 h2 := by
    rw [lt_cf] at *
    cases h : lessP nameP x.1.p.data.toList z.1.p.data.toList with
    | false => rfl
    | true =>
      rcases lessP_total nameP x.1.p.data.toList y.1.p.data.toList with g | g | g
      · rw [g] at h1; cases h1
      · have := lessP_trans nameP g h
        rw [this] at h2
        cases h2
      · rw [g, h2] at h; cases h
theorem cmpLaysF (blk off size : Nat) (w : World) : CmpLays Tryz.prog 33 #[] encF 3 cfF blk off size w := fun m os dk hs x y => by
  refine (bypath_d x.1.p y.1.p x.1.d y.1.d x.1.a y.1.a x.1.ls.length y.1.ls.length x.1.c y.1.c _ x.2 y.2 (cfF x y) rfl).mono ?_
  rintro e w' ⟨rfl, hb⟩
  exact ⟨rfl, hb.grow⟩
theorem put_size (c : Array Value) (off : Nat) (F : Array Value) : (Sort.putCells id off F c).size = c.size := by simp [Sort.putCells]
theorem sortWorld_block (w : World) (g n : Nat) (d : Array ShortF) (os : Array Obj) {cur : Array Value} {t : TypeId} {fz : Nat × Nat} (h : w.heap[g]? = some (.cells cur t fz)) :
    (sortWorldK encF 3 w g 0 n d os).heap[g]? = some (.cells (Sort.putCells id 0 (Sort.flatK encF 3 d) cur) t fz) := by
  have hlt : g < w.heap.size := (Array.getElem?_eq_some_iff.1 h).1
  unfold sortWorldK Sort.grow Sort.putRowK Sort.putRow Sort.mapBlock Sort.ahead
  simp only
  rw [Array.getElem?_append_left (by simpa using hlt), Array.getElem?_modify, if_pos rfl, h]
  rfl
theorem sortWorld_grown (w : World) (g n : Nat) (d : Array ShortF) (os : Array Obj) : w.grownBy (sortWorldK encF 3 w g 0 n d os) (some g) := by
  refine ⟨rfl, rfl, rfl, ?_, fun k hk hne => ?_⟩
  · unfold sortWorldK Sort.grow Sort.putRowK Sort.putRow Sort.mapBlock Sort.ahead
    simp
  · have h : g ≠ k := fun e => hne (by simp [e])
    unfold sortWorldK Sort.grow Sort.putRowK Sort.putRow Sort.mapBlock Sort.ahead
    simp only
    rw [Array.getElem?_append_left (by simpa using hk), Array.getElem?_modify, if_neg h]
theorem flat_take (d : Array ShortF) (cur : Array Value) (h : d.size * 3 ≤ cur.size) : (Sort.putCells id 0 (Sort.flatK encF 3 d) cur).toList.take (d.size * 3) = fcells (d.toList.map (·.1)) := by
  have hl : (fcells (d.toList.map (·.1))).length = d.size * 3 := by rw [fcells_len]; simp
  refine List.ext_getElem? fun t => ?_
  by_cases ht : t < d.size * 3
  · rw [List.getElem?_take, if_pos ht, Array.getElem?_toList]
    simp only [Sort.putCells, Array.getElem?_mapIdx]
    rw [Array.getElem?_eq_getElem (by omega), Option.map_some, if_pos ⟨Nat.zero_le _, by simpa using ht⟩, Nat.sub_zero, Sort.get_flatK _ _ _ _ ht]
    have hj : t / 3 < d.size := by omega
    obtain ⟨e0, e1, e2⟩ := fcells_get (d.toList.map (·.1)) (t / 3) (by simpa using hj)
    have hx : d[t / 3]! = d[t / 3] := getElem!_pos d _ hj
    have hg : (d.toList.map (·.1))[t / 3]'(by simpa using hj) = d[t / 3].1 := by simp
    rw [hg] at e0 e1 e2
    rw [hx]
    have hm : t % 3 = 0 ∨ t % 3 = 1 ∨ t % 3 = 2 := by omega
    rcases hm with hm | hm | hm
    · have e : t = t / 3 * 3 := by omega
      rw [hm]
      conv => rhs; rw [e]
      rw [e0]; rfl
    · have e : t = t / 3 * 3 + 1 := by omega
      rw [hm]
      conv => rhs; rw [e]
      rw [e1]; rfl
    · have e : t = t / 3 * 3 + 2 := by omega
      rw [hm]
      conv => rhs; rw [e]
      rw [e2]; rfl
  · rw [List.getElem?_take, if_neg ht, List.getElem?_eq_none (by rw [hl]; omega)]
theorem sortf_any (g cap : Nat) (fs : List Fm) (w : World) (hr : RowAt w g cap fs) (hz : ∀ f ∈ fs, f.p.size ≤ 100000) (hn : fs.length ≤ 100000) :
    Calls Tryz.prog 32 #[.slice (some ⟨g, 0, none⟩) fs.length cap, .func (.func 33) #[] #[]] w fun e w' => e = .returned (.tuple #[]) ∧ ∃ gs, gs.Perm fs ∧ WeakK (fkeys gs) ∧ RowAt w' g cap gs ∧ w.grownBy w' (some g) := by
  obtain ⟨d, hd⟩ : ∃ d : Array ShortF, d.toList.map (·.1) = fs := ⟨(fs.attach.map fun x => (⟨x.1, hz x.1 x.2⟩ : ShortF)).toArray, by
    have h : ∀ (l : List {x // x ∈ fs}), (l.map fun x => (⟨x.1, hz x.1 x.2⟩ : ShortF)).map (·.1) = l.map (·.1) := fun l => by rw [List.map_map]; rfl
    exact (h fs.attach).trans (List.attach_map_subtype_val fs)⟩
  have hdl : d.size = fs.length := by rw [← hd]; simp
  have eg : ∀ args w, (callFunc 33 args).run Tryz.prog w = .ok (.enter 33 args) w := enters_of Tryz.func33 (by kernel_rfl) rfl
  obtain ⟨cur, h1, h2, h3⟩ := hr.h
  have hcap := hr.len
  have hH : Sort.HoldsK encF 3 w g 0 d := by
    intro t ht
    rw [Sort.size_flatK] at ht
    refine ⟨?_, hr.fz _⟩
    have hj : t / 3 < fs.length := by omega
    obtain ⟨e0, e1, e2⟩ := hr.get hj
    have hx : d[t / 3]! = d[t / 3]'(by omega) := getElem!_pos d _ (by omega)
    have hg : (d[t / 3]'(by omega)).1 = fs[t / 3] := by simp [← hd]
    rw [Sort.get_flatK _ _ _ _ ht, hx, Nat.zero_add]
    show _ = some (id (encF _)[t % 3]!)
    unfold encF
    rw [hg]
    have hm : t % 3 = 0 ∨ t % 3 = 1 ∨ t % 3 = 2 := by omega
    rcases hm with hm | hm | hm
    · have e : t = t / 3 * 3 := by omega
      rw [hm]
      conv => lhs; rw [e]
      rw [e0]; rfl
    · have e : t = t / 3 * 3 + 1 := by omega
      rw [hm]
      conv => lhs; rw [e]
      rw [e1]; rfl
    · have e : t = t / 3 * 3 + 2 := by omega
      rw [hm]
      conv => lhs; rw [e]
      rw [e2]; rfl
  have hcon := AnyQ.slices_SortFunc Tryz.laysSortF 3 Tryz.isAgg62 Tryz.sizeOf62 encF (fun _ => rfl) (fun x v hv => by simp [encF, Fm.cells] at hv; rcases hv with rfl | rfl | rfl <;> rfl) cfF swoF 33 #[] g 0 cap d w eg (cmpLaysF g 0 d.size w) hH hr.lt (by omega)
  rw [hdl] at hcon
  change Calls Tryz.prog 32 _ _ _ at hcon
  refine hcon.mono ?_
  rintro e w' ⟨rfl, d', n, os, hp, hs, rfl⟩
  have hsz : d'.size = d.size := hp.1
  refine ⟨rfl, d'.toList.map (·.1), ?_, ?_, ⟨⟨_, sortWorld_block w g n d' os h1, by rw [put_size]; exact h2, ?_⟩, by simp; omega, hr.max⟩, sortWorld_grown w g n d' os⟩
  · have h := hp.2.2
    rw [← hdl] at h
    have e1 : d'.extract 0 d.size = d' := by rw [← hsz]; simp
    have e2 : d.extract 0 d.size = d := by simp
    rw [e1, e2] at h
    rw [← hd]
    exact h.map _
  · intro i j hi hj hij
    simp only [fkeys, List.length_map, Array.length_toList] at hi hj
    have h := hs i j (Nat.zero_le _) hij (by omega)
    rw [getElem!_pos d' j hj, getElem!_pos d' i hi, lt_cf] at h
    simp only [fkeys, List.getElem_map, Array.getElem_toList]
    exact h
  · rw [List.length_map, Array.length_toList]
    exact flat_take d' cur (by omega)
set_option maxHeartbeats 2000000 in
set_option maxRecDepth 100000 in
theorem insort_nil (p : Option Addr) (cap : Nat) (fv : Value) (w : World) :
    Calls Tryz.prog 72 #[.slice p 0 cap, .int .i64 0, .int .i64 0, fv] w fun e w' => e = .returned (.tuple #[]) ∧ w' = w := by
  go_enter Tryz.func72, Tryz.ntmps72
  go_wp2
  refine wp_loop_rounds 1 ?_
  rw [rounds_succ]
  go_wp2
  go_end0
  exact ⟨rfl, rfl⟩
set_option maxHeartbeats 2000000 in
set_option maxRecDepth 100000 in
theorem pdq_nil (p : Option Addr) (cap : Nat) (lim : Int) (fv : Value) (w : World) :
    Calls Tryz.prog 49 #[.slice p 0 cap, .int .i64 0, .int .i64 0, .int .i64 lim, fv] w fun e w' => e = .returned (.tuple #[]) ∧ w' = w := by
  go_enter Tryz.func49, Tryz.ntmps49
  go_wp2
  refine wp_loop_rounds 1 ?_
  rw [rounds_succ]
  go_wp2_with fail
  refine (insort_nil _ _ _ _).mono ?_
  rintro e w' ⟨rfl, h⟩
  subst h
  go_wp2
  (try simp only [Exit.inBlock, Exit.then])
  refine bodyPost_ret (results_none rfl _ _ _) rfl ?_
  exact ⟨rfl, rfl⟩
set_option maxHeartbeats 2000000 in
set_option maxRecDepth 100000 in
/-- At no file the sort turns nothing. -/
theorem sortf_nil (p : Option Addr) (cap : Nat) (fv : Value) (w : World) :
    Calls Tryz.prog 32 #[.slice p 0 cap, fv] w fun e w' => e = .returned (.tuple #[]) ∧ w' = w := by
  have hl : ∀ W, Calls Tryz.prog 50 #[.int .u64 0] W fun e w' => e = .returned (.int .i64 (Lib.bitLen 0 : Nat)) ∧ w' = W := fun W => by
    have h := Any.bits_Len (SlLaysF0.n15.bits (P := Tryz.prog) { Tryz.laysSortF with }) 0 W (by omega) (by omega)
    exact h
  go_enter Tryz.func32, Tryz.ntmps32
  go_wp2_with fail
  refine (hl _).mono ?_
  rintro e w' ⟨rfl, h⟩
  subst h
  go_wp2_with fail
  refine (pdq_nil _ _ _ _ _).mono ?_
  rintro e w' ⟨rfl, h⟩
  subst h
  go_wp2
  go_end0
  exact ⟨rfl, rfl⟩
theorem perm_keys {gs fs : List Fm} (h : gs.Perm fs) : (fkeys gs).Perm (fkeys fs) := h.map _
end Go.Proofs.YtalabahjfmcnbaaGreatDoor
