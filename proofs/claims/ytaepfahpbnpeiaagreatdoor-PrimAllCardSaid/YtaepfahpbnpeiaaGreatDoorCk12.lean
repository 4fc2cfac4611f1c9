/- The reference's Do of layer 6. -/
import Derived.Test.YtaepfahpbnpeiaaGreatDoorCk11
namespace Go.Proofs.YtaepfahpbnpeiaaGreatDoor
open Go.RowKit
set_option linter.unusedVariables false

/-- A call as it lies. -/
structure Cm where
  kind : Int
  p : ByteArray
  dst : ByteArray
  a : Option Addr
  c : Nat
  ls : List (List UInt8)
def Cm.cells (c : Cm) : List Value := [.int .i64 c.kind, .string c.p, .string c.dst, .slice c.a c.ls.length c.c]
def CallAt (w : World) (g : Nat) (c : Cm) : Prop := w.heap[g]? = some (.cells c.cells.toArray 70 (0, 0))
section
variable {w w' : World} {g : Nat} {c : Cm}
theorem CallAt.c0 (k : CallAt w g c) : w.cell? ⟨g, 0, none⟩ = some (.int .i64 c.kind) := by simp [World.cell?, show w.heap[g]? = _ from k, Cm.cells]
theorem CallAt.c1 (k : CallAt w g c) : w.cell? ⟨g, 1, none⟩ = some (.string c.p) := by simp [World.cell?, show w.heap[g]? = _ from k, Cm.cells]
theorem CallAt.c2 (k : CallAt w g c) : w.cell? ⟨g, 2, none⟩ = some (.string c.dst) := by simp [World.cell?, show w.heap[g]? = _ from k, Cm.cells]
theorem CallAt.c3 (k : CallAt w g c) : w.cell? ⟨g, 3, none⟩ = some (.slice c.a c.ls.length c.c) := by simp [World.cell?, show w.heap[g]? = _ from k, Cm.cells]
theorem CallAt.lt (k : CallAt w g c) : g < w.heap.size := (Array.getElem?_eq_some_iff.1 k).1
theorem CallAt.on (k : CallAt w g c) (hb : Below w.heap.size w w') : CallAt w' g c := (hb.block g k.lt).trans k
theorem CallAt.new_ (w : World) (c : Cm) : CallAt (w.alloc (.cells c.cells.toArray 70)) w.heap.size c := heap_alloc_new w _
end
def rightP (p : ByteArray) : Bool := decide (names nameP p.data.toList ≠ [])
def upB (p : ByteArray) : ByteArray := toB (dirP nameP p.data.toList)
def childF (fs : List Fm) (p : ByteArray) : Bool := fs.any fun g => decide (upB g.p = p)
/-- What a call answers: its error, and the files behind it; ck: the error of its lines. -/
def doF (fs : List Fm) (c : Cm) (ck : Int) : Int × List Fm :=
  if rightP c.p = false ∨ ((c.kind < 0 ∨ 2 < c.kind) ∧ rightP c.dst = false) then (8, fs)
  else match fs.find? fun f => decide (f.p = c.p) with
  | none =>
    if c.kind = 0 then (if dirAt fs (upB c.p) = false then (9, fs) else (0, withF fs ⟨c.p, true, none, 0, []⟩))
    else if c.kind = 1 then (if ck ≠ 0 then (ck, fs) else if dirAt fs (upB c.p) = false then (9, fs) else (0, withF fs ⟨c.p, false, c.a, c.c, c.ls⟩))
    else (9, fs)
  | some f =>
    if c.kind = 0 then (10, fs)
    else if c.kind = 1 then (if f.d = true then (11, fs) else if ck ≠ 0 then (ck, fs) else (0, withF fs ⟨c.p, false, c.a, c.c, c.ls⟩))
    else if c.kind = 2 then (if childF fs c.p = true then (12, fs) else (0, withoutF fs c.p))
    else if f.d = true then (11, fs)
    else if (fs.find? fun g => decide (g.p = c.dst)).isSome = true then (10, fs)
    else if dirAt fs (upB c.dst) = false then (9, fs)
    else (0, withF (withoutF fs c.p) ⟨c.dst, false, f.a, f.c, f.ls⟩)
/-- Files and an error come back. -/
def DoLeft (w : World) (r : Int × List Fm) (e : Ending) (w' : World) : Prop :=
  ∃ A' cap', e = .returned (.tuple #[.slice A' r.2.length cap', .int .i64 r.1]) ∧ Fs w' w'.heap.size A' r.2 ∧ Room A' r.2.length cap' ∧ Below w.heap.size w w'
theorem child_no {fs : List Fm} {p : ByteArray} (h : ∀ j (hj : j < fs.length), upB fs[j].p ≠ p) : childF fs p = false := by
  unfold childF
  rw [List.any_eq_false]
  intro f hf
  obtain ⟨j, hj, rfl⟩ := List.getElem_of_mem hf
  simpa using h j hj
theorem child_yes {fs : List Fm} {p : ByteArray} {j : Nat} (hj : j < fs.length) (h : upB fs[j].p = p) : childF fs p = true := by
  unfold childF
  rw [List.any_eq_true]
  exact ⟨fs[j], List.getElem_mem _, by simpa using h⟩
theorem cell_on {w w' : World} {b off : Nat} {v : Value} (h : w.cell? ⟨b, off, none⟩ = some v) (hb : Below w.heap.size w w') : w'.cell? ⟨b, off, none⟩ = some v := (hb.cell (p := ⟨b, off, none⟩) (World.block_lt_of_cell? _ _ h)).trans h
theorem up_left (s : ByteArray) (w : World) (hs : s.size ≤ 9223372036854775807) : Calls Tryz.prog 61 #[.string s] w fun e w' => e = .returned (.string (upB s)) ∧ Below w.heap.size w w' := refup_any s w hs
theorem with_left (A : Option Addr) (fs : List Fm) (cap n : Nat) (hnl : n = fs.length) (f : Fm) (w0 w : World) (hb : Below w0.heap.size w0 w) (hs : Fs w w.heap.size A fs) (hok : ∀ g ∈ fs, g.Ok w0 w0.heap.size) (hf : f.Ok w0 w0.heap.size) (hn : fs.length ≤ 10000) (hp : ∀ g ∈ fs, g.p.size ≤ 9223372036854775807) (hpf : f.p.size ≤ 9223372036854775807) (res : List Fm) (hres : withF fs f = res) :
    Calls Tryz.prog 62 #[.slice A n cap, .agg #[.string f.p, .bool f.d, .slice f.a f.ls.length f.c]] w fun e w' => ∃ A1 k1, e = .returned (.slice A1 res.length k1) ∧ Hid (Fs w' w'.heap.size A1 res ∧ Room A1 res.length k1) ∧ Below w.heap.size w w' := by
  subst hnl
  refine (refwith_any A fs cap f w hs (hf.on hb) hn hp hpf).mono fun e w' ⟨v, h1, h2, h3⟩ => ?_
  rw [hres] at h2
  have hb2 := hb.trans (h3.mono hb.size)
  obtain ⟨A1, k1, rfl, h4, h5⟩ := h2.fs fun g hg => by
    rw [← hres] at hg
    rcases with_mem hg with h | rfl
    · exact (hok g h).on hb2
    · exact hf.on hb2
  exact ⟨A1, k1, h1, ⟨h4, h5⟩, h3⟩
theorem out_left (A : Option Addr) (fs : List Fm) (cap : Nat) (p : ByteArray) (w0 w : World) (hb : Below w0.heap.size w0 w) (hs : Fs w w.heap.size A fs) (hok : ∀ g ∈ fs, g.Ok w0 w0.heap.size) (hn : fs.length ≤ 100000) (res : List Fm) (hres : withoutF fs p = res) :
    Calls Tryz.prog 63 #[.slice A fs.length cap, .string p] w fun e w' => ∃ A1 k1, e = .returned (.slice A1 res.length k1) ∧ Hid (Fs w' w'.heap.size A1 res ∧ Room A1 res.length k1) ∧ Below w.heap.size w w' := by
  refine (refwithout_any A fs cap p w hs hn).mono fun e w' ⟨v, h1, h2, h3⟩ => ?_
  rw [hres] at h2
  have hb2 := hb.trans (h3.mono hb.size)
  obtain ⟨A1, k1, rfl, h4, h5⟩ := h2.fs fun g hg => by
    rw [← hres] at hg
    exact (hok g (List.mem_filter.1 hg).1).on hb2
  exact ⟨A1, k1, h1, ⟨h4, h5⟩, h3⟩

set_option maxHeartbeats 20000000 in
set_option maxRecDepth 100000 in
theorem refdo_any (A : Option Addr) (fs : List Fm) (cap : Nat) (kind : Int) (p dst : ByteArray) (ca : Option Addr) (cc : Nat) (cls : List (List UInt8)) (ck : Int) (w : World) (hs : Fs w w.heap.size A fs) (hr : Room A fs.length cap) (hok : Strs w w.heap.size ca (toBs cls)) (hr2 : Room ca cls.length cc) (hn : fs.length ≤ 400)
    (hp : ∀ f ∈ fs, f.p.size ≤ 9223372036854775807) (hp1 : p.size ≤ 9223372036854775807) (hp2 : dst.size ≤ 9223372036854775807) (hck : ∀ W, Below w.heap.size w W → Calls Tryz.prog 19 #[.slice ca cls.length cc] W fun e w' => e = .returned (.int .i64 ck) ∧ Below W.heap.size W w') :
    Calls Tryz.prog 34 #[.slice A fs.length cap, .agg #[.int .i64 kind, .string p, .string dst, .slice ca cls.length cc]] w (DoLeft w (doF fs ⟨kind, p, dst, ca, cc, cls⟩ ck)) := by
  obtain ⟨r, hr0⟩ : ∃ r, doF fs ⟨kind, p, dst, ca, cc, cls⟩ ck = r := ⟨_, rfl⟩
  rw [hr0]
  have hal : Below w.heap.size w (w.alloc (.cells #[.int .i64 kind, .string p, .string dst, .slice ca cls.length cc] 70)) := (Below.refl _ _).alloc (Nat.le_refl _) _
  have HC0 : Hid (CallAt (w.alloc (.cells #[.int .i64 kind, .string p, .string dst, .slice ca cls.length cc] 70)) w.heap.size ⟨kind, p, dst, ca, cc, cls⟩) := CallAt.new_ w ⟨kind, p, dst, ca, cc, cls⟩
  have HSA := Lib.hid (hs.on hal)
  have HCL := Lib.hid (hok.on hal)
  have HA := Lib.hid hal
  have HR := Lib.hid hr
  have HR2 := Lib.hid hr2
  have HP := Lib.hid hp
  have HCK : Hid (∀ W, Below (w.alloc (.cells #[.int .i64 kind, .string p, .string dst, .slice ca cls.length cc] 70)).heap.size (w.alloc (.cells #[.int .i64 kind, .string p, .string dst, .slice ca cls.length cc] 70)) W → Calls Tryz.prog 19 #[.slice ca cls.length cc] W fun e w' => e = .returned (.int .i64 ck) ∧ Below W.heap.size W w') := fun W hb => hck W (hal.trans (hb.mono hal.size))
  have H0 := Lib.hid hr0
  clear hal hs hok hr hr2 hp hck hr0
  have a0 := HC0.out.c0
  have a1 := HC0.out.c1
  have a2 := HC0.out.c2
  have a3 := HC0.out.c3
  go_enter Tryz.func34, Tryz.ntmps34
  go_wp2_with fail
  generalize w.alloc (.cells #[.int .i64 kind, .string p, .string dst, .slice ca cls.length cc] 70) = wa at *
  generalize hGe : w.heap.size = G at *
  have HWG : Hid (∀ (A' : Option Addr) (cap' : Nat) (w' : World), Fs w' w'.heap.size A' r.2 → Room A' r.2.length cap' → Below wa.heap.size wa w' → DoLeft w r (.returned (.tuple #[.slice A' r.2.length cap', .int .i64 r.1])) w') := fun A' cap' w' h1 h2 h3 => ⟨A', cap', rfl, h1, h2, by rw [hGe]; exact HA.out.trans (h3.mono (by rw [← hGe]; exact HA.out.size))⟩
  have CR := Lib.hid (fun W => refpright_any p W hp1)
  have CT := Lib.hid (fun W => refpright_any dst W hp2)
  have CF := Lib.hid (fun W (hb : Below wa.heap.size wa W) => reffind_any A fs cap p W (HSA.out.on hb) (by omega))
  have CFT := Lib.hid (fun W (hb : Below wa.heap.size wa W) => reffind_any A fs cap dst W (HSA.out.on hb) (by omega))
  have CU := Lib.hid (fun W => up_left p W hp1)
  have CUT := Lib.hid (fun W => up_left dst W hp2)
  have CD := Lib.hid (fun W (hb : Below wa.heap.size wa W) => refdir_any A fs cap (upB p) W (HSA.out.on hb) (by omega))
  have CDT := Lib.hid (fun W (hb : Below wa.heap.size wa W) => refdir_any A fs cap (upB dst) W (HSA.out.on hb) (by omega))
  have HB0 := Lib.hid (Below.refl wa.heap.size wa)
  obtain ⟨er, res⟩ := r
  by_cases hR : names nameP p.data.toList = []
  · have hRB : rightP p = false := by simp [rightP, hR]
    have h0 := H0.out
    unfold doF at h0
    simp only [hRB, true_or, if_true] at h0
    obtain ⟨rfl, rfl⟩ := Prod.mk.inj h0
    clear h0 H0
    have CRF := CR.out wa
    rw [decide_eq_false (by simp [hR])] at CRF
    clear hR hRB CR CT CF CFT CU CUT CD CDT HCK
    refine (CRF).mono ?_
    rintro e w1 ⟨rfl, hb⟩
    have HB1 := Lib.hid (HB0.out.trans (hb.mono HB0.out.size))
    clear hb a0 a1 a2 a3
    have a0 := (HC0.out.on HB1.out).c0
    have a1 := (HC0.out.on HB1.out).c1
    have a2 := (HC0.out.on HB1.out).c2
    have a3 := (HC0.out.on HB1.out).c3
    go_wp2
    go_ret2
    exact HWG.out _ _ _ (HSA.out.on HB1.out) HR.out HB1.out
  · have hRB : rightP p = true := by simp [rightP, hR]
    have CRT := CR.out wa
    rw [decide_eq_true hR] at CRT
    have CRT := Lib.hid CRT
    by_cases hk : kind < 0 ∨ 2 < kind
    · by_cases hT : names nameP dst.data.toList = []
      · have hTB : rightP dst = false := by simp [rightP, hT]
        have h0 := H0.out
        unfold doF at h0
        simp only [hRB, hTB, hk, and_self, or_true, if_true] at h0
        obtain ⟨rfl, rfl⟩ := Prod.mk.inj h0
        clear h0 H0
        have CTF0 := fun W => CT.out W
        simp only [decide_eq_false (show ¬ names nameP dst.data.toList ≠ [] by simp [hT])] at CTF0
        have CTF := Lib.hid CTF0
        clear CTF0 hT hTB hR hRB CR CT CF CFT CU CUT CD CDT HCK
        rcases hk with hk | hk
        all_goals
          refine CRT.out.mono ?_
          rintro e w1 ⟨rfl, hb⟩
          have HB1 := Lib.hid (HB0.out.trans (hb.mono HB0.out.size))
          clear hb a0 a1 a2 a3
          have a0 := (HC0.out.on HB1.out).c0
          have a1 := (HC0.out.on HB1.out).c1
          have a2 := (HC0.out.on HB1.out).c2
          have a3 := (HC0.out.on HB1.out).c3
          have hk1 : decide (kind < 0) = true ∨ decide (kind < 0) = false := by cases decide (kind < 0) <;> simp
          go_wp2_with fail
          refine (CTF.out _).mono ?_
          rintro e w2 ⟨rfl, hb⟩
          have HB2 := Lib.hid (HB1.out.trans (hb.mono HB1.out.size))
          clear hb a0 a1 a2 a3
          go_wp2
          go_ret2
          exact HWG.out _ _ _ (HSA.out.on HB2.out) HR.out HB2.out
      · have hTB : rightP dst = true := by simp [rightP, hT]
        have CTT0 := fun W => CT.out W
        simp only [decide_eq_true hT] at CTT0
        have CTT := Lib.hid CTT0
        clear CTT0
        have q5 : ¬ ((500 : Int) ≤ (fs.length : Int)) := by omega
        have hn0 : ¬ kind = 0 := by omega
        have hn1 : ¬ kind = 1 := by omega
        have hn2 : ¬ kind = 2 := by omega
        have hkk := hk
        rcases hk with hk | hk
        all_goals
          rcases findZ_cases fs p with ⟨k, hkf, hz, hpf, hnf⟩ | ⟨hz, hnf⟩
          · have hfd := find_at hkf hpf hnf
            have q1 : (0 : Int) ≤ (k : Int) := by omega
            have q2 : (k : Int) < (fs.length : Int) := by omega
            cases hD : dirAt fs (upB p)
            all_goals
              cases hdv : fs[k].d
              · rcases findZ_cases fs dst with ⟨kt, hkt, hzt, hpt, hnt⟩ | ⟨hzt, hnt⟩
                · have hft := find_at hkt hpt hnt
                  have q6 : (0 : Int) ≤ (kt : Int) := by omega
                  have h0 := H0.out
                  unfold doF at h0
                  simp [hRB, hTB, hn0, hn1, hn2, hkk, hfd, hdv, hft] at h0
                  obtain ⟨rfl, rfl⟩ := h0
                  clear H0
                  refine (CRT.out).mono ?_
                  rintro e w1 ⟨rfl, hb⟩
                  have HB1 := Lib.hid (HB0.out.trans (hb.mono HB0.out.size))
                  clear hb a0 a1 a2 a3
                  have a0 := (HC0.out.on HB1.out).c0
                  have a1 := (HC0.out.on HB1.out).c1
                  have a2 := (HC0.out.on HB1.out).c2
                  have a3 := (HC0.out.on HB1.out).c3
                  go_wp2_with fail
                  refine (CTT.out _).mono ?_
                  rintro e w2 ⟨rfl, hb⟩
                  have HB2 := Lib.hid (HB1.out.trans (hb.mono HB1.out.size))
                  clear hb a0 a1 a2 a3
                  have a0 := (HC0.out.on HB2.out).c0
                  have a1 := (HC0.out.on HB2.out).c1
                  have a2 := (HC0.out.on HB2.out).c2
                  have a3 := (HC0.out.on HB2.out).c3
                  go_wp2_with fail
                  have CFk := CF.out w2 HB2.out
                  rw [hz] at CFk
                  refine (CFk).mono ?_
                  rintro e wx ⟨rfl, hwx⟩
                  replace hwx := hwx.symm
                  subst hwx
                  go_wp2_with fail
                  refine (CU.out _).mono ?_
                  rintro e w3 ⟨rfl, hb⟩
                  have HB3 := Lib.hid (HB2.out.trans (hb.mono HB2.out.size))
                  clear hb a0 a1 a2 a3
                  have a0 := (HC0.out.on HB3.out).c0
                  have a1 := (HC0.out.on HB3.out).c1
                  have a2 := (HC0.out.on HB3.out).c2
                  have a3 := (HC0.out.on HB3.out).c3
                  go_wp2_with fail
                  have CDk := CD.out w3 HB3.out
                  rw [hD] at CDk
                  refine (CDk).mono ?_
                  rintro e wx ⟨rfl, hwx⟩
                  replace hwx := hwx.symm
                  subst hwx
                  clear CFk CDk
                  obtain ⟨b, off, rfl, hbb, d0, d1, d2⟩ := (HSA.out.on HB3.out).get hkf
                  rw [hdv] at d1
                  clear d0
                  go_wp2_with fail
                  have CFk := CFT.out w3 HB3.out
                  rw [hzt] at CFk
                  refine (CFk).mono ?_
                  rintro e wx ⟨rfl, hwx⟩
                  replace hwx := hwx.symm
                  subst hwx
                  clear CFk
                  go_wp2
                  go_ret2
                  exact HWG.out _ _ _ (HSA.out.on HB3.out) HR.out HB3.out
                · have hft := find_none hnt
                  cases hDT : dirAt fs (upB dst)
                  · have h0 := H0.out
                    unfold doF at h0
                    simp [hRB, hTB, hn0, hn1, hn2, hkk, hfd, hdv, hft, hDT] at h0
                    obtain ⟨rfl, rfl⟩ := h0
                    clear H0
                    refine (CRT.out).mono ?_
                    rintro e w1 ⟨rfl, hb⟩
                    have HB1 := Lib.hid (HB0.out.trans (hb.mono HB0.out.size))
                    clear hb a0 a1 a2 a3
                    have a0 := (HC0.out.on HB1.out).c0
                    have a1 := (HC0.out.on HB1.out).c1
                    have a2 := (HC0.out.on HB1.out).c2
                    have a3 := (HC0.out.on HB1.out).c3
                    go_wp2_with fail
                    refine (CTT.out _).mono ?_
                    rintro e w2 ⟨rfl, hb⟩
                    have HB2 := Lib.hid (HB1.out.trans (hb.mono HB1.out.size))
                    clear hb a0 a1 a2 a3
                    have a0 := (HC0.out.on HB2.out).c0
                    have a1 := (HC0.out.on HB2.out).c1
                    have a2 := (HC0.out.on HB2.out).c2
                    have a3 := (HC0.out.on HB2.out).c3
                    go_wp2_with fail
                    have CFk := CF.out w2 HB2.out
                    rw [hz] at CFk
                    refine (CFk).mono ?_
                    rintro e wx ⟨rfl, hwx⟩
                    replace hwx := hwx.symm
                    subst hwx
                    go_wp2_with fail
                    refine (CU.out _).mono ?_
                    rintro e w3 ⟨rfl, hb⟩
                    have HB3 := Lib.hid (HB2.out.trans (hb.mono HB2.out.size))
                    clear hb a0 a1 a2 a3
                    have a0 := (HC0.out.on HB3.out).c0
                    have a1 := (HC0.out.on HB3.out).c1
                    have a2 := (HC0.out.on HB3.out).c2
                    have a3 := (HC0.out.on HB3.out).c3
                    go_wp2_with fail
                    have CDk := CD.out w3 HB3.out
                    rw [hD] at CDk
                    refine (CDk).mono ?_
                    rintro e wx ⟨rfl, hwx⟩
                    replace hwx := hwx.symm
                    subst hwx
                    clear CFk CDk
                    obtain ⟨b, off, rfl, hbb, d0, d1, d2⟩ := (HSA.out.on HB3.out).get hkf
                    rw [hdv] at d1
                    clear d0
                    go_wp2_with fail
                    have CFk := CFT.out w3 HB3.out
                    rw [hzt] at CFk
                    refine (CFk).mono ?_
                    rintro e wx ⟨rfl, hwx⟩
                    replace hwx := hwx.symm
                    subst hwx
                    clear CFk
                    go_wp2_with fail
                    refine (CUT.out _).mono ?_
                    rintro e w4 ⟨rfl, hb⟩
                    have HB4 := Lib.hid (HB3.out.trans (hb.mono HB3.out.size))
                    clear hb a0 a1 a2 a3
                    have a0 := (HC0.out.on HB4.out).c0
                    have a1 := (HC0.out.on HB4.out).c1
                    have a2 := (HC0.out.on HB4.out).c2
                    have a3 := (HC0.out.on HB4.out).c3
                    go_wp2_with fail
                    have CDk := CDT.out w4 HB4.out
                    rw [hDT] at CDk
                    refine (CDk).mono ?_
                    rintro e wx ⟨rfl, hwx⟩
                    replace hwx := hwx.symm
                    subst hwx
                    clear CDk
                    go_wp2
                    go_ret2
                    exact HWG.out _ _ _ (HSA.out.on HB4.out) HR.out HB4.out
                  · have h0 := H0.out
                    unfold doF at h0
                    simp [hRB, hTB, hn0, hn1, hn2, hkk, hfd, hdv, hft, hDT] at h0
                    obtain ⟨rfl, hres⟩ := h0
                    clear H0
                    refine (CRT.out).mono ?_
                    rintro e w1 ⟨rfl, hb⟩
                    have HB1 := Lib.hid (HB0.out.trans (hb.mono HB0.out.size))
                    clear hb a0 a1 a2 a3
                    have a0 := (HC0.out.on HB1.out).c0
                    have a1 := (HC0.out.on HB1.out).c1
                    have a2 := (HC0.out.on HB1.out).c2
                    have a3 := (HC0.out.on HB1.out).c3
                    go_wp2_with fail
                    refine (CTT.out _).mono ?_
                    rintro e w2 ⟨rfl, hb⟩
                    have HB2 := Lib.hid (HB1.out.trans (hb.mono HB1.out.size))
                    clear hb a0 a1 a2 a3
                    have a0 := (HC0.out.on HB2.out).c0
                    have a1 := (HC0.out.on HB2.out).c1
                    have a2 := (HC0.out.on HB2.out).c2
                    have a3 := (HC0.out.on HB2.out).c3
                    go_wp2_with fail
                    have CFk := CF.out w2 HB2.out
                    rw [hz] at CFk
                    refine (CFk).mono ?_
                    rintro e wx ⟨rfl, hwx⟩
                    replace hwx := hwx.symm
                    subst hwx
                    go_wp2_with fail
                    refine (CU.out _).mono ?_
                    rintro e w3 ⟨rfl, hb⟩
                    have HB3 := Lib.hid (HB2.out.trans (hb.mono HB2.out.size))
                    clear hb a0 a1 a2 a3
                    have a0 := (HC0.out.on HB3.out).c0
                    have a1 := (HC0.out.on HB3.out).c1
                    have a2 := (HC0.out.on HB3.out).c2
                    have a3 := (HC0.out.on HB3.out).c3
                    go_wp2_with fail
                    have CDk := CD.out w3 HB3.out
                    rw [hD] at CDk
                    refine (CDk).mono ?_
                    rintro e wx ⟨rfl, hwx⟩
                    replace hwx := hwx.symm
                    subst hwx
                    clear CFk CDk
                    obtain ⟨b, off, rfl, hbb, d0, d1, d2⟩ := (HSA.out.on HB3.out).get hkf
                    rw [hdv] at d1
                    clear d0
                    go_wp2_with fail
                    have CFk := CFT.out w3 HB3.out
                    rw [hzt] at CFk
                    refine (CFk).mono ?_
                    rintro e wx ⟨rfl, hwx⟩
                    replace hwx := hwx.symm
                    subst hwx
                    clear CFk
                    go_wp2_with fail
                    refine (CUT.out _).mono ?_
                    rintro e w4 ⟨rfl, hb⟩
                    have HB4 := Lib.hid (HB3.out.trans (hb.mono HB3.out.size))
                    clear hb a0 a1 a2 a3
                    have a0 := (HC0.out.on HB4.out).c0
                    have a1 := (HC0.out.on HB4.out).c1
                    have a2 := (HC0.out.on HB4.out).c2
                    have a3 := (HC0.out.on HB4.out).c3
                    go_wp2_with fail
                    have CDk := CDT.out w4 HB4.out
                    rw [hDT] at CDk
                    refine (CDk).mono ?_
                    rintro e wx ⟨rfl, hwx⟩
                    replace hwx := hwx.symm
                    subst hwx
                    clear CDk
                    have e0 := (HSA.out.on HB4.out).get hkf
                    obtain ⟨b', off', he', _, _, _, e2⟩ := e0
                    simp only [Option.some.injEq, Addr.mk.injEq, and_true] at he'
                    obtain ⟨rfl, rfl⟩ := he'
                    clear d1 d2
                    have hbb2 : b < w4.heap.size := World.block_lt_of_cell? _ _ e2
                    have hGr := (HC0.out.on HB4.out).lt
                    obtain ⟨out, hout⟩ : ∃ out, withoutF fs p = out := ⟨_, rfl⟩
                    have CO := Lib.hid (fun W (hb : Below wa.heap.size wa W) => out_left (some ⟨b, off, none⟩) fs cap p wa W hb (HSA.out.on hb) HSA.out.ok (by omega) out hout)
                    have hol : out.length ≤ 10000 := by
                      have := without_len fs p
                      rw [hout] at this
                      omega
                    have hokf := HSA.out.ok fs[k] (List.getElem_mem _)
                    have hokg : ∀ g ∈ out, g.Ok wa wa.heap.size := fun g hg => by rw [← hout] at hg; exact HSA.out.ok g (List.mem_filter.1 hg).1
                    have hpg : ∀ g ∈ out, g.p.size ≤ 9223372036854775807 := fun g hg => by rw [← hout] at hg; exact HP.out g (List.mem_filter.1 hg).1
                    rw [hout] at hres
                    have hnew : (⟨dst, false, fs[k].a, fs[k].c, fs[k].ls⟩ : Fm).Ok wa wa.heap.size := ⟨hokf.ls, hokf.r⟩
                    have CWT := Lib.hid (fun A1 k1 W (hb : Below wa.heap.size wa W) (hf : Fs W W.heap.size A1 out) => with_left A1 out k1 out.length rfl ⟨dst, false, fs[k].a, fs[k].c, fs[k].ls⟩ wa W hb hf hokg hnew hol hpg hp2 res hres)
                    clear hokf hokg hpg hnew hres hout hol
                    generalize fs[k].a = xa at *
                    generalize fs[k].c = xc at *
                    generalize fs[k].ls = xl at *
                    go_wp2_with fail
                    go_region_held3 (fun w' => w'.cell? ⟨G, 1, none⟩ = some (.string p) ∧ w'.cell? ⟨G, 2, none⟩ = some (.string dst) ∧ w'.cell? ⟨b, off + k * 3 + 2, none⟩ = some (.slice xa xl.length xc)) (first | exact ⟨a1, a2, e2⟩ | exact ⟨cell_on a1 (below_drew hb7), cell_on a2 (below_drew hb7), cell_on e2 (below_drew hb7)⟩ | exact ⟨cell_on (cell_on a1 (below_drew hb7)) hb8, cell_on (cell_on a2 (below_drew hb7)) hb8, cell_on (cell_on e2 (below_drew hb7)) hb8⟩ | (go_keep; done)) (first
                      | (go_at_call 63; refine (CO.out _ (by first | exact HB4.out.drew | exact HB4.out)).mono ?_; rintro e w7 ⟨A7, k7, rfl, hf7, hb7⟩)
                      | (go_at_call 62; refine (CWT.out A7 k7 w7 (HB4.out.trans ((below_drew hb7).mono HB4.out.size)) hf7.out.1).mono ?_; rintro e w8 ⟨A8, k8, rfl, hf8, hb8⟩))
                    have hbz : Hid (Below wa.heap.size wa w8) := (HB4.out.trans ((below_drew hb7).mono HB4.out.size)).trans (hb8.mono (HB4.out.trans ((below_drew hb7).mono HB4.out.size)).size)
                    clear hb7 hb8 hf7 CO CWT
                    go_wp2
                    go_ret2
                    exact HWG.out _ _ _ hf8.out.1 hf8.out.2 hbz.out
              · have h0 := H0.out
                unfold doF at h0
                simp [hRB, hTB, hn0, hn1, hn2, hkk, hfd, hdv] at h0
                obtain ⟨rfl, rfl⟩ := h0
                clear H0
                refine (CRT.out).mono ?_
                rintro e w1 ⟨rfl, hb⟩
                have HB1 := Lib.hid (HB0.out.trans (hb.mono HB0.out.size))
                clear hb a0 a1 a2 a3
                have a0 := (HC0.out.on HB1.out).c0
                have a1 := (HC0.out.on HB1.out).c1
                have a2 := (HC0.out.on HB1.out).c2
                have a3 := (HC0.out.on HB1.out).c3
                go_wp2_with fail
                refine (CTT.out _).mono ?_
                rintro e w2 ⟨rfl, hb⟩
                have HB2 := Lib.hid (HB1.out.trans (hb.mono HB1.out.size))
                clear hb a0 a1 a2 a3
                have a0 := (HC0.out.on HB2.out).c0
                have a1 := (HC0.out.on HB2.out).c1
                have a2 := (HC0.out.on HB2.out).c2
                have a3 := (HC0.out.on HB2.out).c3
                go_wp2_with fail
                have CFk := CF.out w2 HB2.out
                rw [hz] at CFk
                refine (CFk).mono ?_
                rintro e wx ⟨rfl, hwx⟩
                replace hwx := hwx.symm
                subst hwx
                go_wp2_with fail
                refine (CU.out _).mono ?_
                rintro e w3 ⟨rfl, hb⟩
                have HB3 := Lib.hid (HB2.out.trans (hb.mono HB2.out.size))
                clear hb a0 a1 a2 a3
                have a0 := (HC0.out.on HB3.out).c0
                have a1 := (HC0.out.on HB3.out).c1
                have a2 := (HC0.out.on HB3.out).c2
                have a3 := (HC0.out.on HB3.out).c3
                go_wp2_with fail
                have CDk := CD.out w3 HB3.out
                rw [hD] at CDk
                refine (CDk).mono ?_
                rintro e wx ⟨rfl, hwx⟩
                replace hwx := hwx.symm
                subst hwx
                clear CFk CDk
                obtain ⟨b, off, rfl, hbb, d0, d1, d2⟩ := (HSA.out.on HB3.out).get hkf
                rw [hdv] at d1
                clear d0
                go_wp2
                go_ret2
                exact HWG.out _ _ _ (HSA.out.on HB3.out) HR.out HB3.out
          · have hfd := find_none hnf
            cases hD : dirAt fs (upB p)
            all_goals
              have h0 := H0.out
              unfold doF at h0
              simp [hRB, hTB, hn0, hn1, hkk, hfd] at h0
              obtain ⟨rfl, rfl⟩ := h0
              clear H0
              refine (CRT.out).mono ?_
              rintro e w1 ⟨rfl, hb⟩
              have HB1 := Lib.hid (HB0.out.trans (hb.mono HB0.out.size))
              clear hb a0 a1 a2 a3
              have a0 := (HC0.out.on HB1.out).c0
              have a1 := (HC0.out.on HB1.out).c1
              have a2 := (HC0.out.on HB1.out).c2
              have a3 := (HC0.out.on HB1.out).c3
              go_wp2_with fail
              refine (CTT.out _).mono ?_
              rintro e w2 ⟨rfl, hb⟩
              have HB2 := Lib.hid (HB1.out.trans (hb.mono HB1.out.size))
              clear hb a0 a1 a2 a3
              have a0 := (HC0.out.on HB2.out).c0
              have a1 := (HC0.out.on HB2.out).c1
              have a2 := (HC0.out.on HB2.out).c2
              have a3 := (HC0.out.on HB2.out).c3
              go_wp2_with fail
              have CFk := CF.out w2 HB2.out
              rw [hz] at CFk
              refine (CFk).mono ?_
              rintro e wx ⟨rfl, hwx⟩
              replace hwx := hwx.symm
              subst hwx
              go_wp2_with fail
              refine (CU.out _).mono ?_
              rintro e w3 ⟨rfl, hb⟩
              have HB3 := Lib.hid (HB2.out.trans (hb.mono HB2.out.size))
              clear hb a0 a1 a2 a3
              have a0 := (HC0.out.on HB3.out).c0
              have a1 := (HC0.out.on HB3.out).c1
              have a2 := (HC0.out.on HB3.out).c2
              have a3 := (HC0.out.on HB3.out).c3
              go_wp2_with fail
              have CDk := CD.out w3 HB3.out
              rw [hD] at CDk
              refine (CDk).mono ?_
              rintro e wx ⟨rfl, hwx⟩
              replace hwx := hwx.symm
              subst hwx
              clear CFk CDk
              go_wp2
              go_ret2
              exact HWG.out _ _ _ (HSA.out.on HB3.out) HR.out HB3.out
    · have CTT := 0
      clear CTT
      have q5 : ¬ ((500 : Int) ≤ (fs.length : Int)) := by omega
      by_cases hk0 : kind = 0
      · subst hk0
        clear hk
        rcases findZ_cases fs p with ⟨k, hkf, hz, hpf, hnf⟩ | ⟨hz, hnf⟩
        · have hfd := find_at hkf hpf hnf
          have q1 : (0 : Int) ≤ (k : Int) := by omega
          have q2 : (k : Int) < (fs.length : Int) := by omega
          cases hD : dirAt fs (upB p)
          all_goals
            have h0 := H0.out
            unfold doF at h0
            simp [hRB, hfd] at h0
            obtain ⟨rfl, rfl⟩ := h0
            clear H0
            refine (CRT.out).mono ?_
            rintro e w1 ⟨rfl, hb⟩
            have HB1 := Lib.hid (HB0.out.trans (hb.mono HB0.out.size))
            clear hb a0 a1 a2 a3
            have a0 := (HC0.out.on HB1.out).c0
            have a1 := (HC0.out.on HB1.out).c1
            have a2 := (HC0.out.on HB1.out).c2
            have a3 := (HC0.out.on HB1.out).c3
            go_wp2_with fail
            have CFk := CF.out w1 HB1.out
            rw [hz] at CFk
            refine (CFk).mono ?_
            rintro e wx ⟨rfl, hwx⟩
            replace hwx := hwx.symm
            subst hwx
            go_wp2_with fail
            refine (CU.out _).mono ?_
            rintro e w2 ⟨rfl, hb⟩
            have HB2 := Lib.hid (HB1.out.trans (hb.mono HB1.out.size))
            clear hb a0 a1 a2 a3
            have a0 := (HC0.out.on HB2.out).c0
            have a1 := (HC0.out.on HB2.out).c1
            have a2 := (HC0.out.on HB2.out).c2
            have a3 := (HC0.out.on HB2.out).c3
            go_wp2_with fail
            have CDk := CD.out w2 HB2.out
            rw [hD] at CDk
            refine (CDk).mono ?_
            rintro e wx ⟨rfl, hwx⟩
            replace hwx := hwx.symm
            subst hwx
            clear CFk CDk
            clear CT CF CFT CU CUT CD CDT CRT CR
            go_wp2
            go_ret2
            exact HWG.out _ _ _ (HSA.out.on HB2.out) HR.out HB2.out
        · have hfd := find_none hnf
          cases hD : dirAt fs (upB p)
          · have h0 := H0.out
            unfold doF at h0
            simp [hRB, hfd, hD] at h0
            obtain ⟨rfl, rfl⟩ := h0
            clear H0
            refine (CRT.out).mono ?_
            rintro e w1 ⟨rfl, hb⟩
            have HB1 := Lib.hid (HB0.out.trans (hb.mono HB0.out.size))
            clear hb a0 a1 a2 a3
            have a0 := (HC0.out.on HB1.out).c0
            have a1 := (HC0.out.on HB1.out).c1
            have a2 := (HC0.out.on HB1.out).c2
            have a3 := (HC0.out.on HB1.out).c3
            go_wp2_with fail
            have CFk := CF.out w1 HB1.out
            rw [hz] at CFk
            refine (CFk).mono ?_
            rintro e wx ⟨rfl, hwx⟩
            replace hwx := hwx.symm
            subst hwx
            go_wp2_with fail
            refine (CU.out _).mono ?_
            rintro e w2 ⟨rfl, hb⟩
            have HB2 := Lib.hid (HB1.out.trans (hb.mono HB1.out.size))
            clear hb a0 a1 a2 a3
            have a0 := (HC0.out.on HB2.out).c0
            have a1 := (HC0.out.on HB2.out).c1
            have a2 := (HC0.out.on HB2.out).c2
            have a3 := (HC0.out.on HB2.out).c3
            go_wp2_with fail
            have CDk := CD.out w2 HB2.out
            rw [hD] at CDk
            refine (CDk).mono ?_
            rintro e wx ⟨rfl, hwx⟩
            replace hwx := hwx.symm
            subst hwx
            clear CFk CDk
            clear CT CF CFT CU CUT CD CDT CRT CR
            go_wp2
            go_ret2
            exact HWG.out _ _ _ (HSA.out.on HB2.out) HR.out HB2.out
          · have h0 := H0.out
            unfold doF at h0
            simp [hRB, hfd, hD] at h0
            obtain ⟨rfl, hres⟩ := h0
            clear H0
            refine (CRT.out).mono ?_
            rintro e w1 ⟨rfl, hb⟩
            have HB1 := Lib.hid (HB0.out.trans (hb.mono HB0.out.size))
            clear hb a0 a1 a2 a3
            have a0 := (HC0.out.on HB1.out).c0
            have a1 := (HC0.out.on HB1.out).c1
            have a2 := (HC0.out.on HB1.out).c2
            have a3 := (HC0.out.on HB1.out).c3
            go_wp2_with fail
            have CFk := CF.out w1 HB1.out
            rw [hz] at CFk
            refine (CFk).mono ?_
            rintro e wx ⟨rfl, hwx⟩
            replace hwx := hwx.symm
            subst hwx
            go_wp2_with fail
            refine (CU.out _).mono ?_
            rintro e w2 ⟨rfl, hb⟩
            have HB2 := Lib.hid (HB1.out.trans (hb.mono HB1.out.size))
            clear hb a0 a1 a2 a3
            have a0 := (HC0.out.on HB2.out).c0
            have a1 := (HC0.out.on HB2.out).c1
            have a2 := (HC0.out.on HB2.out).c2
            have a3 := (HC0.out.on HB2.out).c3
            go_wp2_with fail
            have CDk := CD.out w2 HB2.out
            rw [hD] at CDk
            refine (CDk).mono ?_
            rintro e wx ⟨rfl, hwx⟩
            replace hwx := hwx.symm
            subst hwx
            clear CFk CDk
            go_wp2_with fail
            refine (with_left A fs cap _ rfl ⟨p, true, none, 0, []⟩ wa w2 HB2.out (HSA.out.on HB2.out) HSA.out.ok ⟨Strs.none_, fun _ => rfl, Nat.le_refl _⟩ (by omega) HP.out hp1 res hres).mono ?_
            rintro e w9 ⟨A9, k9, rfl, hfw, hb⟩
            have HB9 := Lib.hid (HB2.out.trans (hb.mono HB2.out.size))
            clear hb a0 a1 a2 a3
            go_wp2
            go_ret2
            exact HWG.out _ _ _ hfw.out.1 hfw.out.2 HB9.out
      · by_cases hk1 : kind = 1
        · subst hk1
          clear hk hk0
          rcases findZ_cases fs p with ⟨k, hkf, hz, hpf, hnf⟩ | ⟨hz, hnf⟩
          · have hfd := find_at hkf hpf hnf
            have q1 : (0 : Int) ≤ (k : Int) := by omega
            have q2 : (k : Int) < (fs.length : Int) := by omega
            cases hD : dirAt fs (upB p)
            all_goals
              cases hdv : fs[k].d
              · by_cases hc0 : ck = 0
                · subst hc0
                  have h0 := H0.out
                  unfold doF at h0
                  simp [hRB, hfd, hdv] at h0
                  obtain ⟨rfl, hres⟩ := h0
                  clear H0
                  refine (CRT.out).mono ?_
                  rintro e w1 ⟨rfl, hb⟩
                  have HB1 := Lib.hid (HB0.out.trans (hb.mono HB0.out.size))
                  clear hb a0 a1 a2 a3
                  have a0 := (HC0.out.on HB1.out).c0
                  have a1 := (HC0.out.on HB1.out).c1
                  have a2 := (HC0.out.on HB1.out).c2
                  have a3 := (HC0.out.on HB1.out).c3
                  go_wp2_with fail
                  have CFk := CF.out w1 HB1.out
                  rw [hz] at CFk
                  refine (CFk).mono ?_
                  rintro e wx ⟨rfl, hwx⟩
                  replace hwx := hwx.symm
                  subst hwx
                  go_wp2_with fail
                  refine (CU.out _).mono ?_
                  rintro e w2 ⟨rfl, hb⟩
                  have HB2 := Lib.hid (HB1.out.trans (hb.mono HB1.out.size))
                  clear hb a0 a1 a2 a3
                  have a0 := (HC0.out.on HB2.out).c0
                  have a1 := (HC0.out.on HB2.out).c1
                  have a2 := (HC0.out.on HB2.out).c2
                  have a3 := (HC0.out.on HB2.out).c3
                  go_wp2_with fail
                  have CDk := CD.out w2 HB2.out
                  rw [hD] at CDk
                  refine (CDk).mono ?_
                  rintro e wx ⟨rfl, hwx⟩
                  replace hwx := hwx.symm
                  subst hwx
                  clear CFk CDk
                  obtain ⟨b, off, rfl, _, d0, d1, d2⟩ := (HSA.out.on HB2.out).get hkf
                  rw [hdv] at d1
                  clear d0 d2
                  go_wp2_with fail
                  refine (HCK.out _ HB2.out).mono ?_
                  rintro e w3 ⟨rfl, hb⟩
                  have HB3 := Lib.hid (HB2.out.trans (hb.mono HB2.out.size))
                  clear hb a0 a1 a2 a3
                  have a0 := (HC0.out.on HB3.out).c0
                  have a1 := (HC0.out.on HB3.out).c1
                  have a2 := (HC0.out.on HB3.out).c2
                  have a3 := (HC0.out.on HB3.out).c3
                  go_wp2_with fail
                  refine (with_left (some ⟨b, off, none⟩) fs cap _ rfl ⟨p, false, ca, cc, cls⟩ wa w3 HB3.out (HSA.out.on HB3.out) HSA.out.ok ⟨HCL.out, HR2.out⟩ (by omega) HP.out hp1 res hres).mono ?_
                  rintro e w9 ⟨A9, k9, rfl, hfw, hb⟩
                  have HB9 := Lib.hid (HB3.out.trans (hb.mono HB3.out.size))
                  clear hb a0 a1 a2 a3
                  go_wp2
                  go_ret2
                  exact HWG.out _ _ _ hfw.out.1 hfw.out.2 HB9.out
                · have hcb : (ck == 0) = false := by simpa using hc0
                  have hcn : (ck != 0) = true := by simpa using hc0
                  have h0 := H0.out
                  unfold doF at h0
                  simp [hRB, hfd, hdv, hc0] at h0
                  obtain ⟨rfl, rfl⟩ := h0
                  clear H0
                  refine (CRT.out).mono ?_
                  rintro e w1 ⟨rfl, hb⟩
                  have HB1 := Lib.hid (HB0.out.trans (hb.mono HB0.out.size))
                  clear hb a0 a1 a2 a3
                  have a0 := (HC0.out.on HB1.out).c0
                  have a1 := (HC0.out.on HB1.out).c1
                  have a2 := (HC0.out.on HB1.out).c2
                  have a3 := (HC0.out.on HB1.out).c3
                  go_wp2_with fail
                  have CFk := CF.out w1 HB1.out
                  rw [hz] at CFk
                  refine (CFk).mono ?_
                  rintro e wx ⟨rfl, hwx⟩
                  replace hwx := hwx.symm
                  subst hwx
                  go_wp2_with fail
                  refine (CU.out _).mono ?_
                  rintro e w2 ⟨rfl, hb⟩
                  have HB2 := Lib.hid (HB1.out.trans (hb.mono HB1.out.size))
                  clear hb a0 a1 a2 a3
                  have a0 := (HC0.out.on HB2.out).c0
                  have a1 := (HC0.out.on HB2.out).c1
                  have a2 := (HC0.out.on HB2.out).c2
                  have a3 := (HC0.out.on HB2.out).c3
                  go_wp2_with fail
                  have CDk := CD.out w2 HB2.out
                  rw [hD] at CDk
                  refine (CDk).mono ?_
                  rintro e wx ⟨rfl, hwx⟩
                  replace hwx := hwx.symm
                  subst hwx
                  clear CFk CDk
                  obtain ⟨b, off, rfl, _, d0, d1, d2⟩ := (HSA.out.on HB2.out).get hkf
                  rw [hdv] at d1
                  clear d0 d2
                  go_wp2_with fail
                  refine (HCK.out _ HB2.out).mono ?_
                  rintro e w3 ⟨rfl, hb⟩
                  have HB3 := Lib.hid (HB2.out.trans (hb.mono HB2.out.size))
                  clear hb a0 a1 a2 a3
                  have a0 := (HC0.out.on HB3.out).c0
                  have a1 := (HC0.out.on HB3.out).c1
                  have a2 := (HC0.out.on HB3.out).c2
                  have a3 := (HC0.out.on HB3.out).c3
                  go_wp2
                  go_ret2
                  exact HWG.out _ _ _ (HSA.out.on HB3.out) HR.out HB3.out
              · have h0 := H0.out
                unfold doF at h0
                simp [hRB, hfd, hdv] at h0
                obtain ⟨rfl, rfl⟩ := h0
                clear H0
                refine (CRT.out).mono ?_
                rintro e w1 ⟨rfl, hb⟩
                have HB1 := Lib.hid (HB0.out.trans (hb.mono HB0.out.size))
                clear hb a0 a1 a2 a3
                have a0 := (HC0.out.on HB1.out).c0
                have a1 := (HC0.out.on HB1.out).c1
                have a2 := (HC0.out.on HB1.out).c2
                have a3 := (HC0.out.on HB1.out).c3
                go_wp2_with fail
                have CFk := CF.out w1 HB1.out
                rw [hz] at CFk
                refine (CFk).mono ?_
                rintro e wx ⟨rfl, hwx⟩
                replace hwx := hwx.symm
                subst hwx
                go_wp2_with fail
                refine (CU.out _).mono ?_
                rintro e w2 ⟨rfl, hb⟩
                have HB2 := Lib.hid (HB1.out.trans (hb.mono HB1.out.size))
                clear hb a0 a1 a2 a3
                have a0 := (HC0.out.on HB2.out).c0
                have a1 := (HC0.out.on HB2.out).c1
                have a2 := (HC0.out.on HB2.out).c2
                have a3 := (HC0.out.on HB2.out).c3
                go_wp2_with fail
                have CDk := CD.out w2 HB2.out
                rw [hD] at CDk
                refine (CDk).mono ?_
                rintro e wx ⟨rfl, hwx⟩
                replace hwx := hwx.symm
                subst hwx
                clear CFk CDk
                obtain ⟨b, off, rfl, _, d0, d1, d2⟩ := (HSA.out.on HB2.out).get hkf
                rw [hdv] at d1
                clear d0 d2
                clear CT CF CFT CU CUT CD CDT CRT CR
                go_wp2
                go_ret2
                exact HWG.out _ _ _ (HSA.out.on HB2.out) HR.out HB2.out
          · have hfd := find_none hnf
            by_cases hc0 : ck = 0
            · cases hD : dirAt fs (upB p)
              · subst hc0
                have h0 := H0.out
                unfold doF at h0
                simp [hRB, hfd, hD] at h0
                obtain ⟨rfl, rfl⟩ := h0
                clear H0
                refine (CRT.out).mono ?_
                rintro e w1 ⟨rfl, hb⟩
                have HB1 := Lib.hid (HB0.out.trans (hb.mono HB0.out.size))
                clear hb a0 a1 a2 a3
                have a0 := (HC0.out.on HB1.out).c0
                have a1 := (HC0.out.on HB1.out).c1
                have a2 := (HC0.out.on HB1.out).c2
                have a3 := (HC0.out.on HB1.out).c3
                go_wp2_with fail
                have CFk := CF.out w1 HB1.out
                rw [hz] at CFk
                refine (CFk).mono ?_
                rintro e wx ⟨rfl, hwx⟩
                replace hwx := hwx.symm
                subst hwx
                go_wp2_with fail
                refine (CU.out _).mono ?_
                rintro e w2 ⟨rfl, hb⟩
                have HB2 := Lib.hid (HB1.out.trans (hb.mono HB1.out.size))
                clear hb a0 a1 a2 a3
                have a0 := (HC0.out.on HB2.out).c0
                have a1 := (HC0.out.on HB2.out).c1
                have a2 := (HC0.out.on HB2.out).c2
                have a3 := (HC0.out.on HB2.out).c3
                go_wp2_with fail
                have CDk := CD.out w2 HB2.out
                rw [hD] at CDk
                refine (CDk).mono ?_
                rintro e wx ⟨rfl, hwx⟩
                replace hwx := hwx.symm
                subst hwx
                clear CFk CDk
                go_wp2_with fail
                refine (HCK.out _ HB2.out).mono ?_
                rintro e w3 ⟨rfl, hb⟩
                have HB3 := Lib.hid (HB2.out.trans (hb.mono HB2.out.size))
                clear hb a0 a1 a2 a3
                have a0 := (HC0.out.on HB3.out).c0
                have a1 := (HC0.out.on HB3.out).c1
                have a2 := (HC0.out.on HB3.out).c2
                have a3 := (HC0.out.on HB3.out).c3
                go_wp2
                go_ret2
                exact HWG.out _ _ _ (HSA.out.on HB3.out) HR.out HB3.out
              · subst hc0
                have h0 := H0.out
                unfold doF at h0
                simp [hRB, hfd, hD] at h0
                obtain ⟨rfl, hres⟩ := h0
                clear H0
                refine (CRT.out).mono ?_
                rintro e w1 ⟨rfl, hb⟩
                have HB1 := Lib.hid (HB0.out.trans (hb.mono HB0.out.size))
                clear hb a0 a1 a2 a3
                have a0 := (HC0.out.on HB1.out).c0
                have a1 := (HC0.out.on HB1.out).c1
                have a2 := (HC0.out.on HB1.out).c2
                have a3 := (HC0.out.on HB1.out).c3
                go_wp2_with fail
                have CFk := CF.out w1 HB1.out
                rw [hz] at CFk
                refine (CFk).mono ?_
                rintro e wx ⟨rfl, hwx⟩
                replace hwx := hwx.symm
                subst hwx
                go_wp2_with fail
                refine (CU.out _).mono ?_
                rintro e w2 ⟨rfl, hb⟩
                have HB2 := Lib.hid (HB1.out.trans (hb.mono HB1.out.size))
                clear hb a0 a1 a2 a3
                have a0 := (HC0.out.on HB2.out).c0
                have a1 := (HC0.out.on HB2.out).c1
                have a2 := (HC0.out.on HB2.out).c2
                have a3 := (HC0.out.on HB2.out).c3
                go_wp2_with fail
                have CDk := CD.out w2 HB2.out
                rw [hD] at CDk
                refine (CDk).mono ?_
                rintro e wx ⟨rfl, hwx⟩
                replace hwx := hwx.symm
                subst hwx
                clear CFk CDk
                go_wp2_with fail
                refine (HCK.out _ HB2.out).mono ?_
                rintro e w3 ⟨rfl, hb⟩
                have HB3 := Lib.hid (HB2.out.trans (hb.mono HB2.out.size))
                clear hb a0 a1 a2 a3
                have a0 := (HC0.out.on HB3.out).c0
                have a1 := (HC0.out.on HB3.out).c1
                have a2 := (HC0.out.on HB3.out).c2
                have a3 := (HC0.out.on HB3.out).c3
                go_wp2_with fail
                refine (with_left A fs cap _ rfl ⟨p, false, ca, cc, cls⟩ wa w3 HB3.out (HSA.out.on HB3.out) HSA.out.ok ⟨HCL.out, HR2.out⟩ (by omega) HP.out hp1 res hres).mono ?_
                rintro e w9 ⟨A9, k9, rfl, hfw, hb⟩
                have HB9 := Lib.hid (HB3.out.trans (hb.mono HB3.out.size))
                clear hb a0 a1 a2 a3
                go_wp2
                go_ret2
                exact HWG.out _ _ _ hfw.out.1 hfw.out.2 HB9.out
            · have hcb : (ck == 0) = false := by simpa using hc0
              have hcn : (ck != 0) = true := by simpa using hc0
              cases hD : dirAt fs (upB p)
              all_goals
                have h0 := H0.out
                unfold doF at h0
                simp [hRB, hfd, hc0] at h0
                obtain ⟨rfl, rfl⟩ := h0
                clear H0
                refine (CRT.out).mono ?_
                rintro e w1 ⟨rfl, hb⟩
                have HB1 := Lib.hid (HB0.out.trans (hb.mono HB0.out.size))
                clear hb a0 a1 a2 a3
                have a0 := (HC0.out.on HB1.out).c0
                have a1 := (HC0.out.on HB1.out).c1
                have a2 := (HC0.out.on HB1.out).c2
                have a3 := (HC0.out.on HB1.out).c3
                go_wp2_with fail
                have CFk := CF.out w1 HB1.out
                rw [hz] at CFk
                refine (CFk).mono ?_
                rintro e wx ⟨rfl, hwx⟩
                replace hwx := hwx.symm
                subst hwx
                go_wp2_with fail
                refine (CU.out _).mono ?_
                rintro e w2 ⟨rfl, hb⟩
                have HB2 := Lib.hid (HB1.out.trans (hb.mono HB1.out.size))
                clear hb a0 a1 a2 a3
                have a0 := (HC0.out.on HB2.out).c0
                have a1 := (HC0.out.on HB2.out).c1
                have a2 := (HC0.out.on HB2.out).c2
                have a3 := (HC0.out.on HB2.out).c3
                go_wp2_with fail
                have CDk := CD.out w2 HB2.out
                rw [hD] at CDk
                refine (CDk).mono ?_
                rintro e wx ⟨rfl, hwx⟩
                replace hwx := hwx.symm
                subst hwx
                clear CFk CDk
                go_wp2_with fail
                refine (HCK.out _ HB2.out).mono ?_
                rintro e w3 ⟨rfl, hb⟩
                have HB3 := Lib.hid (HB2.out.trans (hb.mono HB2.out.size))
                clear hb a0 a1 a2 a3
                have a0 := (HC0.out.on HB3.out).c0
                have a1 := (HC0.out.on HB3.out).c1
                have a2 := (HC0.out.on HB3.out).c2
                have a3 := (HC0.out.on HB3.out).c3
                go_wp2
                go_ret2
                exact HWG.out _ _ _ (HSA.out.on HB3.out) HR.out HB3.out
        · have hk2 : kind = 2 := by omega
          clear hk hk0 hk1
          subst hk2
          rcases findZ_cases fs p with ⟨k, hkf, hz, hpf, hnf⟩ | ⟨hz, hnf⟩
          · have hfd := find_at hkf hpf hnf
            have q1 : (0 : Int) ≤ (k : Int) := by omega
            have q2 : (k : Int) < (fs.length : Int) := by omega
            cases hD : dirAt fs (upB p)
            all_goals
              refine (CRT.out).mono ?_
              rintro e w1 ⟨rfl, hb⟩
              have HB1 := Lib.hid (HB0.out.trans (hb.mono HB0.out.size))
              clear hb a0 a1 a2 a3
              have a0 := (HC0.out.on HB1.out).c0
              have a1 := (HC0.out.on HB1.out).c1
              have a2 := (HC0.out.on HB1.out).c2
              have a3 := (HC0.out.on HB1.out).c3
              go_wp2_with fail
              have CFk := CF.out w1 HB1.out
              rw [hz] at CFk
              refine (CFk).mono ?_
              rintro e wx ⟨rfl, hwx⟩
              replace hwx := hwx.symm
              subst hwx
              go_wp2_with fail
              refine (CU.out _).mono ?_
              rintro e w2 ⟨rfl, hb⟩
              have HB2 := Lib.hid (HB1.out.trans (hb.mono HB1.out.size))
              clear hb a0 a1 a2 a3
              have a0 := (HC0.out.on HB2.out).c0
              have a1 := (HC0.out.on HB2.out).c1
              have a2 := (HC0.out.on HB2.out).c2
              have a3 := (HC0.out.on HB2.out).c3
              go_wp2_with fail
              have CDk := CD.out w2 HB2.out
              rw [hD] at CDk
              refine (CDk).mono ?_
              rintro e wx ⟨rfl, hwx⟩
              replace hwx := hwx.symm
              subst hwx
              clear CFk CDk
              clear CT CF CFT CU CUT CD CDT CRT CR
              go_wp2
              go_loopw [9] (fun iv wr => ∃ (j : Nat), j ≤ fs.length ∧ iv = .int .i64 (j : Int) ∧ Hid (∀ i (hi : i < fs.length), i < j → upB fs[i].p ≠ p) ∧ Hid (Below wa.heap.size wa wr)) (fun iv _ => fs.length - (intOf iv).toNat)
              case atStart => exact ⟨0, Nat.zero_le _, rfl, fun i _ h => absurd h (by omega), HB2.out⟩
              case round =>
                obtain ⟨j, hj, rfl, hall, hb⟩ := hrel
                have a0 := (HC0.out.on hb.out).c0
                have a1 := (HC0.out.on hb.out).c1
                have hGr := (HC0.out.on hb.out).lt
                by_cases hlt : j < fs.length
                · obtain ⟨b, off, rfl, hbb, d0, d1, d2⟩ := (HSA.out.on hb.out).get hlt
                  clear d1 d2
                  have CX := Lib.hid (fun W => up_left fs[j].p W (HP.out _ (List.getElem_mem _)))
                  by_cases hup : upB fs[j].p = p
                  · have hch := child_yes hlt hup
                    have h0 := H0.out
                    unfold doF at h0
                    simp [hRB, hfd, hch] at h0
                    obtain ⟨rfl, rfl⟩ := h0
                    clear H0
                    have hbe : (p.toList == p.toList) = true := by simp
                    simp only [hup] at CX
                    clear hall hup
                    generalize fs[j].p = x at *
                    go_wp2_with fail
                    go_region_held3 (fun w' => w'.cell? ⟨b, off + j * 3, none⟩ = some (.string x) ∧ w'.cell? ⟨G, 1, none⟩ = some (.string p)) (first | exact ⟨d0, a1⟩ | exact ⟨(hb7.cell (p := ⟨b, off + j * 3, none⟩) hbb).trans d0, (hb7.cell (p := ⟨G, 1, none⟩) hGr).trans a1⟩ | (go_keep; done)) (first | (go_at_call 61; refine (CX.out _).mono ?_; rintro e w7 ⟨rfl, hb7⟩))
                    have hb8 : Hid (Below wa.heap.size wa w7) := hb.out.trans ((below_drew hb7).mono hb.out.size)
                    clear hb7
                    go_wp2
                    go_ret2
                    exact HWG.out _ _ _ (HSA.out.on hb8.out) HR.out hb8.out
                  · have hall2 : Hid (∀ i (hi : i < fs.length), i < j + 1 → upB fs[i].p ≠ p) := by
                      intro i hi hij
                      by_cases hij2 : i = j
                      · subst hij2; exact hup
                      · exact hall.out i hi (by omega)
                    have hbe := str_ne hup
                    generalize upB fs[j].p = u at *
                    clear hall hup
                    generalize fs[j].p = x at *
                    go_wp2_with fail
                    go_region_held3 (fun w' => w'.cell? ⟨b, off + j * 3, none⟩ = some (.string x) ∧ w'.cell? ⟨G, 1, none⟩ = some (.string p)) (first | exact ⟨d0, a1⟩ | exact ⟨(hb7.cell (p := ⟨b, off + j * 3, none⟩) hbb).trans d0, (hb7.cell (p := ⟨G, 1, none⟩) hGr).trans a1⟩ | (go_keep; done)) (first | (go_at_call 61; refine (CX.out _).mono ?_; rintro e w7 ⟨rfl, hb7⟩))
                    have hb8 : Hid (Below wa.heap.size wa w7) := hb.out.trans ((below_drew hb7).mono hb.out.size)
                    clear hb7
                    go_wp2
                    go_roundw
                    case rel => exact ⟨j + 1, by omega, by go_num, hall2, hb8⟩
                    case measure => simp [intOf] <;> omega
                · obtain rfl : j = fs.length := by omega
                  have hch := child_no fun i hi => hall.out i hi hi
                  have h0 := H0.out
                  unfold doF at h0
                  simp [hRB, hfd, hch] at h0
                  obtain ⟨rfl, hres⟩ := h0
                  clear H0
                  go_wp2_with fail
                  refine (out_left A fs cap p wa wr hb.out (HSA.out.on hb.out) HSA.out.ok (by omega) res hres).mono ?_
                  rintro e w9 ⟨A9, k9, rfl, hfw, hb9⟩
                  have HB9 := Lib.hid (hb.out.trans (hb9.mono hb.out.size))
                  clear hb9
                  go_wp2
                  go_ret2
                  exact HWG.out _ _ _ hfw.out.1 hfw.out.2 HB9.out
          · have hfd := find_none hnf
            cases hD : dirAt fs (upB p)
            all_goals
              have h0 := H0.out
              unfold doF at h0
              simp [hRB, hfd] at h0
              obtain ⟨rfl, rfl⟩ := h0
              clear H0
              refine (CRT.out).mono ?_
              rintro e w1 ⟨rfl, hb⟩
              have HB1 := Lib.hid (HB0.out.trans (hb.mono HB0.out.size))
              clear hb a0 a1 a2 a3
              have a0 := (HC0.out.on HB1.out).c0
              have a1 := (HC0.out.on HB1.out).c1
              have a2 := (HC0.out.on HB1.out).c2
              have a3 := (HC0.out.on HB1.out).c3
              go_wp2_with fail
              have CFk := CF.out w1 HB1.out
              rw [hz] at CFk
              refine (CFk).mono ?_
              rintro e wx ⟨rfl, hwx⟩
              replace hwx := hwx.symm
              subst hwx
              go_wp2_with fail
              refine (CU.out _).mono ?_
              rintro e w2 ⟨rfl, hb⟩
              have HB2 := Lib.hid (HB1.out.trans (hb.mono HB1.out.size))
              clear hb a0 a1 a2 a3
              have a0 := (HC0.out.on HB2.out).c0
              have a1 := (HC0.out.on HB2.out).c1
              have a2 := (HC0.out.on HB2.out).c2
              have a3 := (HC0.out.on HB2.out).c3
              go_wp2_with fail
              have CDk := CD.out w2 HB2.out
              rw [hD] at CDk
              refine (CDk).mono ?_
              rintro e wx ⟨rfl, hwx⟩
              replace hwx := hwx.symm
              subst hwx
              clear CFk CDk
              clear CT CF CFT CU CUT CD CDT CRT CR
              go_wp2
              go_ret2
              exact HWG.out _ _ _ (HSA.out.on HB2.out) HR.out HB2.out
end Go.Proofs.YtaepfahpbnpeiaaGreatDoor
