/- Package tree's Mkdir; what the calls that make trees have in common. Package tree's Remove. Package tree's Write. Package tree's Move. All of package tree's calls, as words. -/
import Derived.BigQuiet
import Derived.Deep.QuietTactic
import Derived.Handy
import Derived.Deep.RegionLaw
import Derived.Test.YtalabahjfmcnbaaGreatDoorCk44
namespace Go.Proofs.YtalabahjfmcnbaaGreatDoor
open Go.RowKit
set_option linter.unusedVariables false

theorem left_err {w wk : World} {G : Nat} {er : Int} {res : List PF} (he : er ≠ 0) (hb : Below w.heap.size w wk) (hG : w.heap.size ≤ G) :
    TreeLeft TrC w er res (.returned (.tuple #[.agg #[.slice none 0 0], .int .i64 er])) (wk.setCell ⟨G, 0, none⟩ (.slice none 0 0)) :=
  ⟨none, 0, 0, rfl, ⟨fun h => absurd h he, fun _ => TrC.zero _⟩, below_set hb hG hb.size⟩
theorem left_ok {w wk : World} {G n c n2 c2 : Nat} {A A2 : Option Addr} {res : List PF} (ht : TrC wk A n c res) (hk : TAt wk G A2 n2 c2) (hb : Below w.heap.size w wk) (hG : w.heap.size ≤ G) :
    TreeLeft TrC w 0 res (.returned (.tuple #[.agg #[.slice A n c], .int .i64 0])) (wk.setCell ⟨G, 0, none⟩ (.slice A n c)) :=
  ⟨A, n, c, rfl, ⟨fun _ => ht.set hk (grown_cell _ _ _ _), fun h => absurd rfl h⟩, below_set hb hG hb.size⟩
theorem key_updir (fs : List Fm) (p : ByteArray) : dirAt fs (updir p) = dirK (fkeys fs) (dirP nameP p.data.toList) := by
  rw [key_dir]
  congr 1
theorem key_found (fs : List Fm) (p : ByteArray) : (fkeys fs).find? (fun k => decide (k.1 = p.data.toList)) = (foundF fs p).map Fm.key := key_find fs p
theorem keys_insert (fs : List Fm) (x : Fm) (i : Nat) : fkeys (fs.take i ++ [x] ++ fs.drop i) = (fkeys fs).take i ++ [x.key] ++ (fkeys fs).drop i := by
  rw [fkeys_app, fkeys_app]
  unfold fkeys
  rw [List.map_take, List.map_drop]
  rfl
/-- A file comes into a row of files in order, where its path is not yet. -/
theorem with_c (A : Option Addr) (fs : List Fm) (cap : Nat) (x : Fm) (w : World) (hs : Fs w w.heap.size A fs) (hrm : Room A fs.length cap) (hA : Flat A) (hn : fs.length ≤ 1000) (hz : ∀ f ∈ fs, f.p.size ≤ 100000) (hr : Rise (fkeys fs)) (hno : ∀ k ∈ fkeys fs, k.1 ≠ x.key.1) (hx : x.Ok w w.heap.size) (hxz : x.p.size ≤ 100000) :
    Calls Tryz.prog 93 #[.agg #[.slice A fs.length cap], .agg #[.string x.p, .bool x.d, .slice x.a x.ls.length x.c]] w fun e w' => ∃ gs, fkeys gs = insK (fkeys fs) x.key ∧ FsLeft w gs e w' := by
  obtain ⟨i, hi, h1, h2⟩ := place_is hr hno
  have hi2 : i ≤ fs.length := by rw [fkeys_len] at hi; exact hi
  have e1 : ∀ j (hj : j < fs.length), j < i → lessF fs[j] x = true := fun j hj hji => by
    have h := h1 j (by rw [fkeys_len]; exact hj) hji
    rw [fkeys_get] at h
    exact h
  have e2 : ∀ j (hj : j < fs.length), i ≤ j → lessF x fs[j] = true := fun j hj hji => by
    have h := h2 j (by rw [fkeys_len]; exact hj) hji
    rw [fkeys_get] at h
    exact h
  refine (with_any A fs cap x i hi2 e1 e2 w hs hrm hA hn hz hx hxz).mono ?_
  intro e w' h
  refine ⟨_, ?_, h⟩
  rw [keys_insert, insK_at hi h1 h2]
theorem without_none {ks : List PF} {p : List UInt8} (h : ∀ k ∈ ks, k.1 ≠ p) : withoutK ks p = ks := by
  unfold withoutK
  rw [List.filter_eq_self]
  intro k hk
  simpa using h k hk
theorem psize_le (p : ByteArray) (h : names nameP p.data.toList ≠ []) : p.size ≤ 200 := by
  have h1 := (names_pieces nameP h).2.1
  have h2 : p.data.toList.length = p.size := by simp
  omega
theorem tr_of {w : World} {A : Option Addr} {c : Nat} {ks : List PF} {gs : List Fm} (h : Fs w w.heap.size A gs ∧ Room A gs.length c ∧ Flat A) (hk : fkeys gs = ks) (hw : Well ks) : TrC w A gs.length c ks :=
  ⟨gs, rfl, h.1, h.2.1, h.2.2, hk, hw⟩
set_option maxHeartbeats 4000000 in
set_option maxRecDepth 100000 in
theorem mkdir_any (B : Option Addr) (n c : Nat) (ks : List PF) (p : ByteArray) (er : Int) (res : List PF) (w : World) (h : TrC w B n c ks) (hk : ks.length ≤ 400) (hp : p.size ≤ 1000) (hd : doK ks 0 p.data.toList [] [] 0 = (er, res)) :
    Calls Tryz.prog 56 #[.agg #[.slice B n c], .string p] w (TreeLeft TrC w er res) := by
  obtain ⟨fs, h⟩ := h
  have hfl := h.fl
  have hlen := h.len
  subst hlen
  have hal : Below w.heap.size w ((w.alloc (.cells #[.slice B fs.length c] 43)).alloc (.cells #[.slice none 0 0] 43)) := ((Below.refl _ _).alloc (Nat.le_refl _) _).alloc (by simp) _
  have hT : TAt ((w.alloc (.cells #[.slice B fs.length c] 43)).alloc (.cells #[.slice none 0 0] 43)) w.heap.size B fs.length c := (TAt.new_ w B fs.length c).on ((Below.refl _ _).alloc (Nat.le_refl _) _)
  have hR : TAt ((w.alloc (.cells #[.slice B fs.length c] 43)).alloc (.cells #[.slice none 0 0] 43)) (w.heap.size + 1) none 0 0 := by
    have h := TAt.new_ (w.alloc (.cells #[.slice B fs.length c] 43)) none 0 0
    exact (by simpa using h : TAt _ (w.heap.size + 1) none 0 0)
  have HTR := Lib.hid h
  have HS := Lib.hid (h.row.on hal)
  have HT := Lib.hid hT
  have HR := Lib.hid hR
  have HA := Lib.hid hal
  have CR := fun W => right_c p W (by omega)
  have hwl := fun (e : er = 0) => do_well h.well (kind := 0) (p := p.data.toList) (q := []) (ls := []) (res := res) (by have h := hd; rw [e] at h; exact h)
  have HW := Lib.hid hwl
  have hd2 := hd
  unfold doK at hd
  have hfind := key_found fs p
  rw [h.keys] at hfind
  rw [hfind] at hd
  have hdir := key_updir fs p
  rw [h.keys] at hdir
  rw [← hdir] at hd
  have hfn : fs.length ≤ 400 := by omega
  clear hal hT hR hwl hfind hdir h hfl
  by_cases hpn : names nameP p.data.toList = []
  · rw [if_pos (.inl hpn)] at hd
    obtain ⟨e1, e2⟩ := Prod.mk.inj hd
    subst e1
    have C := Lib.hid (fun W => by have h := CR W; rw [show pnames p = names nameP p.data.toList from rfl, hpn, decide_eq_false (by simp)] at h; exact h)
    clear CR hd hd2 hpn
    go_enter Tryz.func56, Tryz.ntmps56
    go_wp2_with fail
    generalize ((w.alloc (.cells #[.slice B fs.length c] 43)).alloc (.cells #[.slice none 0 0] 43)) = wa at *
    refine (C.out _).mono ?_
    rintro e w1 ⟨rfl, hb1⟩
    have hR1 := HR.out.on hb1
    have x0 := hR1.c0
    have x1 := hR1.fz 0
    have HF := Lib.hid (left_err (G := w.heap.size + 1) (res := res) (by decide : (8 : Int) ≠ 0) (HA.out.trans (hb1.mono HA.out.size)) (Nat.le_succ _))
    have HRS := Lib.hid (hR1.set none 0 0)
    clear hb1 hR1
    go_wp2
    (try simp only [Exit.inBlock, Exit.then])
    refine bodyPost_ret (ret_tree2 rfl _ _ _ none 0 0 _ rfl rfl HRS.out) rfl ?_
    exact HF.out
  · rw [if_neg (by rintro (h | ⟨h, _⟩); exact hpn h; omega)] at hd
    have C := Lib.hid (fun W => by have h := CR W; rw [show pnames p = names nameP p.data.toList from rfl, decide_eq_true hpn] at h; exact h)
    have CL := fun W hs => look_c B fs c p W hs (by omega)
    unfold FoundLeft at CL
    clear CR
    cases ho : foundF fs p with
    | some g =>
      rw [ho] at CL hd
      simp only [Option.map_some, if_pos] at hd
      obtain ⟨e1, e2⟩ := Prod.mk.inj hd
      subst e1
      have CL := Lib.hid CL
      clear hd hd2 hpn ho
      go_enter Tryz.func56, Tryz.ntmps56
      go_wp2_with fail
      generalize ((w.alloc (.cells #[.slice B fs.length c] 43)).alloc (.cells #[.slice none 0 0] 43)) = wa at *
      refine (C.out _).mono ?_
      rintro e w1 ⟨rfl, hb1⟩
      have t0 := (HT.out.on hb1).c0
      have C2 := Lib.hid (CL.out w1 (HS.out.on hb1))
      have HB1 := Lib.hid hb1
      clear hb1 CL C
      go_wp2_with fail
      refine C2.out.mono ?_
      rintro e w2 ⟨f, rfl, hf, hb2⟩
      have hal3 : Below w2.heap.size w2 (w2.alloc (.cells #[.string f.p, .bool f.d, .slice f.a f.ls.length f.c] 62)) := (Below.refl _ _).alloc (Nat.le_refl _) _
      have hb23 := hb2.trans (hal3.mono hb2.size)
      have hR3 := (HR.out.on HB1.out).on hb23
      have x0 := hR3.c0
      have x1 := hR3.fz 0
      have hbw1 := HA.out.trans (HB1.out.mono HA.out.size)
      have HBW := Lib.hid (hbw1.trans (hb23.mono hbw1.size))
      have HF := Lib.hid (left_err (G := w.heap.size + 1) (res := res) (by decide : (10 : Int) ≠ 0) HBW.out (Nat.le_succ _))
      have HRS := Lib.hid (hR3.set none 0 0)
      clear hb2 hf hal3 hb23 hR3 hbw1 C2
      go_wp2
      (try simp only [Exit.inBlock, Exit.then])
      refine bodyPost_ret (ret_tree2 rfl _ _ _ none 0 0 _ rfl rfl HRS.out) rfl ?_
      exact HF.out
    | none =>
      rw [ho] at CL hd
      simp only [Option.map_none] at hd
      rw [if_pos True.intro] at hd
      have CL := Lib.hid CL
      obtain ⟨r, hr⟩ : ∃ r, (if dirAt fs (updir p) = false then (9 : Int) else 0) = r := ⟨_, rfl⟩
      have CM := Lib.hid (fun W hs => room_any B fs c p W hs (by omega) (by omega) r hr)
      by_cases hdr : dirAt fs (updir p) = false
      · rw [if_pos hdr] at hd hr
        obtain ⟨e1, e2⟩ := Prod.mk.inj hd
        subst e1
        subst hr
        clear hd hd2 hpn ho hdr
        go_enter Tryz.func56, Tryz.ntmps56
        go_wp2_with fail
        generalize ((w.alloc (.cells #[.slice B fs.length c] 43)).alloc (.cells #[.slice none 0 0] 43)) = wa at *
        refine (C.out _).mono ?_
        rintro e w1 ⟨rfl, hb1⟩
        have t0 := (HT.out.on hb1).c0
        have C2 := Lib.hid (CL.out w1 (HS.out.on hb1))
        have HB1 := Lib.hid hb1
        clear hb1 CL C
        go_wp2_with fail
        refine C2.out.mono ?_
        rintro e w2 ⟨f, rfl, hf, hb2⟩
        have hal3 : Below w2.heap.size w2 (w2.alloc (.cells #[.string f.p, .bool f.d, .slice f.a f.ls.length f.c] 62)) := (Below.refl _ _).alloc (Nat.le_refl _) _
        have hb23 := hb2.trans (hal3.mono hb2.size)
        have hR3 := (HR.out.on HB1.out).on hb23
        have x0 := hR3.c0
        have x1 := hR3.fz 0
        have hbw1 := HA.out.trans (HB1.out.mono HA.out.size)
        have HBW := Lib.hid (hbw1.trans (hb23.mono hbw1.size))
        have t3 := ((HT.out.on HB1.out).on hb23).c0
        have C3 := Lib.hid (CM.out _ ((HS.out.on HB1.out).on hb23))
        have HR3 := Lib.hid hR3
        clear hb2 hf hal3 hb23 hR3 hbw1 C2 t0 x0 x1 CM
        go_wp2_with fail
        refine C3.out.mono ?_
        rintro e w4 ⟨rfl, hb4⟩
        have hR4 := HR3.out.on hb4
        have x0 := hR4.c0
        have x1 := hR4.fz 0
        have HF := Lib.hid (left_err (G := w.heap.size + 1) (res := res) (by decide : (9 : Int) ≠ 0) (HBW.out.trans (hb4.mono HBW.out.size)) (Nat.le_succ _))
        have HRS := Lib.hid (hR4.set none 0 0)
        clear hb4 hR4 C3
        go_wp2
        (try simp only [Exit.inBlock, Exit.then])
        refine bodyPost_ret (ret_tree2 rfl _ _ _ none 0 0 _ rfl rfl HRS.out) rfl ?_
        exact HF.out
      · rw [if_neg hdr] at hd hr
        obtain ⟨e1, e2⟩ := Prod.mk.inj hd
        subst e1
        subst hr
        have hno : ∀ k ∈ fkeys fs, k.1 ≠ p.data.toList := by
          have h1 := key_found fs p
          rw [ho] at h1
          exact find_noK h1
        have hz2 : p.size ≤ 200 := psize_le p hpn
        have hre : res = insK (fkeys fs) (p.data.toList, true, []) := by
          rw [← e2, with_rise HTR.out.well.rise, HTR.out.keys]
          congr 1
          exact without_none (by rw [← HTR.out.keys]; exact hno)
        have CW := Lib.hid (fun W hs => with_c B fs c ⟨p, true, none, 0, []⟩ W hs HTR.out.room HTR.out.flat (by omega) (fun f hf => Nat.le_trans (HTR.out.paths f hf) (by decide)) (by rw [HTR.out.keys]; exact HTR.out.well.rise) hno ⟨fun h => absurd h (by simp [toBs]), fun _ => rfl, Nat.le_refl _⟩ (by show p.size ≤ _; omega))
        have HRE := Lib.hid hre
        have HWE := Lib.hid (HW.out rfl)
        clear hd hd2 hpn ho hdr hno hre e2 HW
        go_enter Tryz.func56, Tryz.ntmps56
        go_wp2_with fail
        generalize ((w.alloc (.cells #[.slice B fs.length c] 43)).alloc (.cells #[.slice none 0 0] 43)) = wa at *
        refine (C.out _).mono ?_
        rintro e w1 ⟨rfl, hb1⟩
        have t0 := (HT.out.on hb1).c0
        have C2 := Lib.hid (CL.out w1 (HS.out.on hb1))
        have HB1 := Lib.hid hb1
        clear hb1 CL C
        go_wp2_with fail
        refine C2.out.mono ?_
        rintro e w2 ⟨f, rfl, hf, hb2⟩
        have hal3 : Below w2.heap.size w2 (w2.alloc (.cells #[.string f.p, .bool f.d, .slice f.a f.ls.length f.c] 62)) := (Below.refl _ _).alloc (Nat.le_refl _) _
        have hb23 := hb2.trans (hal3.mono hb2.size)
        have hR3 := (HR.out.on HB1.out).on hb23
        have x0 := hR3.c0
        have x1 := hR3.fz 0
        have hbw1 := HA.out.trans (HB1.out.mono HA.out.size)
        have HBW := Lib.hid (hbw1.trans (hb23.mono hbw1.size))
        have hT3 := (HT.out.on HB1.out).on hb23
        have t3 := hT3.c0
        have HT3 := Lib.hid hT3
        have HS3 := Lib.hid ((HS.out.on HB1.out).on hb23)
        have C3 := Lib.hid (CM.out _ HS3.out)
        have HR3 := Lib.hid hR3
        clear hb2 hf hal3 hb23 hR3 hbw1 C2 t0 x0 x1 CM hT3
        go_wp2_with fail
        refine C3.out.mono ?_
        rintro e w4 ⟨rfl, hb4⟩
        have t4 := (HT3.out.on hb4).c0
        have C4 := Lib.hid (CW.out _ (HS3.out.on hb4))
        have HR4 := Lib.hid (HR3.out.on hb4)
        have HB4 := Lib.hid (HBW.out.trans (hb4.mono HBW.out.size))
        clear hb4 C3 CW t3
        go_wp2_with fail
        refine C4.out.mono ?_
        rintro e w5 ⟨gs, hgk, A5, c5, rfl, hg5, hb5⟩
        have hR5 := HR4.out.on hb5
        have x0 := hR5.c0
        have x1 := hR5.fz 0
        have htr : TrC w5 A5 (List.length (α := Fm) gs) c5 res := tr_of hg5.out (by rw [hgk]; exact HRE.out.symm) HWE.out
        have HF := Lib.hid (left_ok (w := w) htr hR5 (HB4.out.trans (hb5.mono HB4.out.size)) (Nat.le_succ _))
        generalize (List.length (α := Fm) gs) = n5 at *
        have HRS := Lib.hid (hR5.set A5 n5 c5)
        clear hb5 hR5 C4 htr hg5 hgk
        go_wp2
        (try simp only [Exit.inBlock, Exit.then])
        refine bodyPost_ret (ret_tree2 rfl _ _ _ A5 n5 c5 _ rfl rfl HRS.out) rfl ?_
        exact HF.out
end Go.Proofs.YtalabahjfmcnbaaGreatDoor
namespace Go.Proofs.YtalabahjfmcnbaaGreatDoor
open Go.RowKit
set_option linter.unusedVariables false

theorem inK_child (ks : List PF) (p : List UInt8) : (0 < (inK ks p).length) ↔ childK ks p = true := by
  unfold inK childK
  rw [List.length_map, List.any_eq_true]
  constructor
  · intro h
    obtain ⟨k, hk⟩ := List.exists_mem_of_length_pos h
    exact ⟨k, (List.mem_filter.1 hk).1, (List.mem_filter.1 hk).2⟩
  · rintro ⟨k, hk, hd⟩
    exact List.length_pos_of_mem (List.mem_filter.2 ⟨hk, hd⟩)
theorem keys_keep (fs : List Fm) (p : ByteArray) : fkeys (fs.filter (keepF p)) = withoutK (fkeys fs) p.data.toList := key_without fs p
set_option maxHeartbeats 4000000 in
set_option maxRecDepth 100000 in
theorem remove_any (B : Option Addr) (n c : Nat) (ks : List PF) (p : ByteArray) (er : Int) (res : List PF) (w : World) (h : TrC w B n c ks) (hk : ks.length ≤ 400) (hp : p.size ≤ 1000) (hd : doK ks 2 p.data.toList [] [] 0 = (er, res)) :
    Calls Tryz.prog 98 #[.agg #[.slice B n c], .string p] w (TreeLeft TrC w er res) := by
  obtain ⟨fs, h⟩ := h
  have hfl := h.fl
  have hlen := h.len
  subst hlen
  have hal : Below w.heap.size w ((w.alloc (.cells #[.slice B fs.length c] 43)).alloc (.cells #[.slice none 0 0] 43)) := ((Below.refl _ _).alloc (Nat.le_refl _) _).alloc (by simp) _
  have hT : TAt ((w.alloc (.cells #[.slice B fs.length c] 43)).alloc (.cells #[.slice none 0 0] 43)) w.heap.size B fs.length c := (TAt.new_ w B fs.length c).on ((Below.refl _ _).alloc (Nat.le_refl _) _)
  have hR : TAt ((w.alloc (.cells #[.slice B fs.length c] 43)).alloc (.cells #[.slice none 0 0] 43)) (w.heap.size + 1) none 0 0 := by
    have h := TAt.new_ (w.alloc (.cells #[.slice B fs.length c] 43)) none 0 0
    exact (by simpa using h : TAt _ (w.heap.size + 1) none 0 0)
  have HTR := Lib.hid h
  have HS := Lib.hid (h.row.on hal)
  have HT := Lib.hid hT
  have HR := Lib.hid hR
  have HA := Lib.hid hal
  have CR := fun W => right_c p W (by omega)
  have hwl := fun (e : er = 0) => do_well h.well (kind := 2) (p := p.data.toList) (q := []) (ls := []) (res := res) (by have h := hd; rw [e] at h; exact h)
  have HW := Lib.hid hwl
  have hd2 := hd
  unfold doK at hd
  have hfind := key_found fs p
  rw [h.keys] at hfind
  rw [hfind] at hd
  have hfn : fs.length ≤ 400 := by omega
  clear hal hT hR hwl hfind h hfl
  by_cases hpn : names nameP p.data.toList = []
  · rw [if_pos (.inl hpn)] at hd
    obtain ⟨e1, e2⟩ := Prod.mk.inj hd
    subst e1
    have C := Lib.hid (fun W => by have h := CR W; rw [show pnames p = names nameP p.data.toList from rfl, hpn, decide_eq_false (by simp)] at h; exact h)
    clear CR hd hd2 hpn
    go_enter Tryz.func98, Tryz.ntmps98
    go_wp2_with fail
    generalize ((w.alloc (.cells #[.slice B fs.length c] 43)).alloc (.cells #[.slice none 0 0] 43)) = wa at *
    refine (C.out _).mono ?_
    rintro e w1 ⟨rfl, hb1⟩
    have hR1 := HR.out.on hb1
    have x0 := hR1.c0
    have x1 := hR1.fz 0
    have HF := Lib.hid (left_err (G := w.heap.size + 1) (res := res) (by decide : (8 : Int) ≠ 0) (HA.out.trans (hb1.mono HA.out.size)) (Nat.le_succ _))
    have HRS := Lib.hid (hR1.set none 0 0)
    clear hb1 hR1
    go_wp2
    (try simp only [Exit.inBlock, Exit.then])
    refine bodyPost_ret (ret_tree2 rfl _ _ _ none 0 0 _ rfl rfl HRS.out) rfl ?_
    exact HF.out
  · rw [if_neg (by rintro (h | ⟨h, _⟩); exact hpn h; omega)] at hd
    have C := Lib.hid (fun W => by have h := CR W; rw [show pnames p = names nameP p.data.toList from rfl, decide_eq_true hpn] at h; exact h)
    have CL := fun W hs => look_c B fs c p W hs (by omega)
    unfold FoundLeft at CL
    clear CR
    cases ho : foundF fs p with
    | none =>
      rw [ho] at CL hd
      simp only [Option.map_none] at hd
      have hd3 : (9, ks) = (er, res) := by simpa using hd
      obtain ⟨e1, e2⟩ := Prod.mk.inj hd3
      subst e1
      have CL := Lib.hid CL
      clear hd hd2 hd3 hpn ho
      go_enter Tryz.func98, Tryz.ntmps98
      go_wp2_with fail
      generalize ((w.alloc (.cells #[.slice B fs.length c] 43)).alloc (.cells #[.slice none 0 0] 43)) = wa at *
      refine (C.out _).mono ?_
      rintro e w1 ⟨rfl, hb1⟩
      have t0 := (HT.out.on hb1).c0
      have C2 := Lib.hid (CL.out w1 (HS.out.on hb1))
      have HB1 := Lib.hid hb1
      clear hb1 CL C
      go_wp2_with fail
      refine C2.out.mono ?_
      rintro e w2 ⟨f, rfl, hf, hb2⟩
      have hal3 : Below w2.heap.size w2 (w2.alloc (.cells #[.string f.p, .bool f.d, .slice f.a f.ls.length f.c] 62)) := (Below.refl _ _).alloc (Nat.le_refl _) _
      have hb23 := hb2.trans (hal3.mono hb2.size)
      have hR3 := (HR.out.on HB1.out).on hb23
      have hbw1 := HA.out.trans (HB1.out.mono HA.out.size)
      have HBW := Lib.hid (hbw1.trans (hb23.mono hbw1.size))
      have x0 := hR3.c0
      have x1 := hR3.fz 0
      have HF := Lib.hid (left_err (G := w.heap.size + 1) (res := res) (by decide : (9 : Int) ≠ 0) (HBW.out) (Nat.le_succ _))
      have HRS := Lib.hid (hR3.set none 0 0)
      clear hb2 hf hal3 hb23 hR3 hbw1 C2
      go_wp2
      (try simp only [Exit.inBlock, Exit.then])
      refine bodyPost_ret (ret_tree2 rfl _ _ _ none 0 0 _ rfl rfl HRS.out) rfl ?_
      exact HF.out
    | some g =>
      rw [ho] at CL hd
      simp only [Option.map_some] at hd
      have hd3 : (if childK ks p.data.toList = true then ((12 : Int), ks) else (0, withoutK ks p.data.toList)) = (er, res) := by simpa using hd
      have CL := Lib.hid CL
      obtain ⟨ls, hls⟩ : ∃ ls, inK ks p.data.toList = ls := ⟨_, rfl⟩
      have CI := fun W (h : TrC W B fs.length c ks) => tin_any B fs.length c ks p W h hk
      rw [hls] at CI
      have CI := Lib.hid CI
      have hch := inK_child ks p.data.toList
      rw [hls] at hch
      have HTC : Hid (∀ W, Below w.heap.size w W → TrC W B fs.length c ks) := fun W hb => TrC.on ⟨fs, HTR.out⟩ hb
      obtain ⟨m, hm⟩ : ∃ m, ls.length = m := ⟨_, rfl⟩
      rw [hm] at hch
      unfold RowLeft at CI
      rw [hm] at CI
      clear hd hm hls ho
      by_cases hcd : childK ks p.data.toList = true
      · rw [if_pos hcd] at hd3
        obtain ⟨e1, e2⟩ := Prod.mk.inj hd3
        subst e1
        have hmp : (m : Int) > 0 := by have := hch.2 hcd; omega
        clear hd2 hd3 hpn hch hcd
        go_enter Tryz.func98, Tryz.ntmps98
        go_wp2_with fail
        generalize ((w.alloc (.cells #[.slice B fs.length c] 43)).alloc (.cells #[.slice none 0 0] 43)) = wa at *
        refine (C.out _).mono ?_
        rintro e w1 ⟨rfl, hb1⟩
        have t0 := (HT.out.on hb1).c0
        have C2 := Lib.hid (CL.out w1 (HS.out.on hb1))
        have HB1 := Lib.hid hb1
        clear hb1 CL C
        go_wp2_with fail
        refine C2.out.mono ?_
        rintro e w2 ⟨f, rfl, hf, hb2⟩
        have hal3 : Below w2.heap.size w2 (w2.alloc (.cells #[.string f.p, .bool f.d, .slice f.a f.ls.length f.c] 62)) := (Below.refl _ _).alloc (Nat.le_refl _) _
        have hb23 := hb2.trans (hal3.mono hb2.size)
        have hR3 := (HR.out.on HB1.out).on hb23
        have hbw1 := HA.out.trans (HB1.out.mono HA.out.size)
        have HBW := Lib.hid (hbw1.trans (hb23.mono hbw1.size))
        have hT3 := (HT.out.on HB1.out).on hb23
        have t3 := hT3.c0
        have HR3 := Lib.hid hR3
        have HT3 := Lib.hid hT3
        have HS3 := Lib.hid ((HS.out.on HB1.out).on hb23)
        have C3 := Lib.hid (CI.out _ (HTC.out _ HBW.out))
        clear hb2 hf hal3 hb23 hR3 hbw1 C2 t0 CI hT3
        go_wp2_with fail
        refine C3.out.mono ?_
        rintro e w4 ⟨A4, c4, rfl, _, _, hb4⟩
        have hR4 := HR3.out.on hb4
        have x0 := hR4.c0
        have x1 := hR4.fz 0
        have HF := Lib.hid (left_err (G := w.heap.size + 1) (res := res) (by decide : (12 : Int) ≠ 0) (HBW.out.trans (hb4.mono HBW.out.size)) (Nat.le_succ _))
        have HRS := Lib.hid (hR4.set none 0 0)
        clear hb4 hR4 C3
        go_wp2
        (try simp only [Exit.inBlock, Exit.then])
        refine bodyPost_ret (ret_tree2 rfl _ _ _ none 0 0 _ rfl rfl HRS.out) rfl ?_
        exact HF.out
      · rw [if_neg hcd] at hd3
        obtain ⟨e1, e2⟩ := Prod.mk.inj hd3
        subst e1
        have hmp : ¬ (m : Int) > 0 := by have := mt hch.1 hcd; omega
        have CO := Lib.hid (fun W hs => without_any B fs c p (findZ fs p) (findZ_cases fs p) W hs HTR.out.room (by omega))
        have HRE : Hid (fkeys (fs.filter (keepF p)) = res) := by show _ = _; rw [keys_keep, HTR.out.keys]; exact e2
        have HWE := Lib.hid (HW.out rfl)
        clear hd2 hd3 hpn hch hcd e2 HW
        go_enter Tryz.func98, Tryz.ntmps98
        go_wp2_with fail
        generalize ((w.alloc (.cells #[.slice B fs.length c] 43)).alloc (.cells #[.slice none 0 0] 43)) = wa at *
        refine (C.out _).mono ?_
        rintro e w1 ⟨rfl, hb1⟩
        have t0 := (HT.out.on hb1).c0
        have C2 := Lib.hid (CL.out w1 (HS.out.on hb1))
        have HB1 := Lib.hid hb1
        clear hb1 CL C
        go_wp2_with fail
        refine C2.out.mono ?_
        rintro e w2 ⟨f, rfl, hf, hb2⟩
        have hal3 : Below w2.heap.size w2 (w2.alloc (.cells #[.string f.p, .bool f.d, .slice f.a f.ls.length f.c] 62)) := (Below.refl _ _).alloc (Nat.le_refl _) _
        have hb23 := hb2.trans (hal3.mono hb2.size)
        have hR3 := (HR.out.on HB1.out).on hb23
        have hbw1 := HA.out.trans (HB1.out.mono HA.out.size)
        have HBW := Lib.hid (hbw1.trans (hb23.mono hbw1.size))
        have hT3 := (HT.out.on HB1.out).on hb23
        have t3 := hT3.c0
        have HR3 := Lib.hid hR3
        have HT3 := Lib.hid hT3
        have HS3 := Lib.hid ((HS.out.on HB1.out).on hb23)
        have C3 := Lib.hid (CI.out _ (HTC.out _ HBW.out))
        clear hb2 hf hal3 hb23 hR3 hbw1 C2 t0 CI hT3
        go_wp2_with fail
        refine C3.out.mono ?_
        rintro e w4 ⟨A4, c4, rfl, _, _, hb4⟩
        have t4 := (HT3.out.on hb4).c0
        have C4 := Lib.hid (CO.out _ (HS3.out.on hb4))
        have HR4 := Lib.hid (HR3.out.on hb4)
        have HB4 := Lib.hid (HBW.out.trans (hb4.mono HBW.out.size))
        clear hb4 C3 CO t3
        go_wp2_with fail
        refine C4.out.mono ?_
        rintro e w5 ⟨A5, c5, rfl, hg5, hb5⟩
        have hR5 := HR4.out.on hb5
        have x0 := hR5.c0
        have x1 := hR5.fz 0
        have htr : TrC w5 A5 (List.length (α := Fm) (fs.filter (keepF p))) c5 res := tr_of hg5.out HRE.out HWE.out
        have HF := Lib.hid (left_ok (w := w) htr hR5 (HB4.out.trans (hb5.mono HB4.out.size)) (Nat.le_succ _))
        generalize (List.length (α := Fm) (fs.filter (keepF p))) = n5 at *
        have HRS := Lib.hid (hR5.set A5 n5 c5)
        clear hb5 hR5 C4 htr hg5
        go_wp2
        (try simp only [Exit.inBlock, Exit.then])
        refine bodyPost_ret (ret_tree2 rfl _ _ _ A5 n5 c5 _ rfl rfl HRS.out) rfl ?_
        exact HF.out
end Go.Proofs.YtalabahjfmcnbaaGreatDoor
namespace Go.Proofs.YtalabahjfmcnbaaGreatDoor
open Go.RowKit
set_option linter.unusedVariables false

theorem dirP_short {p : List UInt8} (h : names nameP p ≠ []) : dirP nameP p ≠ p := fun e => by
  have h1 := dir_is (nm := nameP) p
  rw [e] at h1
  have h2 := congrArg List.length (join_names nameP h)
  have h3 : (names nameP p).length - 1 < (names nameP p).length := by
    have : 0 < (names nameP p).length := List.length_pos_iff.2 h
    omega
  by_cases hm : 1 ≤ (names nameP p).length - 1
  · have h4 := names_take (nm := nameP) (fun x hx => nameP_slash hx) (p := p) hm (by omega)
    rw [← h1] at h4
    have := congrArg List.length h4
    rw [List.length_take] at this
    omega
  · have h5 : (names nameP p).length - 1 = 0 := by omega
    rw [h5, List.take_zero] at h1
    have h6 : p = [] := h1
    exact names_ne h h6
/-- What Write answers, flatly. -/
theorem doK1_flat {ks : List PF} (hw : Well ks) (p : List UInt8) (ls : List (List UInt8)) (ck : Int) :
    doK ks 1 p [] ls ck = if names nameP p = [] then (8, ks) else if ((ks.find? fun k => decide (k.1 = p)).map (·.2.1)).getD false = true then (11, ks) else if ck ≠ 0 then (ck, ks) else if dirK (withoutK ks p) (dirP nameP p) = false then (9, ks) else (0, withK ks (p, false, ls)) := by
  unfold doK
  by_cases hn : names nameP p = []
  · rw [if_pos hn, if_pos (.inl hn)]
  · rw [if_neg hn, if_neg (by rintro (h | ⟨h, _⟩); exact hn h; omega)]
    cases hf : ks.find? fun k => decide (k.1 = p) with
    | none =>
      have e : withoutK ks p = ks := without_none (find_noK hf)
      rw [e]
      simp
    | some f =>
      obtain ⟨hm, hp⟩ := (find_one hw.rise).1 hf
      cases hd : f.2.1 with
      | true => simp [hd]
      | false =>
        have e : dirK (withoutK ks p) (dirP nameP p) = true := by
          rw [dirK_iff (hw.rise.without p)]
          rcases hw.up f hm with h | ⟨d, hdm, hde, hdd⟩
          · rw [hp] at h; exact .inl h
          · rw [hp] at hde
            refine .inr ⟨d, List.mem_filter.2 ⟨hdm, ?_⟩, hde, hdd⟩
            have : d.1 ≠ p := fun e => dirP_short hn (by rw [← hde, e])
            simpa using this
        simp [hd, e]
theorem flat_find (o : Option Fm) : ((o.map Fm.key).map (·.2.1)).getD false = (o.getD Fm.zero).d := by cases o <;> rfl
set_option maxHeartbeats 4000000 in
set_option maxRecDepth 100000 in
theorem write_any (B : Option Addr) (n c : Nat) (ks : List PF) (p : ByteArray) (A : Option Addr) (ls : List (List UInt8)) (cap : Nat) (er : Int) (res : List PF) (w : World) (h : TrC w B n c ks) (hk : ks.length ≤ 400) (hp : p.size ≤ 1000) (hs : Strs w w.heap.size A (toBs ls)) (hrm : Room A ls.length cap) (hli : WideK ls) (hTb : Tabs w) (hd : doK ks 1 p.data.toList [] ls (checkN (toBs ls)) = (er, res)) :
    Calls Tryz.prog 95 #[.agg #[.slice B n c], .string p, .slice A ls.length cap] w (TreeLeft TrC w er res) := by
  obtain ⟨fs, h⟩ := h
  have hfl := h.fl
  have hlen := h.len
  subst hlen
  have hal : Below w.heap.size w ((w.alloc (.cells #[.slice B fs.length c] 43)).alloc (.cells #[.slice none 0 0] 43)) := ((Below.refl _ _).alloc (Nat.le_refl _) _).alloc (by simp) _
  have hT : TAt ((w.alloc (.cells #[.slice B fs.length c] 43)).alloc (.cells #[.slice none 0 0] 43)) w.heap.size B fs.length c := (TAt.new_ w B fs.length c).on ((Below.refl _ _).alloc (Nat.le_refl _) _)
  have hR : TAt ((w.alloc (.cells #[.slice B fs.length c] 43)).alloc (.cells #[.slice none 0 0] 43)) (w.heap.size + 1) none 0 0 := by
    have h := TAt.new_ (w.alloc (.cells #[.slice B fs.length c] 43)) none 0 0
    exact (by simpa using h : TAt _ (w.heap.size + 1) none 0 0)
  have HTR := Lib.hid h
  have HS := Lib.hid (h.row.on hal)
  have HT := Lib.hid hT
  have HR := Lib.hid hR
  have HA := Lib.hid hal
  have CR := fun W => right_c p W (by omega)
  have hwl := fun (e : er = 0) => do_well h.well (kind := 1) (p := p.data.toList) (q := []) (ls := ls) (res := res) (by rw [hd, e])
  have HW := Lib.hid hwl
  have hd1 := doK1_flat h.well p.data.toList ls (checkN (toBs ls))
  rw [hd] at hd1
  have hfind := key_found fs p
  rw [h.keys] at hfind
  rw [hfind] at hd1
  have hfn : fs.length ≤ 400 := by omega
  clear hal hT hR hwl hfind h hfl hd
  rw [flat_find] at hd1
  have HSL := Lib.hid hs
  have HRML := Lib.hid hrm
  have HTB := Lib.hid hTb
  have hn60 := hli.1
  have HZL : Hid (∀ s ∈ toBs ls, s.size ≤ 9223372036854775807) := fun s hs => by
    obtain ⟨x, hx, rfl⟩ := List.mem_map.1 hs
    have h1 := hli.2 x hx
    have h2 : (toB x).size = x.length := by simp [toB, ByteArray.size]
    omega
  clear hs hrm hTb hli
  have CK := Lib.hid (fun W (hs : Strs W W.heap.size A (toBs ls)) (hT : Tabs W) => by
    have h := lcheck_any A (toBs ls) cap W hs (by rw [toBs_len]; omega) HZL.out hT
    rw [toBs_len] at h
    exact h)
  obtain ⟨ck, hck⟩ : ∃ ck, checkN (toBs ls) = ck := ⟨_, rfl⟩
  rw [hck] at hd1 CK
  by_cases hpn : names nameP p.data.toList = []
  · rw [if_pos hpn] at hd1
    obtain ⟨e1, e2⟩ := Prod.mk.inj hd1
    subst e1
    have C := Lib.hid (fun W => by have h := CR W; rw [show pnames p = names nameP p.data.toList from rfl, hpn, decide_eq_false (by simp)] at h; exact h)
    clear CR hd1 hpn hck
    go_enter Tryz.func95, Tryz.ntmps95
    go_wp2_with fail
    generalize ((w.alloc (.cells #[.slice B fs.length c] 43)).alloc (.cells #[.slice none 0 0] 43)) = wa at *
    refine (C.out _).mono ?_
    rintro e w1 ⟨rfl, hb1⟩
    have hR1 := HR.out.on hb1
    have x0 := hR1.c0
    have x1 := hR1.fz 0
    have HF := Lib.hid (left_err (G := w.heap.size + 1) (res := res) (by decide : (8 : Int) ≠ 0) (HA.out.trans (hb1.mono HA.out.size)) (Nat.le_succ _))
    have HRS := Lib.hid (hR1.set none 0 0)
    clear hb1 hR1
    go_wp2
    (try simp only [Exit.inBlock, Exit.then])
    refine bodyPost_ret (ret_tree2 rfl _ _ _ none 0 0 _ rfl rfl HRS.out) rfl ?_
    exact HF.out
  · rw [if_neg hpn] at hd1
    have C := Lib.hid (fun W => by have h := CR W; rw [show pnames p = names nameP p.data.toList from rfl, decide_eq_true hpn] at h; exact h)
    have CL := fun W hs => look_c B fs c p W hs (by omega)
    unfold FoundLeft at CL
    obtain ⟨b0, hb0⟩ : ∃ b0, (foundF fs p).isSome = b0 := ⟨_, rfl⟩
    obtain ⟨f0, hf0⟩ : ∃ f0, (foundF fs p).getD Fm.zero = f0 := ⟨_, rfl⟩
    rw [hb0, hf0] at CL
    rw [hf0] at hd1
    have CLH := Lib.hid CL
    clear CR hb0 CL
    have CL := CLH
    clear CLH
    cases hdd : f0.d with
    | true =>
      rw [hdd, if_pos rfl] at hd1
      obtain ⟨e1, e2⟩ := Prod.mk.inj hd1
      subst e1
      have HDD : Hid (f0.d = true) := hdd
      clear hd1 hpn hck hdd hf0
      go_enter Tryz.func95, Tryz.ntmps95
      go_wp2_with fail
      generalize ((w.alloc (.cells #[.slice B fs.length c] 43)).alloc (.cells #[.slice none 0 0] 43)) = wa at *
      refine (C.out _).mono ?_
      rintro e w1 ⟨rfl, hb1⟩
      have t0 := (HT.out.on hb1).c0
      have C2 := Lib.hid (CL.out w1 (HS.out.on hb1))
      have HB1 := Lib.hid hb1
      clear hb1 CL C
      go_wp2_with fail
      refine C2.out.mono ?_
      rintro e w2 ⟨f, rfl, hf, hb2⟩
      have hfd : f.d = true := by rw [hf.out]; exact HDD.out
      have hal3 : Below w2.heap.size w2 (w2.alloc (.cells #[.string f.p, .bool f.d, .slice f.a f.ls.length f.c] 62)) := (Below.refl _ _).alloc (Nat.le_refl _) _
      have hb23 := hb2.trans (hal3.mono hb2.size)
      have hR3 := (HR.out.on HB1.out).on hb23
      have hT3 := (HT.out.on HB1.out).on hb23
      have hbw1 := HA.out.trans (HB1.out.mono HA.out.size)
      have HBW := Lib.hid (hbw1.trans (hb23.mono hbw1.size))
      have HS3 := Lib.hid ((HS.out.on HB1.out).on hb23)
      rw [hfd] at hR3 hT3 HBW HS3 ⊢
      have x0 := hR3.c0
      have x1 := hR3.fz 0
      have HF := Lib.hid (left_err (G := w.heap.size + 1) (res := res) (by decide : (11 : Int) ≠ 0) (HBW.out) (Nat.le_succ _))
      have HRS := Lib.hid (hR3.set none 0 0)
      clear hb2 hf hal3 hb23 hR3 hT3 hbw1 C2 hfd
      go_wp2
      (try simp only [Exit.inBlock, Exit.then])
      refine bodyPost_ret (ret_tree2 rfl _ _ _ none 0 0 _ rfl rfl HRS.out) rfl ?_
      exact HF.out
    | false =>
      rw [hdd, if_neg (by simp)] at hd1
      have HDD : Hid (f0.d = false) := hdd
      by_cases hc0 : ck = 0
      · rw [if_neg (by simpa using hc0)] at hd1
        subst hc0
        obtain ⟨gs, hgs⟩ : ∃ gs, fs.filter (keepF p) = gs := ⟨_, rfl⟩
        have hgk : fkeys gs = withoutK ks p.data.toList := by rw [← hgs, keys_keep, HTR.out.keys]
        have hgl : gs.length ≤ 400 := by
          have := List.length_filter_le (keepF p) fs
          rw [hgs] at this
          omega
        have hdg : dirK (withoutK ks p.data.toList) (dirP nameP p.data.toList) = dirAt gs (updir p) := by rw [← hgk, key_updir]
        rw [hdg] at hd1
        have CO := Lib.hid (fun W hs => by
          have h := without_any B fs c p (findZ fs p) (findZ_cases fs p) W hs HTR.out.room (by omega)
          rw [hgs] at h
          exact h)
        obtain ⟨r, hr⟩ : ∃ r, (if dirAt gs (updir p) = false then (9 : Int) else 0) = r := ⟨_, rfl⟩
        have CM := Lib.hid (fun A c W hs => room_any A gs c p W hs (by omega) (by omega) r hr)
        by_cases hdr : dirAt gs (updir p) = false
        · rw [if_pos hdr] at hd1 hr
          obtain ⟨e1, e2⟩ := Prod.mk.inj hd1
          subst e1
          subst hr
          clear hd1 hpn hck hdd hf0 hgk hdg hdr hgl
          go_enter Tryz.func95, Tryz.ntmps95
          go_wp2_with fail
          generalize ((w.alloc (.cells #[.slice B fs.length c] 43)).alloc (.cells #[.slice none 0 0] 43)) = wa at *
          refine (C.out _).mono ?_
          rintro e w1 ⟨rfl, hb1⟩
          have t0 := (HT.out.on hb1).c0
          have C2 := Lib.hid (CL.out w1 (HS.out.on hb1))
          have HB1 := Lib.hid hb1
          clear hb1 CL C
          go_wp2_with fail
          refine C2.out.mono ?_
          rintro e w2 ⟨f, rfl, hf, hb2⟩
          have hfd : f.d = false := by rw [hf.out]; exact HDD.out
          have hal3 : Below w2.heap.size w2 (w2.alloc (.cells #[.string f.p, .bool f.d, .slice f.a f.ls.length f.c] 62)) := (Below.refl _ _).alloc (Nat.le_refl _) _
          have hb23 := hb2.trans (hal3.mono hb2.size)
          have hR3 := (HR.out.on HB1.out).on hb23
          have hT3 := (HT.out.on HB1.out).on hb23
          have hbw1 := HA.out.trans (HB1.out.mono HA.out.size)
          have HBW := Lib.hid (hbw1.trans (hb23.mono hbw1.size))
          have HS3 := Lib.hid ((HS.out.on HB1.out).on hb23)
          rw [hfd] at hR3 hT3 HBW HS3 ⊢
          have C3 := Lib.hid (CK.out _ (HSL.out.on HBW.out) (HTB.out.on HBW.out))
          have HR3 := Lib.hid hR3
          have HT3 := Lib.hid hT3
          clear hb2 hf hal3 hb23 hR3 hT3 hbw1 C2 hfd t0 CK
          go_wp2_with fail
          refine C3.out.mono ?_
          rintro e w4 ⟨rfl, hb4⟩
          have t4 := (HT3.out.on hb4).c0
          have HR4 := Lib.hid (HR3.out.on hb4)
          have HB4 := Lib.hid (HBW.out.trans (hb4.mono HBW.out.size))
          have C4 := Lib.hid (CO.out w4 (HS3.out.on hb4))
          clear hb4 C3 CO HR3 HT3 HS3
          go_wp2_with fail
          refine C4.out.mono ?_
          rintro e w5 ⟨A5, c5, rfl, hg5, hb5⟩
          have hal6 : Below w5.heap.size w5 (w5.alloc (.cells #[.slice A5 (List.length (α := Fm) gs) c5] 43)) := (Below.refl _ _).alloc (Nat.le_refl _) _
          have HT6 := Lib.hid (TAt.new_ w5 A5 (List.length (α := Fm) gs) c5)
          have hb56 := hb5.trans (hal6.mono hb5.size)
          have HR6 := Lib.hid (HR4.out.on hb56)
          have HB6 := Lib.hid (HB4.out.trans (hb56.mono HB4.out.size))
          have HS6 := Lib.hid (hg5.out.1.on hal6)
          have C6 := Lib.hid (CM.out A5 c5 _ HS6.out)
          have HRO := Lib.hid hg5.out.2
          have HNE : Hid (w.heap.size + 1 < w5.heap.size) := Nat.lt_of_lt_of_le HR4.out.lt hb5.size
          clear hg5 hal6 hb56 hb5 C4 t4 CM
          go_wp2_with fail
          refine C6.out.mono ?_
          rintro e w7 ⟨rfl, hb7⟩
          have hR7 := HR6.out.on hb7
          have HB7 := Lib.hid (HB6.out.trans (hb7.mono HB6.out.size))
          have x0 := hR7.c0
          have x1 := hR7.fz 0
          have HF := Lib.hid (left_err (G := w.heap.size + 1) (res := res) (by decide : (9 : Int) ≠ 0) (HB7.out) (Nat.le_succ _))
          have HRS := Lib.hid (hR7.set none 0 0)
          clear hb7 hR7 C6
          go_wp2
          (try simp only [Exit.inBlock, Exit.then])
          refine bodyPost_ret (ret_tree2 rfl _ _ _ none 0 0 _ rfl rfl HRS.out) rfl ?_
          exact HF.out
        · rw [if_neg hdr] at hd1 hr
          obtain ⟨e1, e2⟩ := Prod.mk.inj hd1
          subst e1
          subst hr
          have hz2 : p.size ≤ 200 := psize_le p hpn
          have hrise : Rise (fkeys gs) := by rw [hgk]; exact HTR.out.well.rise.without _
          have hno : ∀ k ∈ fkeys gs, k.1 ≠ p.data.toList := fun k hk => by rw [hgk] at hk; exact (without_not hk).1
          have HRE : Hid (res = insK (fkeys gs) (p.data.toList, false, ls)) := by
            show _ = _
            rw [e2, with_rise HTR.out.well.rise, hgk]
          have HWE := Lib.hid (HW.out rfl)
          have CW := Lib.hid (fun A2 c2 W A5 c5 (hs : Fs W W.heap.size A5 gs) (hr : Room A5 gs.length c5) (hA : Flat A5) (hx : Fm.Ok ⟨p, false, A2, c2, ls⟩ W W.heap.size) => with_c A5 gs c5 ⟨p, false, A2, c2, ls⟩ W hs hr hA (by omega) (fun f hf => Nat.le_trans (HTR.out.paths f (by rw [← hgs] at hf; exact (List.mem_filter.1 hf).1)) (by decide)) hrise hno hx (by show p.size ≤ _; omega))
          have CP := Lib.hid (fun W (hs : Strs W W.heap.size A (toBs ls)) => tcopied_any A ls cap W hs HRML.out (by omega))
          clear hd1 hpn hck hdd hf0 hgk hdg hdr hgl hrise hno e2 HW hgs hz2
          go_enter Tryz.func95, Tryz.ntmps95
          go_wp2_with fail
          generalize ((w.alloc (.cells #[.slice B fs.length c] 43)).alloc (.cells #[.slice none 0 0] 43)) = wa at *
          refine (C.out _).mono ?_
          rintro e w1 ⟨rfl, hb1⟩
          have t0 := (HT.out.on hb1).c0
          have C2 := Lib.hid (CL.out w1 (HS.out.on hb1))
          have HB1 := Lib.hid hb1
          clear hb1 CL C
          go_wp2_with fail
          refine C2.out.mono ?_
          rintro e w2 ⟨f, rfl, hf, hb2⟩
          have hfd : f.d = false := by rw [hf.out]; exact HDD.out
          have hal3 : Below w2.heap.size w2 (w2.alloc (.cells #[.string f.p, .bool f.d, .slice f.a f.ls.length f.c] 62)) := (Below.refl _ _).alloc (Nat.le_refl _) _
          have hb23 := hb2.trans (hal3.mono hb2.size)
          have hR3 := (HR.out.on HB1.out).on hb23
          have hT3 := (HT.out.on HB1.out).on hb23
          have hbw1 := HA.out.trans (HB1.out.mono HA.out.size)
          have HBW := Lib.hid (hbw1.trans (hb23.mono hbw1.size))
          have HS3 := Lib.hid ((HS.out.on HB1.out).on hb23)
          rw [hfd] at hR3 hT3 HBW HS3 ⊢
          have C3 := Lib.hid (CK.out _ (HSL.out.on HBW.out) (HTB.out.on HBW.out))
          have HR3 := Lib.hid hR3
          have HT3 := Lib.hid hT3
          clear hb2 hf hal3 hb23 hR3 hT3 hbw1 C2 hfd t0 CK
          go_wp2_with fail
          refine C3.out.mono ?_
          rintro e w4 ⟨rfl, hb4⟩
          have t4 := (HT3.out.on hb4).c0
          have HR4 := Lib.hid (HR3.out.on hb4)
          have HB4 := Lib.hid (HBW.out.trans (hb4.mono HBW.out.size))
          have C4 := Lib.hid (CO.out w4 (HS3.out.on hb4))
          clear hb4 C3 CO HR3 HT3 HS3
          go_wp2_with fail
          refine C4.out.mono ?_
          rintro e w5 ⟨A5, c5, rfl, hg5, hb5⟩
          have hal6 : Below w5.heap.size w5 (w5.alloc (.cells #[.slice A5 (List.length (α := Fm) gs) c5] 43)) := (Below.refl _ _).alloc (Nat.le_refl _) _
          have HT6 := Lib.hid (TAt.new_ w5 A5 (List.length (α := Fm) gs) c5)
          have hb56 := hb5.trans (hal6.mono hb5.size)
          have HR6 := Lib.hid (HR4.out.on hb56)
          have HB6 := Lib.hid (HB4.out.trans (hb56.mono HB4.out.size))
          have HS6 := Lib.hid (hg5.out.1.on hal6)
          have C6 := Lib.hid (CM.out A5 c5 _ HS6.out)
          have HRO := Lib.hid hg5.out.2
          have HNE : Hid (w.heap.size + 1 < w5.heap.size) := Nat.lt_of_lt_of_le HR4.out.lt hb5.size
          clear hg5 hal6 hb56 hb5 C4 t4 CM
          go_wp2_with fail
          refine C6.out.mono ?_
          rintro e w7 ⟨rfl, hb7⟩
          have HT7 := Lib.hid (HT6.out.on hb7)
          have HR7 := Lib.hid (HR6.out.on hb7)
          have HB7 := Lib.hid (HB6.out.trans (hb7.mono HB6.out.size))
          have HS7 := Lib.hid (HS6.out.on hb7)
          have t7 := HT7.out.c0
          have C7 := Lib.hid (fun (W : World) (hb : Below w7.heap.size w7 W) => CP.out W (HSL.out.on (HB7.out.trans (hb.mono HB7.out.size))))
          clear hb7 C6 HT6 HR6 HB6 HS6 CP
          generalize hn5 : (List.length (α := Fm) gs) = n5 at *
          have HN5 := Lib.hid hn5
          clear hn5
          have hdr7 : Below w7.heap.size w7 w7.drew := (Below.refl _ _).drew
          have hne : w5.heap.size ≠ w.heap.size + 1 := by have := HNE.out; omega
          go_wp2_with fail
          go_region_held3 (fun w' => w'.cell? ⟨w5.heap.size, 0, none⟩ = some (.slice A5 n5 c5)) (first | exact t7 | exact cell_on2 t7 hb8 | exact cell_on t7 hb89 | exact keep_cell (cell_on t7 hb89) hne | (go_keep; done)) (first
            | (go_at_call 48; refine (C7.out _ hdr7).mono ?_; rintro e w8 ⟨A2, c2, rfl, ho8, hb8⟩)
            | (go_at_call 93; refine (CW.out A2 c2 w8 A5 c5 (HS7.out.on (below_dr hb8)) HRO.out.1 HRO.out.2 ⟨ho8.at_.1, ho8.at_.2.1⟩).mono ?_; rintro e w9 ⟨gs2, hgk, A9, c9, rfl, hg9, hb9⟩; have hb89 := (below_dr hb8).trans (hb9.mono (below_dr hb8).size); have x0 := (HR7.out.on hb89).c0; have x1 := (HR7.out.on hb89).fz 0))
          have hR9 := HR7.out.on hb89
          have htr : TrC w9 A9 (List.length (α := Fm) gs2) c9 res := tr_of hg9.out (by rw [hgk]; exact HRE.out.symm) HWE.out
          have HF := Lib.hid (left_ok (w := w) htr hR9 (HB7.out.trans (hb89.mono HB7.out.size)) (Nat.le_succ _))
          generalize (List.length (α := Fm) gs2) = n9 at *
          have HRS := Lib.hid (hR9.set A9 n9 c9)
          clear hb8 hb9 hb89 hR9 htr hg9 hgk ho8 x0 x1 t7 CW C7
          go_wp2
          (try simp only [Exit.inBlock, Exit.then])
          refine bodyPost_ret (ret_tree2 rfl _ _ _ A9 n9 c9 _ rfl rfl HRS.out) rfl ?_
          exact HF.out
      · rw [if_pos hc0] at hd1
        obtain ⟨e1, e2⟩ := Prod.mk.inj hd1
        have HCK := Lib.hid hc0
        have hcb : (ck != 0) = true := by simpa using hc0
        rw [e1]
        clear hd1 hpn hck hdd hf0 e1 hc0
        go_enter Tryz.func95, Tryz.ntmps95
        go_wp2_with fail
        generalize ((w.alloc (.cells #[.slice B fs.length c] 43)).alloc (.cells #[.slice none 0 0] 43)) = wa at *
        refine (C.out _).mono ?_
        rintro e w1 ⟨rfl, hb1⟩
        have t0 := (HT.out.on hb1).c0
        have C2 := Lib.hid (CL.out w1 (HS.out.on hb1))
        have HB1 := Lib.hid hb1
        clear hb1 CL C
        go_wp2_with fail
        refine C2.out.mono ?_
        rintro e w2 ⟨f, rfl, hf, hb2⟩
        have hfd : f.d = false := by rw [hf.out]; exact HDD.out
        have hal3 : Below w2.heap.size w2 (w2.alloc (.cells #[.string f.p, .bool f.d, .slice f.a f.ls.length f.c] 62)) := (Below.refl _ _).alloc (Nat.le_refl _) _
        have hb23 := hb2.trans (hal3.mono hb2.size)
        have hR3 := (HR.out.on HB1.out).on hb23
        have hT3 := (HT.out.on HB1.out).on hb23
        have hbw1 := HA.out.trans (HB1.out.mono HA.out.size)
        have HBW := Lib.hid (hbw1.trans (hb23.mono hbw1.size))
        have HS3 := Lib.hid ((HS.out.on HB1.out).on hb23)
        rw [hfd] at hR3 hT3 HBW HS3 ⊢
        have C3 := Lib.hid (CK.out _ (HSL.out.on HBW.out) (HTB.out.on HBW.out))
        have HR3 := Lib.hid hR3
        have HT3 := Lib.hid hT3
        clear hb2 hf hal3 hb23 hR3 hT3 hbw1 C2 hfd t0 CK
        go_wp2_with fail
        refine C3.out.mono ?_
        rintro e w4 ⟨rfl, hb4⟩
        have hR4 := HR3.out.on hb4
        have HB4 := Lib.hid (HBW.out.trans (hb4.mono HBW.out.size))
        have x0 := hR4.c0
        have x1 := hR4.fz 0
        have HF := Lib.hid (left_err (G := w.heap.size + 1) (res := res) HCK.out (HB4.out) (Nat.le_succ _))
        have HRS := Lib.hid (hR4.set none 0 0)
        clear hb4 hR4 C3
        go_wp2
        (try simp only [Exit.inBlock, Exit.then])
        refine bodyPost_ret (ret_tree2 rfl _ _ _ none 0 0 _ rfl rfl HRS.out) rfl ?_
        exact HF.out
end Go.Proofs.YtalabahjfmcnbaaGreatDoor
namespace Go.Proofs.YtalabahjfmcnbaaGreatDoor
open Go.RowKit
set_option linter.unusedVariables false

/-- What Move answers, flatly. -/
theorem doK3_flat (ks : List PF) (p q : List UInt8) :
    doK ks 3 p q [] 0 = if names nameP p = [] then (8, ks) else if names nameP q = [] then (8, ks) else if (ks.find? fun k => decide (k.1 = p)).isSome = false then (9, ks) else if ((ks.find? fun k => decide (k.1 = p)).map (·.2.1)).getD false = true then (11, ks)
      else if (ks.find? fun k => decide (k.1 = q)).isSome = true then (10, ks) else if dirK ks (dirP nameP q) = false then (9, ks) else (0, withK (withoutK ks p) (q, false, ((ks.find? fun k => decide (k.1 = p)).map (·.2.2)).getD [])) := by
  unfold doK
  by_cases hn : names nameP p = []
  · rw [if_pos hn, if_pos (.inl hn)]
  · rw [if_neg hn]
    by_cases hq : names nameP q = []
    · rw [if_pos hq, if_pos (.inr ⟨.inr (by omega), hq⟩)]
    · rw [if_neg hq, if_neg (by rintro (h | ⟨_, h⟩); exact hn h; exact hq h)]
      cases hf : ks.find? fun k => decide (k.1 = p) with
      | none => simp
      | some f => simp
theorem flat_lines (o : Option Fm) : ((o.map Fm.key).map (·.2.2)).getD [] = (o.getD Fm.zero).ls := by cases o <;> rfl
theorem FileAt.set0 {w : World} {g : Nat} {f : Fm} (k : FileAt w g f) (q : ByteArray) : FileAt (w.setCell ⟨g, 0, none⟩ (.string q)) g ⟨q, f.d, f.a, f.c, f.ls⟩ := by
  unfold FileAt at k ⊢
  simp [World.setCell, Array.getElem?_modify, k, Fm.cells]
set_option maxHeartbeats 8000000 in
set_option maxRecDepth 100000 in
theorem move_any (B : Option Addr) (n c : Nat) (ks : List PF) (p q : ByteArray) (er : Int) (res : List PF) (w : World) (h : TrC w B n c ks) (hk : ks.length ≤ 400) (hp : p.size ≤ 1000) (hq : q.size ≤ 1000) (hd : doK ks 3 p.data.toList q.data.toList [] 0 = (er, res)) :
    Calls Tryz.prog 58 #[.agg #[.slice B n c], .string p, .string q] w (TreeLeft TrC w er res) := by
  obtain ⟨fs, h⟩ := h
  have hfl := h.fl
  have hlen := h.len
  subst hlen
  have hal : Below w.heap.size w ((w.alloc (.cells #[.slice B fs.length c] 43)).alloc (.cells #[.slice none 0 0] 43)) := ((Below.refl _ _).alloc (Nat.le_refl _) _).alloc (by simp) _
  have hT : TAt ((w.alloc (.cells #[.slice B fs.length c] 43)).alloc (.cells #[.slice none 0 0] 43)) w.heap.size B fs.length c := (TAt.new_ w B fs.length c).on ((Below.refl _ _).alloc (Nat.le_refl _) _)
  have hR : TAt ((w.alloc (.cells #[.slice B fs.length c] 43)).alloc (.cells #[.slice none 0 0] 43)) (w.heap.size + 1) none 0 0 := by
    have h := TAt.new_ (w.alloc (.cells #[.slice B fs.length c] 43)) none 0 0
    exact (by simpa using h : TAt _ (w.heap.size + 1) none 0 0)
  have HTR := Lib.hid h
  have HS := Lib.hid (h.row.on hal)
  have HT := Lib.hid hT
  have HR := Lib.hid hR
  have HA := Lib.hid hal
  have CR := fun W => right_c p W (by omega)
  have CR2 := fun W => right_c q W (by omega)
  have hwl := fun (e : er = 0) => do_well h.well (kind := 3) (p := p.data.toList) (q := q.data.toList) (ls := []) (res := res) (by have h := hd; rw [e] at h; exact h)
  have HW := Lib.hid hwl
  have hd1 := doK3_flat ks p.data.toList q.data.toList
  rw [hd] at hd1
  have hfind := key_found fs p
  rw [h.keys] at hfind
  have hfind2 := key_found fs q
  rw [h.keys] at hfind2
  have hdir := key_updir fs q
  rw [h.keys] at hdir
  rw [hfind, hfind2, ← hdir, Option.isSome_map, Option.isSome_map] at hd1
  have hfn : fs.length ≤ 400 := by omega
  clear hal hT hR hwl hfind hfind2 hdir h hfl hd
  rw [flat_find, flat_lines] at hd1
  by_cases hpn : names nameP p.data.toList = []
  · rw [if_pos hpn] at hd1
    obtain ⟨e1, e2⟩ := Prod.mk.inj hd1
    subst e1
    have C := Lib.hid (fun W => by have h := CR W; rw [show pnames p = names nameP p.data.toList from rfl, hpn, decide_eq_false (by simp)] at h; exact h)
    clear CR CR2 hd1 hpn
    go_enter Tryz.func58, Tryz.ntmps58
    go_wp2_with fail
    generalize ((w.alloc (.cells #[.slice B fs.length c] 43)).alloc (.cells #[.slice none 0 0] 43)) = wa at *
    refine (C.out _).mono ?_
    rintro e w1 ⟨rfl, hb1⟩
    have hR1 := HR.out.on hb1
    have x0 := hR1.c0
    have x1 := hR1.fz 0
    have HF := Lib.hid (left_err (G := w.heap.size + 1) (res := res) (by decide : (8 : Int) ≠ 0) (HA.out.trans (hb1.mono HA.out.size)) (Nat.le_succ _))
    have HRS := Lib.hid (hR1.set none 0 0)
    clear hb1 hR1
    go_wp2
    (try simp only [Exit.inBlock, Exit.then])
    refine bodyPost_ret (ret_tree2 rfl _ _ _ none 0 0 _ rfl rfl HRS.out) rfl ?_
    exact HF.out
  · rw [if_neg hpn] at hd1
    have C := Lib.hid (fun W => by have h := CR W; rw [show pnames p = names nameP p.data.toList from rfl, decide_eq_true hpn] at h; exact h)
    clear CR
    by_cases hqn : names nameP q.data.toList = []
    · rw [if_pos hqn] at hd1
      obtain ⟨e1, e2⟩ := Prod.mk.inj hd1
      subst e1
      have C2 := Lib.hid (fun W => by have h := CR2 W; rw [show pnames q = names nameP q.data.toList from rfl, hqn, decide_eq_false (by simp)] at h; exact h)
      clear CR2 hd1 hpn hqn
      go_enter Tryz.func58, Tryz.ntmps58
      go_wp2_with fail
      generalize ((w.alloc (.cells #[.slice B fs.length c] 43)).alloc (.cells #[.slice none 0 0] 43)) = wa at *
      refine (C.out _).mono ?_
      rintro e w1 ⟨rfl, hb1⟩
      have HB1 := Lib.hid hb1
      clear hb1 C
      go_wp2_with fail
      refine (C2.out _).mono ?_
      rintro e w2 ⟨rfl, hb2⟩
      have hb12 := HB1.out.trans (hb2.mono HB1.out.size)
      have hR1 := HR.out.on hb12
      have x0 := hR1.c0
      have x1 := hR1.fz 0
      have HF := Lib.hid (left_err (G := w.heap.size + 1) (res := res) (by decide : (8 : Int) ≠ 0) (HA.out.trans (hb12.mono HA.out.size)) (Nat.le_succ _))
      have HRS := Lib.hid (hR1.set none 0 0)
      clear hb2 hb12 hR1 C2
      go_wp2
      (try simp only [Exit.inBlock, Exit.then])
      refine bodyPost_ret (ret_tree2 rfl _ _ _ none 0 0 _ rfl rfl HRS.out) rfl ?_
      exact HF.out
    · rw [if_neg hqn] at hd1
      have C2 := Lib.hid (fun W => by have h := CR2 W; rw [show pnames q = names nameP q.data.toList from rfl, decide_eq_true hqn] at h; exact h)
      have CL0 := fun W hs => look_c B fs c p W hs (by omega)
      have CL20 := fun W hs => look_c B fs c q W hs (by omega)
      unfold FoundLeft at CL0 CL20
      obtain ⟨b0, hb0⟩ : ∃ b0, (foundF fs p).isSome = b0 := ⟨_, rfl⟩
      obtain ⟨b2, hb2⟩ : ∃ b2, (foundF fs q).isSome = b2 := ⟨_, rfl⟩
      obtain ⟨f0, hf0⟩ : ∃ f0, (foundF fs p).getD Fm.zero = f0 := ⟨_, rfl⟩
      rw [hb0, hf0] at CL0
      rw [hb2] at CL20
      rw [hb0, hb2, hf0] at hd1
      have CL := Lib.hid CL0
      have CL2 := Lib.hid CL20
      clear CR2 CL0 CL20
      cases b0 with
      | false =>
        rw [if_pos rfl] at hd1
        obtain ⟨e1, e2⟩ := Prod.mk.inj hd1
        subst e1
        clear hd1 hpn hqn hb0 hb2 hf0
        go_enter Tryz.func58, Tryz.ntmps58
        go_wp2_with fail
        generalize ((w.alloc (.cells #[.slice B fs.length c] 43)).alloc (.cells #[.slice none 0 0] 43)) = wa at *
        refine (C.out _).mono ?_
        rintro e w1 ⟨rfl, hb1⟩
        have HB1 := Lib.hid hb1
        clear hb1 C
        go_wp2_with fail
        refine (C2.out _).mono ?_
        rintro e w2 ⟨rfl, hb2⟩
        have hb12 := HB1.out.trans (hb2.mono HB1.out.size)
        have t0 := (HT.out.on hb12).c0
        have CA := Lib.hid (CL.out w2 (HS.out.on hb12))
        have HB2 := Lib.hid hb12
        clear hb2 hb12 C2 CL HB1
        go_wp2_with fail
        refine CA.out.mono ?_
        rintro e w3 ⟨f, rfl, hf, hb3⟩
        have hff : f0 = f := hf.out.symm
        subst hff
        have hal4 : Below w3.heap.size w3 (w3.alloc (.cells #[.string f0.p, .bool f0.d, .slice f0.a f0.ls.length f0.c] 62)) := (Below.refl _ _).alloc (Nat.le_refl _) _
        have hFA4 := FileAt.new_ w3 f0
        have HG3 : Hid (w.heap.size + 1 < w3.heap.size) := Nat.lt_of_lt_of_le (HR.out.on HB2.out).lt hb3.size
        have hb34 := hb3.trans (hal4.mono hb3.size)
        have hb24 := HB2.out.trans (hb34.mono HB2.out.size)
        have hT4 := HT.out.on hb24
        have t4 := hT4.c0
        have CB := Lib.hid (CL2.out _ (HS.out.on hb24))
        have HB4 := Lib.hid hb24
        have HFA4 := Lib.hid hFA4
        clear hf hb3 hal4 hFA4 hb34 hb24 hT4 t0 CA CL2 HB2
        go_wp2_with fail
        refine CB.out.mono ?_
        rintro e w5 ⟨f2, rfl, hf2, hb5⟩
        have hal6 : Below w5.heap.size w5 (w5.alloc (.cells #[.string f2.p, .bool f2.d, .slice f2.a f2.ls.length f2.c] 62)) := (Below.refl _ _).alloc (Nat.le_refl _) _
        have hb56 := hb5.trans (hal6.mono hb5.size)
        have hFA6 := HFA4.out.on hb56
        have hb6 := HB4.out.trans (hb56.mono HB4.out.size)
        have hT6 := HT.out.on hb6
        have hR6 := HR.out.on hb6
        have hd6 := hFA6.c1
        have t6 := hT6.c0
        have HT6 := Lib.hid hT6
        have HR6 := Lib.hid hR6
        have HFA6 := Lib.hid hFA6
        have HB6 := Lib.hid (HA.out.trans (hb6.mono HA.out.size))
        clear hf2 hb5 hal6 hb56 hFA6 hb6 hT6 CB t4 HB4 HFA4
        have x0 := HR6.out.c0
        have x1 := HR6.out.fz 0
        have HF := Lib.hid (left_err (G := w.heap.size + 1) (res := res) (by decide : (9 : Int) ≠ 0) (HB6.out) (Nat.le_succ _))
        have HRS := Lib.hid (HR6.out.set none 0 0)
        clear hR6 t6 hd6
        go_wp2
        (try simp only [Exit.inBlock, Exit.then])
        refine bodyPost_ret (ret_tree2 rfl _ _ _ none 0 0 _ rfl rfl HRS.out) rfl ?_
        exact HF.out
      | true =>
        rw [if_neg (by simp)] at hd1
        cases hdd : f0.d with
        | true =>
          rw [hdd, if_pos rfl] at hd1
          obtain ⟨e1, e2⟩ := Prod.mk.inj hd1
          subst e1
          have HDD := Lib.hid hdd
          clear hd1 hpn hqn hb0 hb2 hf0 hdd
          go_enter Tryz.func58, Tryz.ntmps58
          go_wp2_with fail
          generalize ((w.alloc (.cells #[.slice B fs.length c] 43)).alloc (.cells #[.slice none 0 0] 43)) = wa at *
          refine (C.out _).mono ?_
          rintro e w1 ⟨rfl, hb1⟩
          have HB1 := Lib.hid hb1
          clear hb1 C
          go_wp2_with fail
          refine (C2.out _).mono ?_
          rintro e w2 ⟨rfl, hb2⟩
          have hb12 := HB1.out.trans (hb2.mono HB1.out.size)
          have t0 := (HT.out.on hb12).c0
          have CA := Lib.hid (CL.out w2 (HS.out.on hb12))
          have HB2 := Lib.hid hb12
          clear hb2 hb12 C2 CL HB1
          go_wp2_with fail
          refine CA.out.mono ?_
          rintro e w3 ⟨f, rfl, hf, hb3⟩
          have hff : f0 = f := hf.out.symm
          subst hff
          have hal4 : Below w3.heap.size w3 (w3.alloc (.cells #[.string f0.p, .bool f0.d, .slice f0.a f0.ls.length f0.c] 62)) := (Below.refl _ _).alloc (Nat.le_refl _) _
          have hFA4 := FileAt.new_ w3 f0
          have HG3 : Hid (w.heap.size + 1 < w3.heap.size) := Nat.lt_of_lt_of_le (HR.out.on HB2.out).lt hb3.size
          have hb34 := hb3.trans (hal4.mono hb3.size)
          have hb24 := HB2.out.trans (hb34.mono HB2.out.size)
          have hT4 := HT.out.on hb24
          have t4 := hT4.c0
          have CB := Lib.hid (CL2.out _ (HS.out.on hb24))
          have HB4 := Lib.hid hb24
          have HFA4 := Lib.hid hFA4
          clear hf hb3 hal4 hFA4 hb34 hb24 hT4 t0 CA CL2 HB2
          go_wp2_with fail
          refine CB.out.mono ?_
          rintro e w5 ⟨f2, rfl, hf2, hb5⟩
          have hal6 : Below w5.heap.size w5 (w5.alloc (.cells #[.string f2.p, .bool f2.d, .slice f2.a f2.ls.length f2.c] 62)) := (Below.refl _ _).alloc (Nat.le_refl _) _
          have hb56 := hb5.trans (hal6.mono hb5.size)
          have hFA6 := HFA4.out.on hb56
          have hb6 := HB4.out.trans (hb56.mono HB4.out.size)
          have hT6 := HT.out.on hb6
          have hR6 := HR.out.on hb6
          have hd6 := hFA6.c1
          have t6 := hT6.c0
          have HT6 := Lib.hid hT6
          have HR6 := Lib.hid hR6
          have HFA6 := Lib.hid hFA6
          have HB6 := Lib.hid (HA.out.trans (hb6.mono HA.out.size))
          clear hf2 hb5 hal6 hb56 hFA6 hb6 hT6 CB t4 HB4 HFA4
          rw [HDD.out] at hd6
          have x0 := HR6.out.c0
          have x1 := HR6.out.fz 0
          have HF := Lib.hid (left_err (G := w.heap.size + 1) (res := res) (by decide : (11 : Int) ≠ 0) (HB6.out) (Nat.le_succ _))
          have HRS := Lib.hid (HR6.out.set none 0 0)
          clear hR6 t6
          go_wp2
          (try simp only [Exit.inBlock, Exit.then])
          refine bodyPost_ret (ret_tree2 rfl _ _ _ none 0 0 _ rfl rfl HRS.out) rfl ?_
          exact HF.out
        | false =>
          rw [hdd, if_neg (by simp)] at hd1
          have HDD := Lib.hid hdd
          clear hdd
          cases b2 with
          | true =>
            rw [if_pos rfl] at hd1
            obtain ⟨e1, e2⟩ := Prod.mk.inj hd1
            subst e1
            clear hd1 hpn hqn hb0 hb2 hf0
            go_enter Tryz.func58, Tryz.ntmps58
            go_wp2_with fail
            generalize ((w.alloc (.cells #[.slice B fs.length c] 43)).alloc (.cells #[.slice none 0 0] 43)) = wa at *
            refine (C.out _).mono ?_
            rintro e w1 ⟨rfl, hb1⟩
            have HB1 := Lib.hid hb1
            clear hb1 C
            go_wp2_with fail
            refine (C2.out _).mono ?_
            rintro e w2 ⟨rfl, hb2⟩
            have hb12 := HB1.out.trans (hb2.mono HB1.out.size)
            have t0 := (HT.out.on hb12).c0
            have CA := Lib.hid (CL.out w2 (HS.out.on hb12))
            have HB2 := Lib.hid hb12
            clear hb2 hb12 C2 CL HB1
            go_wp2_with fail
            refine CA.out.mono ?_
            rintro e w3 ⟨f, rfl, hf, hb3⟩
            have hff : f0 = f := hf.out.symm
            subst hff
            have hal4 : Below w3.heap.size w3 (w3.alloc (.cells #[.string f0.p, .bool f0.d, .slice f0.a f0.ls.length f0.c] 62)) := (Below.refl _ _).alloc (Nat.le_refl _) _
            have hFA4 := FileAt.new_ w3 f0
            have HG3 : Hid (w.heap.size + 1 < w3.heap.size) := Nat.lt_of_lt_of_le (HR.out.on HB2.out).lt hb3.size
            have hb34 := hb3.trans (hal4.mono hb3.size)
            have hb24 := HB2.out.trans (hb34.mono HB2.out.size)
            have hT4 := HT.out.on hb24
            have t4 := hT4.c0
            have CB := Lib.hid (CL2.out _ (HS.out.on hb24))
            have HB4 := Lib.hid hb24
            have HFA4 := Lib.hid hFA4
            clear hf hb3 hal4 hFA4 hb34 hb24 hT4 t0 CA CL2 HB2
            go_wp2_with fail
            refine CB.out.mono ?_
            rintro e w5 ⟨f2, rfl, hf2, hb5⟩
            have hal6 : Below w5.heap.size w5 (w5.alloc (.cells #[.string f2.p, .bool f2.d, .slice f2.a f2.ls.length f2.c] 62)) := (Below.refl _ _).alloc (Nat.le_refl _) _
            have hb56 := hb5.trans (hal6.mono hb5.size)
            have hFA6 := HFA4.out.on hb56
            have hb6 := HB4.out.trans (hb56.mono HB4.out.size)
            have hT6 := HT.out.on hb6
            have hR6 := HR.out.on hb6
            have hd6 := hFA6.c1
            have t6 := hT6.c0
            have HT6 := Lib.hid hT6
            have HR6 := Lib.hid hR6
            have HFA6 := Lib.hid hFA6
            have HB6 := Lib.hid (HA.out.trans (hb6.mono HA.out.size))
            clear hf2 hb5 hal6 hb56 hFA6 hb6 hT6 CB t4 HB4 HFA4
            rw [HDD.out] at hd6
            have x0 := HR6.out.c0
            have x1 := HR6.out.fz 0
            have HF := Lib.hid (left_err (G := w.heap.size + 1) (res := res) (by decide : (10 : Int) ≠ 0) (HB6.out) (Nat.le_succ _))
            have HRS := Lib.hid (HR6.out.set none 0 0)
            clear hR6 t6
            go_wp2
            (try simp only [Exit.inBlock, Exit.then])
            refine bodyPost_ret (ret_tree2 rfl _ _ _ none 0 0 _ rfl rfl HRS.out) rfl ?_
            exact HF.out
          | false =>
            rw [if_neg (by simp)] at hd1
            have CH0 := fun W hs => holds_any B fs c q W hs (by omega) (by omega)
            cases hdr : dirAt fs (updir q) with
            | false =>
              rw [hdr] at CH0 hd1
              rw [if_pos rfl] at hd1
              obtain ⟨e1, e2⟩ := Prod.mk.inj hd1
              subst e1
              have CH := Lib.hid CH0
              clear hd1 hpn hqn hb0 hb2 hf0 CH0 hdr
              go_enter Tryz.func58, Tryz.ntmps58
              go_wp2_with fail
              generalize ((w.alloc (.cells #[.slice B fs.length c] 43)).alloc (.cells #[.slice none 0 0] 43)) = wa at *
              refine (C.out _).mono ?_
              rintro e w1 ⟨rfl, hb1⟩
              have HB1 := Lib.hid hb1
              clear hb1 C
              go_wp2_with fail
              refine (C2.out _).mono ?_
              rintro e w2 ⟨rfl, hb2⟩
              have hb12 := HB1.out.trans (hb2.mono HB1.out.size)
              have t0 := (HT.out.on hb12).c0
              have CA := Lib.hid (CL.out w2 (HS.out.on hb12))
              have HB2 := Lib.hid hb12
              clear hb2 hb12 C2 CL HB1
              go_wp2_with fail
              refine CA.out.mono ?_
              rintro e w3 ⟨f, rfl, hf, hb3⟩
              have hff : f0 = f := hf.out.symm
              subst hff
              have hal4 : Below w3.heap.size w3 (w3.alloc (.cells #[.string f0.p, .bool f0.d, .slice f0.a f0.ls.length f0.c] 62)) := (Below.refl _ _).alloc (Nat.le_refl _) _
              have hFA4 := FileAt.new_ w3 f0
              have HG3 : Hid (w.heap.size + 1 < w3.heap.size) := Nat.lt_of_lt_of_le (HR.out.on HB2.out).lt hb3.size
              have hb34 := hb3.trans (hal4.mono hb3.size)
              have hb24 := HB2.out.trans (hb34.mono HB2.out.size)
              have hT4 := HT.out.on hb24
              have t4 := hT4.c0
              have CB := Lib.hid (CL2.out _ (HS.out.on hb24))
              have HB4 := Lib.hid hb24
              have HFA4 := Lib.hid hFA4
              clear hf hb3 hal4 hFA4 hb34 hb24 hT4 t0 CA CL2 HB2
              go_wp2_with fail
              refine CB.out.mono ?_
              rintro e w5 ⟨f2, rfl, hf2, hb5⟩
              have hal6 : Below w5.heap.size w5 (w5.alloc (.cells #[.string f2.p, .bool f2.d, .slice f2.a f2.ls.length f2.c] 62)) := (Below.refl _ _).alloc (Nat.le_refl _) _
              have hb56 := hb5.trans (hal6.mono hb5.size)
              have hFA6 := HFA4.out.on hb56
              have hb6 := HB4.out.trans (hb56.mono HB4.out.size)
              have hT6 := HT.out.on hb6
              have hR6 := HR.out.on hb6
              have hd6 := hFA6.c1
              have t6 := hT6.c0
              have HT6 := Lib.hid hT6
              have HR6 := Lib.hid hR6
              have HFA6 := Lib.hid hFA6
              have HB6 := Lib.hid (HA.out.trans (hb6.mono HA.out.size))
              clear hf2 hb5 hal6 hb56 hFA6 hb6 hT6 CB t4 HB4 HFA4
              rw [HDD.out] at hd6
              have CI := Lib.hid (CH.out _ (HTR.out.row.on HB6.out))
              clear hR6 CH
              go_wp2_with fail
              refine CI.out.mono ?_
              rintro e w7 ⟨rfl, hb7⟩
              have hR7 := HR6.out.on hb7
              have x0 := hR7.c0
              have x1 := hR7.fz 0
              have HF := Lib.hid (left_err (G := w.heap.size + 1) (res := res) (by decide : (9 : Int) ≠ 0) (HB6.out.trans (hb7.mono HB6.out.size)) (Nat.le_succ _))
              have HRS := Lib.hid (hR7.set none 0 0)
              clear hb7 hR7 CI
              go_wp2
              (try simp only [Exit.inBlock, Exit.then])
              refine bodyPost_ret (ret_tree2 rfl _ _ _ none 0 0 _ rfl rfl HRS.out) rfl ?_
              exact HF.out
            | true =>
              rw [hdr] at CH0 hd1
              rw [if_neg (by simp)] at hd1
              obtain ⟨e1, e2⟩ := Prod.mk.inj hd1
              subst e1
              have CH := Lib.hid CH0
              obtain ⟨gs, hgs⟩ : ∃ gs, fs.filter (keepF p) = gs := ⟨_, rfl⟩
              have hgk : fkeys gs = withoutK ks p.data.toList := by rw [← hgs, keys_keep, HTR.out.keys]
              have hgl : gs.length ≤ 400 := by
                have := List.length_filter_le (keepF p) fs
                rw [hgs] at this
                omega
              have CO := Lib.hid (fun W hs => by
                have h := without_any B fs c p (findZ fs p) (findZ_cases fs p) W hs HTR.out.room (by omega)
                rw [hgs] at h
                exact h)
              have hrise : Rise (fkeys gs) := by rw [hgk]; exact HTR.out.well.rise.without _
              have hnoq : ∀ k ∈ ks, k.1 ≠ q.data.toList := by
                have h1 := key_found fs q
                rw [HTR.out.keys] at h1
                have h2 : foundF fs q = none := by cases ho : foundF fs q with | none => rfl | some g => rw [ho] at hb2; cases hb2
                rw [h2] at h1
                exact find_noK h1
              have hno : ∀ k ∈ fkeys gs, k.1 ≠ q.data.toList := fun k hk => by rw [hgk] at hk; exact hnoq k (without_not hk).2
              have hf0m : f0 ∈ fs := by
                cases ho : foundF fs p with
                | none => rw [ho] at hb0; cases hb0
                | some g =>
                  rw [ho] at hf0
                  have h3 : g = f0 := hf0
                  rw [← h3]
                  exact List.mem_of_find?_eq_some ho
              have HOKF : Hid (Fm.Ok ⟨q, false, f0.a, f0.c, f0.ls⟩ w w.heap.size) := ⟨(HTR.out.row.ok f0 hf0m).ls, (HTR.out.row.ok f0 hf0m).r⟩
              have hz2 : q.size ≤ 200 := psize_le q hqn
              have HRE : Hid (res = insK (fkeys gs) (q.data.toList, false, f0.ls)) := by
                show _ = _
                rw [e2, with_rise (HTR.out.well.rise.without _), hgk]
                congr 1
                exact without_none fun k hk => hnoq k (without_not hk).2
              have HWE := Lib.hid (HW.out rfl)
              have CW := Lib.hid (fun W A5 c5 (hs : Fs W W.heap.size A5 gs) (hr : Room A5 gs.length c5) (hA : Flat A5) (hx : Fm.Ok ⟨q, false, f0.a, f0.c, f0.ls⟩ W W.heap.size) => with_c A5 gs c5 ⟨q, false, f0.a, f0.c, f0.ls⟩ W hs hr hA (by omega) (fun f hf => Nat.le_trans (HTR.out.paths f (by rw [← hgs] at hf; exact (List.mem_filter.1 hf).1)) (by decide)) hrise hno hx (by show q.size ≤ _; omega))
              clear hd1 hpn hqn hb0 hb2 hf0 CH0 hdr hgk hgl hrise hnoq hno hf0m hz2 e2 HW hgs
              go_enter Tryz.func58, Tryz.ntmps58
              go_wp2_with fail
              generalize ((w.alloc (.cells #[.slice B fs.length c] 43)).alloc (.cells #[.slice none 0 0] 43)) = wa at *
              refine (C.out _).mono ?_
              rintro e w1 ⟨rfl, hb1⟩
              have HB1 := Lib.hid hb1
              clear hb1 C
              go_wp2_with fail
              refine (C2.out _).mono ?_
              rintro e w2 ⟨rfl, hb2⟩
              have hb12 := HB1.out.trans (hb2.mono HB1.out.size)
              have t0 := (HT.out.on hb12).c0
              have CA := Lib.hid (CL.out w2 (HS.out.on hb12))
              have HB2 := Lib.hid hb12
              clear hb2 hb12 C2 CL HB1
              go_wp2_with fail
              refine CA.out.mono ?_
              rintro e w3 ⟨f, rfl, hf, hb3⟩
              have hff : f0 = f := hf.out.symm
              subst hff
              have hal4 : Below w3.heap.size w3 (w3.alloc (.cells #[.string f0.p, .bool f0.d, .slice f0.a f0.ls.length f0.c] 62)) := (Below.refl _ _).alloc (Nat.le_refl _) _
              have hFA4 := FileAt.new_ w3 f0
              have HG3 : Hid (w.heap.size + 1 < w3.heap.size) := Nat.lt_of_lt_of_le (HR.out.on HB2.out).lt hb3.size
              have hb34 := hb3.trans (hal4.mono hb3.size)
              have hb24 := HB2.out.trans (hb34.mono HB2.out.size)
              have hT4 := HT.out.on hb24
              have t4 := hT4.c0
              have CB := Lib.hid (CL2.out _ (HS.out.on hb24))
              have HB4 := Lib.hid hb24
              have HFA4 := Lib.hid hFA4
              clear hf hb3 hal4 hFA4 hb34 hb24 hT4 t0 CA CL2 HB2
              go_wp2_with fail
              refine CB.out.mono ?_
              rintro e w5 ⟨f2, rfl, hf2, hb5⟩
              have hal6 : Below w5.heap.size w5 (w5.alloc (.cells #[.string f2.p, .bool f2.d, .slice f2.a f2.ls.length f2.c] 62)) := (Below.refl _ _).alloc (Nat.le_refl _) _
              have hb56 := hb5.trans (hal6.mono hb5.size)
              have hFA6 := HFA4.out.on hb56
              have hb6 := HB4.out.trans (hb56.mono HB4.out.size)
              have hT6 := HT.out.on hb6
              have hR6 := HR.out.on hb6
              have hd6 := hFA6.c1
              have t6 := hT6.c0
              have HT6 := Lib.hid hT6
              have HR6 := Lib.hid hR6
              have HFA6 := Lib.hid hFA6
              have HB6 := Lib.hid (HA.out.trans (hb6.mono HA.out.size))
              clear hf2 hb5 hal6 hb56 hFA6 hb6 hT6 CB t4 HB4 HFA4
              rw [HDD.out] at hd6
              have CI := Lib.hid (CH.out _ (HTR.out.row.on HB6.out))
              clear hR6 CH
              go_wp2_with fail
              refine CI.out.mono ?_
              rintro e w7 ⟨rfl, hb7⟩
              have hT7 := HT6.out.on hb7
              have hR7 := HR6.out.on hb7
              have hFA7 := HFA6.out.on hb7
              have y0 := hFA7.c0
              have yz := hFA7.fz 0
              have hB7 := HB6.out.trans (hb7.mono HB6.out.size)
              have hgr := grown_cell w7 w3.heap.size 0 (.string q)
              have hT8 := hT7.grown hgr (by have := HG3.out; simp; omega)
              have hR8 := hR7.grown hgr (by have := HG3.out; simp; omega)
              have hFA8 := hFA7.set0 q
              have hB8 : Below w.heap.size w (w7.setCell ⟨w3.heap.size, 0, none⟩ (.string q)) := below_set hB7 (by have := HG3.out; omega) hB7.size
              rw [HDD.out] at hFA8
              have HT8 := Lib.hid hT8
              have HR8 := Lib.hid hR8
              have HFA8 := Lib.hid hFA8
              have HB8 := Lib.hid hB8
              clear hT7 hR7 hFA7 hB7 hgr hT8 hR8 hFA8 hB8 hb7 CI t6 hd6
              go_wp2_with fail
              generalize (w7.setCell ⟨w3.heap.size, 0, none⟩ (.string q)) = w8 at *
              have t8 := HT8.out.c0
              have a0 := HFA8.out.c0
              have a1 := HFA8.out.c1
              have a2 := HFA8.out.c2
              simp only [] at a0 a1 a2
              have hdr8 : Below w8.heap.size w8 w8.drew := (Below.refl _ _).drew
              have CO80 := CO.out w8.drew (HTR.out.row.on (HB8.out.trans (hdr8.mono HB8.out.size)))
              unfold FsLeft at CO80
              have CO8 := Lib.hid CO80
              clear CO80 CO
              generalize hn5 : (List.length (α := Fm) gs) = n5 at *
              have HN5 := Lib.hid hn5
              clear hn5
              have hne1 : w.heap.size ≠ w.heap.size + 1 := by omega
              have hne2 : w3.heap.size ≠ w.heap.size + 1 := by have := HG3.out; omega
              go_region_held3 (fun w' => w'.cell? ⟨w.heap.size, 0, none⟩ = some (.slice B fs.length c) ∧ w'.cell? ⟨w3.heap.size, 0, none⟩ = some (.string q) ∧ w'.cell? ⟨w3.heap.size, 1, none⟩ = some (.bool false) ∧ w'.cell? ⟨w3.heap.size, 2, none⟩ = some (.slice f0.a f0.ls.length f0.c)) (first | exact ⟨t8, a0, a1, a2⟩ | exact ⟨cell_on2 t8 hb9, cell_on2 a0 hb9, cell_on2 a1 hb9, cell_on2 a2 hb9⟩ | exact ⟨cell_on t8 hb10, cell_on a0 hb10, cell_on a1 hb10, cell_on a2 hb10⟩ | exact ⟨keep_cell (cell_on t8 hb10) hne1, keep_cell (cell_on a0 hb10) hne2, keep_cell (cell_on a1 hb10) hne2, keep_cell (cell_on a2 hb10) hne2⟩ | (go_keep; done)) (first
                | (go_at_call 96; refine CO8.out.mono ?_; rintro e w9 ⟨A9, c9, rfl, hg9, hb9⟩)
                | (go_at_call 93; refine (CW.out w9 A9 c9 hg9.out.1 hg9.out.2.1 hg9.out.2.2 (HOKF.out.on (HB8.out.trans ((below_dr hb9).mono HB8.out.size)))).mono ?_; rintro e w10 ⟨gs2, hgk, A10, c10, rfl, hg10, hb10'⟩; have hb10 := (below_dr hb9).trans (hb10'.mono (below_dr hb9).size); have x0 := (HR8.out.on hb10).c0; have x1 := (HR8.out.on hb10).fz 0))
              have hR9 := HR8.out.on hb10
              have htr : TrC w10 A10 (List.length (α := Fm) gs2) c10 res := tr_of hg10.out (by rw [hgk]; exact HRE.out.symm) HWE.out
              have HF := Lib.hid (left_ok (w := w) htr hR9 (HB8.out.trans (hb10.mono HB8.out.size)) (Nat.le_succ _))
              generalize (List.length (α := Fm) gs2) = n10 at *
              have HRS := Lib.hid (hR9.set A10 n10 c10)
              clear hb9 hb10 hb10' hR9 htr hg9 hg10 hgk x0 x1 t8 a0 a1 a2 CW CO8
              go_wp2
              (try simp only [Exit.inBlock, Exit.then])
              refine bodyPost_ret (ret_tree2 rfl _ _ _ A10 n10 c10 _ rfl rfl HRS.out) rfl ?_
              exact HF.out
end Go.Proofs.YtalabahjfmcnbaaGreatDoor
namespace Go.Proofs.YtalabahjfmcnbaaGreatDoor
open Go.RowKit
set_option linter.unusedVariables false

theorem tree_c : TreeC TrC where
  on := TrC.on
  set := TrC.set
  zero := TrC.zero
  mkdir := mkdir_any
  write := write_any
  remove := remove_any
  move := move_any
  get := fun B n c ks p w h hk _ => get_any B n c ks p w h hk
  in_ := fun B n c ks p w h hk _ => tin_any B n c ks p w h hk
  same := tsame_any
end Go.Proofs.YtalabahjfmcnbaaGreatDoor
