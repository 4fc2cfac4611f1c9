/- The reference's With of layer 6. -/
import Derived.Test.YtaepfahpbnpeiaaGreatDoorCk09
import Derived.Deep.RegionLaw
namespace Go.Proofs.YtaepfahpbnpeiaaGreatDoor
open Go.RowKit
set_option linter.unusedVariables false

def withF (fs : List Fm) (f : Fm) : List Fm := sortF (withoutF fs f.p ++ [f])
theorem with_len (fs : List Fm) (f : Fm) : (withF fs f).length ≤ fs.length + 1 := by
  unfold withF
  rw [sort_len, List.length_append]
  have := without_len fs f.p
  simp
  omega
theorem with_mem {fs : List Fm} {f g : Fm} (h : g ∈ withF fs f) : g ∈ fs ∨ g = f := by
  unfold withF at h
  rw [sort_mem, List.mem_append, List.mem_singleton] at h
  exact h.imp (fun h => (List.mem_filter.1 h).1) id

theorem keep_file {w : World} {G : Nat} {f : Fm} (k : FileAt w G f) : w.cell? ⟨G, 0, none⟩ = some (.string f.p) ∧ w.cell? ⟨G, 1, none⟩ = some (.bool f.d) ∧ w.cell? ⟨G, 2, none⟩ = some (.slice f.a f.ls.length f.c) := ⟨k.c0, k.c1, k.c2⟩
theorem file_grown {w w' : World} {B G : Nat} {f : Fm} {v : Value} {fs : List Fm} (k : FileAt w G f) (ho : OwnF w B v fs) (hB : G < B) (hg : w.grownBy w' v.ownBlock) : FileAt w' G f := k.grown hg (fun e => by have := ownBlock_gef ho G e; omega)
theorem without_left (A : Option Addr) (fs : List Fm) (cap : Nat) (p : ByteArray) (w0 : World) (hs : Fs w0 w0.heap.size A fs) (hn : fs.length ≤ 100000) (out : List Fm) (hout : withoutF fs p = out) (w : World) (hb : Below w0.heap.size w0 w) :
    Calls Tryz.prog 63 #[.slice A fs.length cap, .string p] w fun e w' => ∃ A1 k1, e = .returned (.slice A1 out.length k1) ∧ OwnF w' w0.heap.size (.slice A1 out.length k1) out ∧ Below w.heap.size w w' :=
  (refwithout_any A fs cap p w (hs.on hb) hn).mono fun e w' ⟨v, h1, h2, h3⟩ => by
    rw [hout] at h2
    obtain ⟨A1, k1, rfl, _, _, _⟩ := h2.slice
    exact ⟨A1, k1, h1, h2.more hb.size, h3⟩
theorem sort_left (A : Option Addr) (fs : List Fm) (cap n B : Nat) (hn : n = fs.length) (w0 w : World) (hb : Below w0.heap.size w0 w) (ho : OwnF w B (.slice A n cap) fs) (hok : ∀ g ∈ fs, g.Ok w0 w0.heap.size) (hl : fs.length ≤ 100000) (hp : ∀ g ∈ fs, g.p.size ≤ 9223372036854775807) (res : List Fm) (hres : sortF fs = res) :
    Calls Tryz.prog 98 #[.slice A n cap] w fun e w' => ∃ A1 k1, e = .returned (.slice A1 res.length k1) ∧ OwnF w' w0.heap.size (.slice A1 res.length k1) res ∧ Below w.heap.size w w' := by
  obtain ⟨A', cap', e, hf, _⟩ := ho.fs fun g hg => (hok g hg).on hb
  simp only [Value.slice.injEq] at e
  obtain ⟨rfl, rfl, rfl⟩ := e
  refine (refsort_any A fs cap w hf hl hp).mono fun e w' ⟨v, h1, h2, h3⟩ => ?_
  rw [hres] at h2
  obtain ⟨A1, k1, rfl, _, _, _⟩ := h2.slice
  exact ⟨A1, k1, h1, h2.more hb.size, h3⟩

set_option maxHeartbeats 4000000 in
set_option maxRecDepth 100000 in
theorem refwith_any (A : Option Addr) (fs : List Fm) (cap : Nat) (f : Fm) (w : World) (hs : Fs w w.heap.size A fs) (hf : f.Ok w w.heap.size) (hn : fs.length ≤ 10000) (hp : ∀ g ∈ fs, g.p.size ≤ 9223372036854775807) (hpf : f.p.size ≤ 9223372036854775807) :
    Calls Tryz.prog 62 #[.slice A fs.length cap, .agg #[.string f.p, .bool f.d, .slice f.a f.ls.length f.c]] w (RowF w (withF fs f)) := by
  obtain ⟨out, hout⟩ : ∃ out, withoutF fs f.p = out := ⟨_, rfl⟩
  have hol : out.length ≤ 10000 := by
    have := without_len fs f.p
    rw [hout] at this
    omega
  have HP2 : Hid (∀ g ∈ out ++ [f], g.p.size ≤ 9223372036854775807) := fun g hg => by
    rcases List.mem_append.1 hg with h | h
    · rw [← hout] at h; exact hp g (List.mem_filter.1 h).1
    · rw [List.mem_singleton] at h; rw [h]; exact hpf
  have HOK2 : Hid (∀ g ∈ out ++ [f], g.Ok w w.heap.size) := fun g hg => by
    rcases List.mem_append.1 hg with h | h
    · rw [← hout] at h; exact hs.ok g (List.mem_filter.1 h).1
    · rw [List.mem_singleton] at h; rw [h]; exact hf
  obtain ⟨res, hres⟩ : ∃ res, sortF (out ++ [f]) = res := ⟨_, rfl⟩
  have HRES := Lib.hid hres
  have HFIN : Hid (res = withF fs f) := by show _ = _; rw [← hres, ← hout]; rfl
  obtain ⟨n1, hn1⟩ : ∃ n1, n1 = out.length + [f].length := ⟨_, rfl⟩
  have HN1 := Lib.hid hn1
  have HN2 : Hid (n1 = (out ++ [f]).length) := by show _ = _; rw [hn1, List.length_append]
  have HL2 : Hid ((out ++ [f]).length ≤ 100000) := by show _ ≤ _; simp; omega
  have HLE : Hid (out.length + [f].length ≤ 1000000) := by show _ ≤ _; simp; omega
  have hal : Below w.heap.size w (w.alloc (.cells #[.string f.p, .bool f.d, .slice f.a f.ls.length f.c] 49)) := (Below.refl _ _).alloc (Nat.le_refl _) _
  have CW := Lib.hid (without_left A fs cap f.p _ (hs.on hal) (by omega) out hout)
  have c0 := FileAt.new_ w f
  have HC0 : Hid (FileAt (w.alloc (.cells #[.string f.p, .bool f.d, .slice f.a f.ls.length f.c] 49)) w.heap.size f) := c0
  have a0 := HC0.out.c0
  have a1 := HC0.out.c1
  have a2 := HC0.out.c2
  have HA := Lib.hid hal
  have HOK3 : Hid (∀ g ∈ out ++ [f], g.Ok (w.alloc (.cells #[.string f.p, .bool f.d, .slice f.a f.ls.length f.c] 49)) (w.alloc (.cells #[.string f.p, .bool f.d, .slice f.a f.ls.length f.c] 49)).heap.size) := fun g hg => (HOK2.out g hg).on hal
  have HG : Hid (w.heap.size < (w.alloc (.cells #[.string f.p, .bool f.d, .slice f.a f.ls.length f.c] 49)).heap.size) := by show _ < _; simp
  clear hal hs hf hp hpf hn1 hres hout c0 HOK2
  go_enter Tryz.func62, Tryz.ntmps62
  go_wp2_with fail
  generalize w.alloc (.cells #[.string f.p, .bool f.d, .slice f.a f.ls.length f.c] 49) = wa at *
  generalize hGe : w.heap.size = G at *
  have CS := Lib.hid (fun A k W hb ho => sort_left A (out ++ [f]) k n1 wa.heap.size HN2.out wa W hb ho HOK3.out HL2.out HP2.out res HRES.out)
  have hB0 : Below wa.heap.size wa wa.drew := (Below.refl _ _).drew
  have hB1 : Below wa.heap.size wa (wa.drew.alloc (.cells #[.string f.p, .bool f.d, .slice f.a f.ls.length f.c] 49)) := hB0.alloc (Nat.le_refl _) _
  go_region_held3 (fun w' => (w'.cell? ⟨G, 0, none⟩ = some (.string f.p) ∧ w'.cell? ⟨G, 1, none⟩ = some (.bool f.d) ∧ w'.cell? ⟨G, 2, none⟩ = some (.slice f.a f.ls.length f.c))) (first | exact ⟨a0, a1, a2⟩ | exact keep_file (HC0.out.on (below_drew hb1)) | exact keep_file ((HC0.out.on (below_drew hb1)).on ((Below.refl _ _).alloc (Nat.le_refl _) _)) | exact keep_file ((HC0.out.on hB1).on hb1) | exact keep_file hFP | exact keep_file (hFP.on hb9) | (go_keep; done)) (first
    | (go_at_call 63; refine (CW.out _ (by first | exact hB0 | exact hB1)).mono ?_; rintro e w1 ⟨A1, k1, rfl, ho1, hb1⟩)
    | ((refine step_append_frow (by rfl) _ _ (by rfl) wa.heap.size (.slice A1 out.length k1) out [f] (by rfl) (ho1.kept ((Below.refl _ _).alloc (Nat.le_refl _) (.cells #[.string f.p, .bool f.d, .slice f.a f.ls.length f.c] 49))) (some ⟨w1.heap.size, 0, none⟩) 1 1 (by rfl) rfl (fun h => by cases h) (FileAt.new_ w1 f).cells (Nat.le_trans (hB0.trans (hb1.mono hB0.size)).size (by simp)) HLE.out n1 HN1.out ?_); intro AP kP wP hoP hgP; have hFP : FileAt wP G f := file_grown ((HC0.out.on (below_drew hb1)).on ((Below.refl _ _).alloc (Nat.le_refl _) _)) (ho1.kept ((Below.refl _ _).alloc (Nat.le_refl _) (.cells #[.string f.p, .bool f.d, .slice f.a f.ls.length f.c] 49))) HG.out hgP; have hBP : Below wa.heap.size wa wP := below_appendf ((hB0.trans (hb1.mono hB0.size)).alloc (hB0.trans (hb1.mono hB0.size)).size _) (ho1.kept ((Below.refl _ _).alloc (Nat.le_refl _) (.cells #[.string f.p, .bool f.d, .slice f.a f.ls.length f.c] 49))) hgP (Nat.le_refl _))
    | ((refine step_append_frow (by rfl) _ _ (by rfl) wa.heap.size (.slice A1 out.length k1) out [f] (by rfl) ho1 (some ⟨wa.heap.size, 0, none⟩) 1 1 (by rfl) rfl (fun h => by cases h) ((FileAt.new_ wa.drew f).on hb1).cells (hB1.trans (hb1.mono hB1.size)).size HLE.out n1 HN1.out ?_); intro AP kP wP hoP hgP; have hFP : FileAt wP G f := file_grown ((HC0.out.on hB1).on hb1) ho1 HG.out hgP; have hBP : Below wa.heap.size wa wP := below_appendf (hB1.trans (hb1.mono hB1.size)) ho1 hgP (Nat.le_refl _))
    | (go_at_call 98; refine (CS.out AP kP wP hBP hoP).mono ?_; rintro e w9 ⟨A9, k9, rfl, ho9, hb9⟩))
  all_goals
    have hfin : RowF w (withF fs f) (.returned (.slice A9 res.length k9)) w9 := by
      unfold RowF
      rw [hGe, ← HFIN.out]
      exact ⟨_, rfl, ho9.more (Nat.le_of_lt HG.out), HA.out.trans ((hBP.trans (hb9.mono hBP.size)).mono (Nat.le_of_lt HG.out))⟩
    have hfin := Lib.hid hfin
    clear ho1 hb1 hoP hgP hFP hBP ho9 hb9 hB0 hB1 CS CW
    go_wp2
    go_ret
    exact hfin.out
end Go.Proofs.YtaepfahpbnpeiaaGreatDoor
