
/- TreeDoes, over what package tree's calls are to do. -/
import Derived.Test.YtcjiipmageddhaaDoorCalls
namespace Go.Proofs.YtcjiipmageddhaaDoor
open Go.RowKit
set_option linter.unusedVariables false

/-- What is held at each round: the tree, the variable that it is in, and the files that it has. -/
structure Doing (Tr : World → Option Addr → Nat → Nat → List PF → Prop) (w wr : World) (G k : Nat) (W : Option Addr) (wc : Nat) (B : Option Addr) (n c : Nat) (fs : List Fm) : Prop where
  tr : Tr wr B n c (fkeys fs)
  at_ : TAt wr G B n c
  row : Fs wr wr.heap.size W fs
  room : Room W fs.length wc
  len : fs.length ≤ k
  paths : ∀ f ∈ fs, f.p.size ≤ 300
  lines : ∀ f ∈ fs, f.ls.length ≤ 60
  below : Below w.heap.size w wr
theorem Doing.on {Tr : World → Option Addr → Nat → Nat → List PF → Prop} (T : TreeC Tr) {w wr w' : World} {G k : Nat} {W : Option Addr} {wc : Nat} {B : Option Addr} {n c : Nat} {fs : List Fm} (h : Doing Tr w wr G k W wc B n c fs) (hb : Below wr.heap.size wr w') : Doing Tr w w' G k W wc B n c fs :=
  ⟨T.on h.tr hb, h.at_.on hb, h.row.on hb, h.room, h.len, h.paths, h.lines, h.below.trans (hb.mono h.below.size)⟩
theorem Doing.next {Tr : World → Option Addr → Nat → Nat → List PF → Prop} {w wr : World} {G k : Nat} {W : Option Addr} {wc : Nat} {B : Option Addr} {n c : Nat} {fs : List Fm} (h : Doing Tr w wr G k W wc B n c fs) : Doing Tr w wr G (k + 1) W wc B n c fs :=
  ⟨h.tr, h.at_, h.row, h.room, Nat.le_succ_of_le h.len, h.paths, h.lines, h.below⟩
theorem Doing.short {Tr : World → Option Addr → Nat → Nat → List PF → Prop} {w wr : World} {G k : Nat} {W : Option Addr} {wc : Nat} {B : Option Addr} {n c : Nat} {fs : List Fm} (h : Doing Tr w wr G k W wc B n c fs) (hk : k ≤ 40) : Short fs :=
  ⟨by have := h.len; omega, fun f hf => by have := h.lines f hf; omega⟩
theorem files_dirs (ks : List PF) : filesK ks + dirsK ks = ks.length := by
  unfold filesK dirsK
  induction ks with
  | nil => rfl
  | cons k l ih =>
    cases h : k.2.1 <;> simp [h] <;> omega
theorem fs_set {w w' : World} {A A2 : Option Addr} {fs : List Fm} {G n c : Nat} (h : Fs w w.heap.size A fs) (k : TAt w G A2 n c) (hg : w.grownBy w' (some G)) : Fs w' w'.heap.size A fs := by
  have cell : ∀ {b off : Nat} {v : Value}, w.cell? ⟨b, off, none⟩ = some v → b ≠ G → w'.cell? ⟨b, off, none⟩ = some v := fun {b off v} h1 h2 => by
    have hlt := World.block_lt_of_cell? _ _ h1
    unfold World.cell? at h1 ⊢
    rw [hg.block b hlt (by simpa using h2)]
    exact h1
  have nos : ∀ {b off : Nat} {s : ByteArray}, w.cell? ⟨b, off, none⟩ = some (.string s) → b ≠ G := fun {b off s} h1 e => by
    subst e
    simp only [World.cell?, show w.heap[b]? = _ from k] at h1
    match off, h1 with
    | 0, h1 => simp at h1
    | n + 1, h1 => simp at h1
  refine ⟨fun hp => ?_, fun f hf => ⟨fun hp => ?_, (h.ok f hf).r⟩⟩
  · obtain ⟨b, off, e, hlt, hc⟩ := h.at_ hp
    have hb : b ≠ G := nos (hc 0 hp).1
    refine ⟨b, off, e, Nat.lt_of_lt_of_le hlt hg.size, fun j hj => ?_⟩
    obtain ⟨h1, h2, h3⟩ := hc j hj
    exact ⟨cell h1 hb, cell h2 hb, cell h3 hb⟩
  · obtain ⟨b, off, e, hlt, hc⟩ := (h.ok f hf).ls hp
    have hb : b ≠ G := nos (hc 0 hp)
    exact ⟨b, off, e, Nat.lt_of_lt_of_le hlt hg.size, fun j hj => cell (hc j hj) hb⟩
/-- What Do leaves, at files that are short. -/
theorem do_left (A : Option Addr) (fs : List Fm) (cap : Nat) (c : Cm) (er : Int) (res : List PF) (w : World) (hs : Fs w w.heap.size A fs) (hr : Room A fs.length cap) (hc : c.Ok w w.heap.size) (hn : fs.length ≤ 40) (hp : ∀ f ∈ fs, f.p.size ≤ 300) (hl : ∀ f ∈ fs, f.ls.length ≤ 60) (hcp : c.p.size ≤ 300) (hcq : c.dst.size ≤ 300) (hcl : LightK c.ls) (hT : Tabs w)
    (hd : doK (fkeys fs) c.kind c.p.data.toList c.dst.data.toList c.ls (checkN (toBs c.ls)) = (er, res)) :
    Calls Tryd.prog 7 #[.slice A fs.length cap, .agg #[.int .i64 c.kind, .string c.p, .string c.dst, .slice c.a c.ls.length c.c]] w fun e w' => ∃ A' cap' gs, e = .returned (.tuple #[.slice A' (List.length (α := Fm) gs) cap', .int .i64 er]) ∧
      Hid (Fs w' w'.heap.size A' gs ∧ Room A' gs.length cap' ∧ fkeys gs = res ∧ gs.length ≤ fs.length + 1 ∧ (∀ f ∈ gs, f.p.size ≤ 300) ∧ (∀ f ∈ gs, f.ls.length ≤ 60)) ∧ Below w.heap.size w w' := by
  obtain ⟨kind, p, q, ca, cc, cls⟩ := c
  have hlx : ∀ x ∈ cls, x.length ≤ 9223372036854775807 := fun x hx => by have := hcl.2 x hx; omega
  have h := refdo_any A fs cap kind p q ca cc cls (checkN (toBs cls)) w hs hr hc.ls hc.r (by omega) (fun f hf => by have := hp f hf; omega) hc.p hc.q (fun W hb => by
    have h2 := refcheck_any ca (toBs cls) cc W (hc.ls.on hb) (by rw [toBs_len]; exact hc.n) (fun s hs => by
      obtain ⟨x, hx, rfl⟩ := List.mem_map.1 hs
      rw [toB_size]
      exact hlx x hx) (Tabs.on hT hb)
    rw [toBs_len] at h2
    exact h2)
  obtain ⟨k1, k2⟩ := key_do fs ⟨kind, p, q, ca, cc, cls⟩ (checkN (toBs cls))
  have k3 := do_len fs ⟨kind, p, q, ca, cc, cls⟩ (checkN (toBs cls))
  have k4 := fun g => @do_mem fs ⟨kind, p, q, ca, cc, cls⟩ (checkN (toBs cls)) g
  rw [hd] at k1 k2
  refine h.mono fun e w' ⟨A', cap', h1, h2, h3, h4⟩ => ⟨A', cap', _, ?_, ⟨h2, h3, k2, k3, fun f hf => ?_, fun f hf => ?_⟩, h4⟩
  · rw [h1, k1]
  · rcases k4 f hf with h | ⟨h | h, _⟩
    · exact hp f h
    · rw [h]; exact hcp
    · rw [h]; exact hcq
  · rcases k4 f hf with h | ⟨_, h | h | ⟨g, hg, h⟩⟩
    · exact hl f h
    · rw [h]; simp
    · rw [h]; exact hcl.1
    · rw [h]; exact hl g hg

def inF (fs : List Fm) (p : ByteArray) : List (List UInt8) := (fs.filter fun f => decide (upB f.p = p)).map fun f => f.p.data.toList
theorem in_key (fs : List Fm) (p : ByteArray) : inK (fkeys fs) p.data.toList = inF fs p := by
  unfold inK inF fkeys
  rw [List.filter_map, List.map_map]
  have hh : ((fun k : PF => decide (dirP nameP k.1 = p.data.toList)) ∘ Fm.key) = fun f => decide (upB f.p = p) := by
    funext f
    simp only [Function.comp]
    rw [decide_eq_decide]
    exact ⟨fun h => bytes_inj ((up_list f.p).trans h), fun h => (up_list f.p).symm.trans (congrArg (fun s : ByteArray => s.data.toList) h)⟩
  rw [hh]
  rfl
theorem fs_of_cells {w : World} {A : Option Addr} {fs : List Fm} (h : FCells w A fs) (hok : ∀ f ∈ fs, f.Ok w w.heap.size) : Fs w w.heap.size A fs :=
  ⟨fun hp => by
    obtain ⟨b, off, e, hc⟩ := h hp
    have k0 := h.get (j := 0) hp
    obtain ⟨b', off', e', c0, _, _⟩ := k0
    rw [e] at e'
    simp only [Option.some.injEq, Addr.mk.injEq, and_true] at e'
    obtain ⟨rfl, rfl⟩ := e'
    refine ⟨b, off, e, World.block_lt_of_cell? _ _ c0, fun j hj => ?_⟩
    obtain ⟨b', off', e', d0, d1, d2⟩ := h.get (j := j) hj
    rw [e] at e'
    simp only [Option.some.injEq, Addr.mk.injEq, and_true] at e'
    obtain ⟨rfl, rfl⟩ := e'
    exact ⟨d0, d1, d2⟩, hok⟩
theorem fs_addr {w : World} {B cap : Nat} {A : Option Addr} {fs : List Fm} (h : Fs w B A fs) (hr : Room A fs.length cap) : 0 < fs.length → (A = none ∨ ∃ b off, A = some ⟨b, off, none⟩) := fun hp => by
  obtain ⟨b, off, e, _⟩ := h.at_ hp
  exact .inr ⟨b, off, e⟩
theorem keep_xt {w w' : World} {X G n c : Nat} {B : Option Addr} {f : Fm} (hx : FileAt w X f) (ht : TAt w G B n c) (hb : Below w.heap.size w w') : w'.cell? ⟨X, 0, none⟩ = some (.string f.p) ∧ w'.cell? ⟨X, 1, none⟩ = some (.bool f.d) ∧ w'.cell? ⟨X, 2, none⟩ = some (.slice f.a f.ls.length f.c) ∧ w'.cell? ⟨G, 0, none⟩ = some (.slice B n c) :=
  ⟨(hx.on hb).c0, (hx.on hb).c1, (hx.on hb).c2, (ht.on hb).c0⟩
theorem in_take (fs : List Fm) (p : ByteArray) (k : Nat) (h : k < fs.length) : inF (fs.take (k + 1)) p = inF (fs.take k) p ++ if upB fs[k].p = p then [fs[k].p.data.toList] else [] := by
  unfold inF
  rw [List.take_succ_eq_append_getElem h, List.filter_append, List.map_append]
  congr 1
  by_cases hp : upB fs[k].p = p <;> simp [hp]
theorem in_len (fs : List Fm) (p : ByteArray) : (inF fs p).length ≤ fs.length := by
  unfold inF
  rw [List.length_map]
  exact List.length_filter_le _ _
theorem get_some {f : FuncId} {args : Array Value} {w : World} {k : PF} (h : Calls Tryd.prog f args w (FileLeft w (some k))) : Calls Tryd.prog f args w fun e w' => ∃ g : Fm, e = .returned (.tuple #[.agg #[.string g.p, .bool g.d, .slice g.a g.ls.length g.c], .bool true]) ∧ Hid (g.Ok w' w'.heap.size ∧ g.key = k) ∧ Below w.heap.size w w' :=
  h.mono fun e w' ⟨g, h1, h2, h3⟩ => ⟨g, h1, ⟨h2.out.1, h2.out.2 k rfl⟩, h3⟩
theorem get_none {f : FuncId} {args : Array Value} {w : World} (h : Calls Tryd.prog f args w (FileLeft w none)) : Calls Tryd.prog f args w fun e w' => ∃ g : Fm, e = .returned (.tuple #[.agg #[.string g.p, .bool g.d, .slice g.a g.ls.length g.c], .bool false]) ∧ Hid (g.Ok w' w'.heap.size) ∧ Below w.heap.size w w' :=
  h.mono fun e w' ⟨g, h1, h2, h3⟩ => ⟨g, h1, h2.out.1, h3⟩

set_option maxHeartbeats 20000000 in
set_option maxRecDepth 100000 in
theorem treedoes_light {Tr : World → Option Addr → Nat → Nat → List PF → Prop} (T : TreeC Tr) (A0 : Option Addr) (cs : List Cm) (cap0 : Nat) (p : ByteArray) (w : World) (hc : Cs w w.heap.size A0 cs) (hn : cs.length ≤ 9223372036854775807) (hp : p.size ≤ 300) (hT : Tabs w) :
    Calls Tryd.prog 3 #[.slice A0 cs.length cap0, .string p] w fun e w' => e = .returned (.bool true) ∧ Below w.heap.size w w' := by
  have q0 : ¬ ((300 : Int) < (p.size : Int)) := by omega
  have HC := Lib.hid hc
  have HT := Lib.hid hT
  have CA := Lib.hid (fun W hb => tawake_any T W (Tabs.on hT hb))
  clear hc hT
  go_enter Tryd.func3, Tryd.ntmps3
  go_wp2_with fail
  generalize hGe : w.heap.size = G at *
  have hal : Below w.heap.size w (w.alloc (.cells #[.slice none 0 0] 25)) := (Below.refl _ _).alloc (Nat.le_refl _) _
  have hst : Doing Tr w (w.alloc (.cells #[.slice none 0 0] 25)) G 0 none 0 none 0 0 [] := ⟨T.zero _, by rw [← hGe]; exact TAt.new_ w none 0 0, Fs.nil, ⟨fun _ => rfl, Nat.le_refl _⟩, Nat.le_refl _, by simp, by simp, hal⟩
  have HST := Lib.hid hst
  clear hal hst
  go_loopw [6, 7] (fun wv iv wr => ∃ (k : Nat) (W : Option Addr) (wc : Nat) (B : Option Addr) (n c : Nat) (fs : List Fm), k ≤ cs.length ∧ k ≤ 40 ∧ wv = .slice W fs.length wc ∧ iv = .int .i64 (k : Int) ∧ Hid (Doing Tr w wr G k W wc B n c fs)) (fun _ iv _ => cs.length - (intOf iv).toNat)
  case atStart => exact ⟨0, none, 0, none, 0, 0, [], Nat.zero_le _, by omega, rfl, rfl, HST.out⟩
  case round =>
    obtain ⟨k, W, wc, B, n, c, fs, hk, hk40, rfl, rfl, hd⟩ := hrel
    by_cases hgo : k < cs.length ∧ k < 40
    · obtain ⟨hlt, h40⟩ := hgo
      have g1 : (k : Int) < (cs.length : Int) := by omega
      have g2 : (k : Int) < 40 := by omega
      have g3 : (0 : Int) ≤ (k : Int) := by omega
      obtain ⟨b, off, rfl, hbb, d0, d1, d2, d3⟩ := HC.out.get (by rw [← hGe]; exact hd.out.below) hlt
      have hok := HC.out.ok cs[k] (List.getElem_mem _)
      obtain ⟨cm, hcm⟩ : ∃ cm, cs[k] = cm := ⟨_, rfl⟩
      rw [hcm] at d0 d1 d2 d3 hok
      obtain ⟨kind, cp, cq, ca, cc, cls⟩ := cm
      simp only at d0 d1 d2 d3
      have hal : Below wr.heap.size wr (wr.alloc (.cells #[.int .i64 kind, .string cp, .string cq, .slice ca cls.length cc] 29)) := (Below.refl _ _).alloc (Nat.le_refl _) _
      have DA := Lib.hid (hd.out.on T hal)
      have HB1 : Hid (Below w.heap.size w (wr.alloc (.cells #[.int .i64 kind, .string cp, .string cq, .slice ca cls.length cc] 29))) := DA.out.below
      rw [← hGe] at hok
      have HOK := Lib.hid (hok.on HB1.out)
      have HCA : Hid (CallAt (wr.alloc (.cells #[.int .i64 kind, .string cp, .string cq, .slice ca cls.length cc] 29)) wr.heap.size ⟨kind, cp, cq, ca, cc, cls⟩) := CallAt.new_ wr ⟨kind, cp, cq, ca, cc, cls⟩
      have a0 := HCA.out.c0
      have a1 := HCA.out.c1
      have a2 := HCA.out.c2
      have a3 := HCA.out.c3
      have CLT0 := fun W => light3_any ca (toBs cls) cc W
      clear hok hcm hal hd
      by_cases hpl : 300 < cp.size
      · have q3 : (300 : Int) < (cp.size : Int) := by omega
        clear CLT0
        go_wp2_with fail
        refine (CA.out _ (by rw [← hGe]; exact HB1.out)).mono ?_
        rintro e w2 ⟨rfl, hb⟩
        have HB2 := Lib.hid (HB1.out.trans (hb.mono HB1.out.size))
        clear hb
        go_wp2
        go_ret
        exact ⟨rfl, HB2.out⟩
      · have q3 : ¬ ((300 : Int) < (cp.size : Int)) := by omega
        by_cases hql : 300 < cq.size
        · have q4 : (300 : Int) < (cq.size : Int) := by omega
          clear CLT0
          go_wp2_with fail
          refine (CA.out _ (by rw [← hGe]; exact HB1.out)).mono ?_
          rintro e w2 ⟨rfl, hb⟩
          have HB2 := Lib.hid (HB1.out.trans (hb.mono HB1.out.size))
          clear hb
          go_wp2
          go_ret
          exact ⟨rfl, HB2.out⟩
        · have q4 : ¬ ((300 : Int) < (cq.size : Int)) := by omega
          have CLT1 := light3_any ca (toBs cls) cc (wr.alloc (.cells #[.int .i64 kind, .string cp, .string cq, .slice ca cls.length cc] 29)) HOK.out.ls (by rw [toBs_len]; exact HOK.out.n)
          rw [toBs_len] at CLT1
          clear CLT0
          cases hli : light3B (toBs cls)
          · rw [hli] at CLT1
            have CLT := Lib.hid (fun (_ : Unit) => CLT1)
            clear CLT1
            go_wp2_with fail
            refine (CLT.out ()).mono ?_
            rintro e wx ⟨rfl, hwx⟩
            subst hwx
            go_wp2_with fail
            refine (CA.out _ (by rw [← hGe]; exact HB1.out)).mono ?_
            rintro e w2 ⟨rfl, hb⟩
            have HB2 := Lib.hid (HB1.out.trans (hb.mono HB1.out.size))
            clear hb
            go_wp2
            go_ret
            exact ⟨rfl, HB2.out⟩
          · rw [hli] at CLT1
            have CLT := Lib.hid CLT1
            have HLK := Lib.hid (light_short hli)
            clear CLT1 hli
            go_wp2_with fail
            refine CLT.out.mono ?_
            rintro e wx ⟨rfl, hwx⟩
            subst hwx
            clear CLT
            obtain ⟨er, res, hdo⟩ : ∃ er res, doK (fkeys fs) kind cp.data.toList cq.data.toList cls (checkN (toBs cls)) = (er, res) := ⟨_, _, rfl⟩
            have HDO := Lib.hid hdo
            clear hdo
            have t0 := DA.out.at_.c0
            have hle := DA.out.len
            have CD := Lib.hid (lawdo_any T B n c (fkeys fs) kind cp cq ca cc cls er res _ DA.out.tr (by rw [fkeys_len]; omega) (by omega) (by omega) HOK.out.ls HOK.out.r HLK.out (Tabs.on HT.out HB1.out) HDO.out)
            go_wp2_with fail
            refine CD.out.mono ?_
            rintro e w2 ⟨B2, n2, c2, rfl, ht, hb⟩
            have hal2 : Below w2.heap.size w2 (w2.alloc (.cells #[.slice B2 n2 c2] 25)) := (Below.refl _ _).alloc (Nat.le_refl _) _
            have hb3 := hb.trans (hal2.mono hb.size)
            have D3 := Lib.hid (DA.out.on T hb3)
            have HU3 := Lib.hid (TAt.new_ w2 B2 n2 c2)
            have HTR : Hid ((er = 0 → Tr (w2.alloc (.cells #[.slice B2 n2 c2] 25)) B2 n2 c2 res) ∧ (er ≠ 0 → Tr (w2.alloc (.cells #[.slice B2 n2 c2] 25)) B2 n2 c2 [])) := ⟨fun h => T.on (ht.out.1 h) hal2, fun h => T.on (ht.out.2 h) hal2⟩
            have HC3 := Lib.hid (HCA.out.on hb3)
            have HOK3 := Lib.hid (HOK.out.on hb3)
            have CRD := Lib.hid (do_left W fs wc ⟨kind, cp, cq, ca, cc, cls⟩ er res _ D3.out.row D3.out.room HOK3.out (by omega) D3.out.paths D3.out.lines (by show cp.size ≤ 300; omega) (by show cq.size ≤ 300; omega) HLK.out (Tabs.on HT.out D3.out.below) HDO.out)
            have HGu : Hid (G < w2.heap.size) := Nat.lt_of_lt_of_le DA.out.at_.lt hb.size
            clear hb hb3 hal2 ht CD DA HOK HCA t0 a0 a1 a2 a3 d0 d1 d2 d3
            have a0 := HC3.out.c0
            have a1 := HC3.out.c1
            have a2 := HC3.out.c2
            have a3 := HC3.out.c3
            go_wp2_with fail
            refine CRD.out.mono ?_
            rintro e w4 ⟨A4, k4, gs, rfl, hg, hb⟩
            have D4 := Lib.hid (D3.out.on T hb)
            have HU4 := Lib.hid (HU3.out.on hb)
            have HTR4 : Hid ((er = 0 → Tr w4 B2 n2 c2 res) ∧ (er ≠ 0 → Tr w4 B2 n2 c2 [])) := ⟨fun h => T.on (HTR.out.1 h) hb, fun h => T.on (HTR.out.2 h) hb⟩
            clear hb D3 HU3 HTR HC3 HOK3 CRD a0 a1 a2 a3 HDO HLK
            have hee : (er != er) = false := by simp
            have u0 := HU4.out.c0
            by_cases he : er = 0
            · have hres := HTR4.out.1 he
              subst he
              have hke := hg.out.2.2.1
              subst hke
              have hset : Hid (Doing Tr w (w4.setCell ⟨G, 0, none⟩ (.slice B2 n2 c2)) G (k + 1) A4 k4 B2 n2 c2 gs) :=
                ⟨T.set hres D4.out.at_ (grown_cell _ _ _ _), D4.out.at_.set B2 n2 c2, fs_set hg.out.1 D4.out.at_ (grown_cell _ _ _ _), hg.out.2.1, by have := hg.out.2.2.2.1; omega, hg.out.2.2.2.2.1, hg.out.2.2.2.2.2, below_set D4.out.below (by rw [← hGe]; exact Nat.le_refl _) D4.out.below.size⟩
              have t0 := D4.out.at_.c0
              have t1 := D4.out.at_.fz 0
              have hGlt := D4.out.at_.lt
              go_wp2_with fail
              clear D4 HU4 HTR4 u0 hg hres t0 t1 hGlt
              generalize w4.setCell ⟨G, 0, none⟩ (.slice B2 n2 c2) = w5 at *
              have t0 := hset.out.at_.c0
              refine (T.size B2 n2 c2 (fkeys gs) w5 hset.out.tr (by rw [fkeys_len]; have := hset.out.len; omega)).mono ?_
              rintro e ws ⟨rfl, hb⟩
              have hfd := files_dirs (fkeys gs)
              rw [fkeys_len] at hfd
              have HFD := Lib.hid hfd
              have hfl := hset.out.len
              have hwf : IntKind.i64.wrap ((filesK (fkeys gs) : Int) + (dirsK (fkeys gs) : Int)) = (gs.length : Int) := (IntWalk.i64_in _ (by omega)).trans (by omega)
              have DS := Lib.hid (hset.out.on T hb)
              clear hb t0 hfd
              generalize filesK (fkeys gs) = nf at *
              generalize dirsK (fkeys gs) = nd at *
              have t0 := DS.out.at_.c0
              go_wp2_with fail
              refine (T.all B2 n2 c2 (fkeys gs) ws DS.out.tr (by rw [fkeys_len]; omega)).mono ?_
              rintro e wt ⟨A6, fs6, k6, rfl, hf6, hb⟩
              have DT := Lib.hid (DS.out.on T hb)
              have hsh : Short fs6 := by
                have hke := hf6.out.2.2
                have hl6 : fs6.length = gs.length := by rw [← fkeys_len, hke, fkeys_len]
                refine ⟨by omega, fun f hf => ?_⟩
                have : f.key ∈ fkeys gs := by rw [← hke]; exact List.mem_map.2 ⟨f, hf, rfl⟩
                obtain ⟨g, hg, hge⟩ := List.mem_map.1 this
                have := DS.out.lines g hg
                have e3 : g.ls = f.ls := congrArg (fun x : PF => x.2.2) hge
                rw [← e3]
                omega
              have CSM := Lib.hid (refsamef_any A6 A4 fs6 gs k6 k4 wt true (decide_eq_true hf6.out.2.2) hf6.out.1 DT.out.row hsh (DT.out.short (by omega)))
              clear hb t0 DS hsh hf6
              go_wp2_with fail
              refine CSM.out.mono ?_
              rintro e wq ⟨rfl, qq, rfl⟩
              have DQ := Lib.hid ((DT.out.on T (below_drewN (Below.refl _ _) qq)))
              have hbn : ((gs.length : Int) != (gs.length : Int)) = false := by simp
              clear CSM DT
              go_wp2
              go_roundw
              case rel => exact ⟨k + 1, A4, k4, B2, n2, c2, gs, by omega, by omega, rfl, by go_num, DQ.out⟩
              case measure => simp [intOf] <;> omega
            · have her : (er != 0) = true := by simpa using he
              have her2 : (er == 0) = false := by simpa using he
              have CAL := Lib.hid (T.all B2 n2 c2 [] w4 (HTR4.out.2 he) (by simp))
              go_wp2_with fail
              refine CAL.out.mono ?_
              rintro e w5 ⟨A5, fs5, k5, rfl, hf5, hb⟩
              have h5 : fs5 = [] := by
                have := congrArg List.length hf5.out.2.2
                rw [fkeys_len] at this
                exact List.length_eq_zero_iff.1 this
              subst h5
              have D5 := Lib.hid (D4.out.on T hb)
              clear hb hf5 D4 HU4 HTR4 CAL u0 hg
              simp only [List.length_nil]
              have t0 := D5.out.at_.c0
              go_wp2_with fail
              refine (T.size B n c (fkeys fs) w5 D5.out.tr (by rw [fkeys_len]; have := D5.out.len; omega)).mono ?_
              rintro e ws ⟨rfl, hb⟩
              have hfd := files_dirs (fkeys fs)
              rw [fkeys_len] at hfd
              have HFD := Lib.hid hfd
              have hfl := D5.out.len
              have hwf : IntKind.i64.wrap ((filesK (fkeys fs) : Int) + (dirsK (fkeys fs) : Int)) = (fs.length : Int) := (IntWalk.i64_in _ (by omega)).trans (by omega)
              have DS := Lib.hid (D5.out.on T hb)
              clear hb t0 hfd
              generalize filesK (fkeys fs) = nf at *
              generalize dirsK (fkeys fs) = nd at *
              have t0 := DS.out.at_.c0
              go_wp2_with fail
              refine (T.all B n c (fkeys fs) ws DS.out.tr (by rw [fkeys_len]; omega)).mono ?_
              rintro e wt ⟨A6, fs6, k6, rfl, hf6, hb⟩
              have DT := Lib.hid (DS.out.on T hb)
              have hsh : Short fs6 := by
                have hke := hf6.out.2.2
                have hl6 : fs6.length = fs.length := by rw [← fkeys_len, hke, fkeys_len]
                refine ⟨by omega, fun f hf => ?_⟩
                have : f.key ∈ fkeys fs := by rw [← hke]; exact List.mem_map.2 ⟨f, hf, rfl⟩
                obtain ⟨g, hg, hge⟩ := List.mem_map.1 this
                have := DS.out.lines g hg
                have e3 : g.ls = f.ls := congrArg (fun x : PF => x.2.2) hge
                rw [← e3]
                omega
              have CSM := Lib.hid (refsamef_any A6 W fs6 fs k6 wc wt true (decide_eq_true hf6.out.2.2) hf6.out.1 DT.out.row hsh (DT.out.short (by omega)))
              clear hb t0 DS hsh hf6
              go_wp2_with fail
              refine CSM.out.mono ?_
              rintro e wq ⟨rfl, qq, rfl⟩
              have DQ := Lib.hid ((DT.out.on T (below_drewN (Below.refl _ _) qq)).next)
              have hbn : ((fs.length : Int) != (fs.length : Int)) = false := by simp
              clear CSM DT
              go_wp2
              go_roundw
              case rel => exact ⟨k + 1, W, wc, B, n, c, fs, by omega, by omega, rfl, by go_num, DQ.out⟩
              case measure => simp [intOf] <;> omega
    · have hst : ¬ k < cs.length ∨ (k < cs.length ∧ ¬ k < 40) := by omega
      rcases hst with hst | ⟨hst, hst2⟩
      · have g1 : ¬ ((k : Int) < (cs.length : Int)) := by omega
        rcases findZ_cases fs p with ⟨k0, hk0, hz, hp0, hn0⟩ | ⟨hz, hn0⟩
        · have hfd := find_at hk0 hp0 hn0
          have q6 : (0 : Int) ≤ (k0 : Int) := by omega
          have q7 : (k0 : Int) < (fs.length : Int) := by omega
          have t0 := hd.out.at_.c0
          have hlen := hd.out.len
          have CG0 := T.get B n c (fkeys fs) p wr hd.out.tr (by rw [fkeys_len]; omega) (by omega)
          rw [key_find, hfd] at CG0
          have CG := Lib.hid (get_some CG0)
          clear CG0
          go_wp2_with fail
          refine CG.out.mono ?_
          rintro e w2 ⟨f, rfl, hf, hb⟩
          have hal : Below w2.heap.size w2 (w2.alloc (.cells #[.string f.p, .bool f.d, .slice f.a f.ls.length f.c] 41)) := (Below.refl _ _).alloc (Nat.le_refl _) _
          have hb3 := hb.trans (hal.mono hb.size)
          have D3 := Lib.hid (hd.out.on T hb3)
          have HX3 : Hid (FileAt (w2.alloc (.cells #[.string f.p, .bool f.d, .slice f.a f.ls.length f.c] 41)) w2.heap.size f) := FileAt.new_ w2 f
          have HF3 : Hid (f.Ok (w2.alloc (.cells #[.string f.p, .bool f.d, .slice f.a f.ls.length f.c] 41)) (w2.alloc (.cells #[.string f.p, .bool f.d, .slice f.a f.ls.length f.c] 41)).heap.size ∧ f.key = fs[k0].key) := ⟨hf.out.1.on hal, hf.out.2⟩
          clear hb hal hb3 hd CG t0 hf
          have CF0 := reffind_any W fs wc p _ D3.out.row (by omega)
          rw [hz] at CF0
          have CF := Lib.hid CF0
          clear CF0
          go_wp2_with fail
          refine CF.out.mono ?_
          rintro e wx ⟨rfl, hwx⟩
          subst hwx
          clear CF
          generalize hw3e : w2.alloc (.cells #[.string f.p, .bool f.d, .slice f.a f.ls.length f.c] 41) = w3 at *
          clear hw3e
          go_wp2
          go_loopw [18, 19] (fun v iv wr => ∃ (j m : Nat) (A5 : Option Addr) (c5 : Nat), j ≤ fs.length ∧ v = .slice A5 m c5 ∧ iv = .int .i64 (j : Int) ∧ Hid (OwnS wr w3.heap.size (.slice A5 m c5) (inF (fs.take j) p)) ∧ Hid (Below w3.heap.size w3 wr)) (fun _ iv _ => fs.length - (intOf iv).toNat)
          case atStart => exact ⟨0, 0, none, 0, Nat.zero_le _, rfl, rfl, OwnS.nil _ _, Below.refl _ _⟩
          case round =>
            obtain ⟨j, m, A5, c5, hj, rfl, rfl, hown, hbl⟩ := hrel
            by_cases hlt : j < fs.length
            · obtain ⟨b, off, rfl, hbb, d0, d1, d2⟩ := (D3.out.row.on hbl.out).get hlt
              clear d1 d2
              have hps : fs[j].p.size ≤ 9223372036854775807 := by have := D3.out.paths fs[j] (List.getElem_mem _); omega
              have CX := Lib.hid (fun W => up_left fs[j].p W hps)
              have hit := in_take fs p j hlt
              by_cases hup : upB fs[j].p = p
              · rw [if_pos hup] at hit
                have HIT := Lib.hid hit
                obtain ⟨x, hx⟩ : ∃ x, fs[j].p = x := ⟨_, rfl⟩
                have hbe : (p.toList == p.toList) = true := by simp
                have hin := in_len (fs.take j) p
                rw [List.length_take] at hin
                have hbnd : (inF (fs.take j) p).length + [x.data.toList].length ≤ 1000000 := by
                  have := D3.out.len
                  simp only [List.length_cons, List.length_nil]
                  omega
                have HBND := Lib.hid hbnd
                simp only [hup] at CX
                simp only [hx] at CX d0 HIT
                clear hit hup hx hin hps hbnd
                go_wp2_with fail
                refine (CX.out _).mono ?_
                rintro e w7 ⟨rfl, hb7⟩
                have d7 := cell_on d0 hb7
                have hal7 : Below w7.heap.size w7 (w7.alloc (.cells #[.string x] 9)) := (Below.refl _ _).alloc (Nat.le_refl _) _
                have HO7 := Lib.hid ((hown.out.kept hb7).kept hal7)
                have HB7 := Lib.hid (hbl.out.trans ((hb7.trans (hal7.mono hb7.size)).mono hbl.out.size))
                have HS7 := Lib.hid (strs_one w7 x)
                have hbs7 : w3.heap.size ≤ (w7.alloc (.cells #[.string x] 9)).heap.size := HB7.out.size
                obtain ⟨m7, hm7⟩ : ∃ m7, m7 = (inF (fs.take j) p).length + [x.data.toList].length := ⟨_, rfl⟩
                have HM7 := Lib.hid hm7
                clear hb7 hal7 hown hbl d0 CX hm7
                go_wp2_with (at_builtin; refine wpList_append_row rfl _ _ rfl w3.heap.size _ (inF (fs.take j) p) [x.data.toList] rfl HO7.out (some ⟨w7.heap.size, 0, none⟩) 1 1 rfl rfl (fun h => by cases h) HS7.out hbs7 HBND.out m7 HM7.out ?_)
                intro A8 c8 w8 ho8 hs8 hg8
                have HB8 := Lib.hid (below_append HB7.out HO7.out hg8 (Nat.le_refl _))
                rw [← HIT.out] at ho8
                have HO8 := Lib.hid ho8
                clear ho8 hs8 hg8 HO7 HS7 HB7
                go_wp2
                go_roundw
                case rel => exact ⟨j + 1, m7, A8, c8, by omega, rfl, by go_num, HO8, HB8⟩
                case measure => simp [intOf] <;> omega
              · rw [if_neg hup, List.append_nil] at hit
                have hbe := str_ne hup
                have hown2 : Hid (OwnS wr w3.heap.size (.slice A5 m c5) (inF (fs.take (j + 1)) p)) := by show OwnS _ _ _ _; rw [hit]; exact hown.out
                generalize upB fs[j].p = u at *
                generalize fs[j].p = x at *
                clear hup hit hown
                go_wp2_with fail
                refine (CX.out _).mono ?_
                rintro e w7 ⟨rfl, hb7⟩
                have HB8 : Hid (Below w3.heap.size w3 w7) := hbl.out.trans (hb7.mono hbl.out.size)
                have HO8 := Lib.hid (hown2.out.kept hb7)
                clear hb7 hbl CX hown2 d0
                go_wp2
                go_roundw
                case rel => exact ⟨j + 1, m, A5, c5, by omega, rfl, by go_num, HO8, HB8⟩
                case measure => simp [intOf] <;> omega
            · obtain rfl : j = fs.length := by omega
              rw [List.take_length] at hown
              have DW := Lib.hid (D3.out.on T hbl.out)
              have HXw := Lib.hid (HX3.out.on hbl.out)
              have hkf := HF3.out.2
              have hokx := HF3.out.1.on hbl.out
              have hx0 := HXw.out.c0
              have hx1 := HXw.out.c1
              have hx2 := HXw.out.c2
              have ht0 := DW.out.at_.c0
              obtain ⟨A', cap', fd, hfde, hpt, hrun⟩ := partf_of W fs wc k0 (k0 + 1) DW.out.room (fs_addr DW.out.row DW.out.room (by omega)) (by omega) (by omega)
              have hfd1 : fd = [fs[k0]] := by
                rw [hfde, show k0 + 1 - k0 = 1 by omega, List.drop_eq_getElem_cons hk0]
                rfl
              have r1 : ∀ V, (Instr.slice 23 (.slice W fs.length wc) (some (.int .i64 (k0 : Int))) (some (.int .i64 ((k0 : Int) + 1))) none).run Tryd.prog V = .ok (.slice A' fd.length cap') V := fun V => hrun _ (some (.int .i64 ((k0 + 1 : Nat) : Int))) V (.inl rfl) (.inl rfl)
              have hw1 : IntKind.i64.wrap ((k0 : Int) + 1) = (k0 : Int) + 1 := IntWalk.i64_in _ (by omega)
              have CS6 := Lib.hid (fun w11 (hb : Below wr.heap.size wr w11) => refsamef_any (some ⟨w11.heap.size, 0, none⟩) A' [f] fd 1 cap' (w11.alloc (.cells #[.string f.p, .bool f.d, .slice f.a f.ls.length f.c] 41)) true (by rw [hfd1, decide_eq_true_eq]; show [f.key] = [fs[k0].key]; rw [hkf])
                (fs_of_cells (FileAt.new_ w11 f).cells (fun g hg => by rw [List.mem_singleton] at hg; subst hg; exact hokx.on (hb.trans (((Below.refl _ _).alloc (Nat.le_refl _) _ : Below w11.heap.size w11 _).mono hb.size))))
                (fs_of_cells (hpt.cells _ ((DW.out.row.cells.on hb).on ((Below.refl _ _).alloc (Nat.le_refl _) _))) (fun g hg => by rw [hfd1, List.mem_singleton] at hg; subst hg; exact (DW.out.row.ok _ (List.getElem_mem _)).on (hb.trans (((Below.refl _ _).alloc (Nat.le_refl _) _ : Below w11.heap.size w11 _).mono hb.size))))
                ⟨by simp, fun g hg => by rw [List.mem_singleton] at hg; subst hg; have := DW.out.lines fs[k0] (List.getElem_mem _); have e3 : g.ls = fs[k0].ls := congrArg (fun x : PF => x.2.2) hkf; rw [e3]; omega⟩
                ⟨by rw [hfd1]; simp, fun g hg => by rw [hfd1, List.mem_singleton] at hg; subst hg; have := DW.out.lines fs[k0] (List.getElem_mem _); omega⟩)
              have HB0 := Lib.hid (Below.refl wr.heap.size wr)
              have CIN := Lib.hid (fun V (hb : Below wr.heap.size wr V) => by
                have h := T.in_ B n c (fkeys fs) p V (T.on DW.out.tr hb) (by rw [fkeys_len]; have := DW.out.len; omega) (by omega)
                rw [in_key] at h
                exact h)
              have hil := in_len fs p
              obtain ⟨A9, c9, he9, hs9, _, _⟩ := hown.out.strs
              simp only [Value.slice.injEq] at he9
              obtain ⟨rfl, rfl, rfl⟩ := he9
              have CSA := Lib.hid (fun V (hb : Below wr.heap.size wr V) A8 k8 (h8 : Strs V V.heap.size A8 (toBs (inF fs p))) => rsame_l A8 A5 (inF fs p) (inF fs p) k8 c5 V true (decide_eq_true rfl) h8 (hs9.on hb) (by have := DW.out.len; omega) (by have := DW.out.len; omega))
              clear hkf hokx hrun hpt hfd1 hfde hown hs9 hil
              generalize inF fs p = li at *
              go_wp2_with fail
              go_region_held3 (fun w' => (w'.cell? ⟨w2.heap.size, 0, none⟩ = some (.string f.p) ∧ w'.cell? ⟨w2.heap.size, 1, none⟩ = some (.bool f.d) ∧ w'.cell? ⟨w2.heap.size, 2, none⟩ = some (.slice f.a f.ls.length f.c) ∧ w'.cell? ⟨G, 0, none⟩ = some (.slice B n c))) (first
                | exact ⟨hx0, hx1, hx2, ht0⟩
                | exact keep_xt HXw.out DW.out.at_ (below_drew hb11)
                | exact keep_xt HXw.out DW.out.at_ hbB
                | exact keep_xt HXw.out DW.out.at_ hbC
                | exact keep_xt HXw.out DW.out.at_ hbD
                | exact keep_xt HXw.out DW.out.at_ hbE
                | (go_keep; done)) (first
                | (go_at_call 4; refine (CA.out _ (by rw [← hGe]; exact DW.out.below.drew)).mono ?_; rintro e w11 ⟨rfl, hb11⟩; have hbB : Below wr.heap.size wr (w11.alloc (.cells #[.string f.p, .bool f.d, .slice f.a f.ls.length f.c] 41)) := (below_drew hb11).alloc (below_drew hb11).size _)
                | (go_at_call 10; refine (CS6.out w11 (below_drew hb11)).mono ?_; rintro e w12 ⟨rfl, q12, rfl⟩; have hbC := below_drewN hbB q12)
                | (go_at_call 15; refine (CIN.out _ (below_drewN hbB q12)).mono ?_; rintro e w13 ⟨A13, k13, rfl, _, hs13, hb13⟩; have hbD : Below wr.heap.size wr w13 := hbC.trans (hb13.mono hbC.size))
                | (go_at_call 14; refine (CSA.out w13 hbD A13 k13 hs13).mono ?_; rintro e w14 ⟨rfl, q14, rfl⟩; have hbE := below_drewN hbD q14))
              all_goals
                have hbz := Lib.hid (DW.out.below.trans (hbE.mono DW.out.below.size))
                clear hb11 hbB hbC hb13 hbD hbE hs13
                go_wp2
                go_ret
                exact ⟨rfl, hbz.out⟩
        · have hfd := find_none hn0
          have t0 := hd.out.at_.c0
          have hlen := hd.out.len
          have CG0 := T.get B n c (fkeys fs) p wr hd.out.tr (by rw [fkeys_len]; omega) (by omega)
          rw [key_find, hfd] at CG0
          have CG := Lib.hid (get_none CG0)
          clear CG0
          go_wp2_with fail
          refine CG.out.mono ?_
          rintro e w2 ⟨f, rfl, hf, hb⟩
          have hal : Below w2.heap.size w2 (w2.alloc (.cells #[.string f.p, .bool f.d, .slice f.a f.ls.length f.c] 41)) := (Below.refl _ _).alloc (Nat.le_refl _) _
          have hb3 := hb.trans (hal.mono hb.size)
          have D3 := Lib.hid (hd.out.on T hb3)
          have HX3 : Hid (FileAt (w2.alloc (.cells #[.string f.p, .bool f.d, .slice f.a f.ls.length f.c] 41)) w2.heap.size f) := FileAt.new_ w2 f
          have HF3 : Hid (f.Ok (w2.alloc (.cells #[.string f.p, .bool f.d, .slice f.a f.ls.length f.c] 41)) (w2.alloc (.cells #[.string f.p, .bool f.d, .slice f.a f.ls.length f.c] 41)).heap.size) := hf.out.on hal
          clear hb hal hb3 hd CG t0 hf
          have CF0 := reffind_any W fs wc p _ D3.out.row (by omega)
          rw [hz] at CF0
          have CF := Lib.hid CF0
          clear CF0
          go_wp2_with fail
          refine CF.out.mono ?_
          rintro e wx ⟨rfl, hwx⟩
          subst hwx
          clear CF
          generalize hw3e : w2.alloc (.cells #[.string f.p, .bool f.d, .slice f.a f.ls.length f.c] 41) = w3 at *
          clear hw3e
          go_wp2
          go_loopw [18, 19] (fun v iv wr => ∃ (j m : Nat) (A5 : Option Addr) (c5 : Nat), j ≤ fs.length ∧ v = .slice A5 m c5 ∧ iv = .int .i64 (j : Int) ∧ Hid (OwnS wr w3.heap.size (.slice A5 m c5) (inF (fs.take j) p)) ∧ Hid (Below w3.heap.size w3 wr)) (fun _ iv _ => fs.length - (intOf iv).toNat)
          case atStart => exact ⟨0, 0, none, 0, Nat.zero_le _, rfl, rfl, OwnS.nil _ _, Below.refl _ _⟩
          case round =>
            obtain ⟨j, m, A5, c5, hj, rfl, rfl, hown, hbl⟩ := hrel
            by_cases hlt : j < fs.length
            · obtain ⟨b, off, rfl, hbb, d0, d1, d2⟩ := (D3.out.row.on hbl.out).get hlt
              clear d1 d2
              have hps : fs[j].p.size ≤ 9223372036854775807 := by have := D3.out.paths fs[j] (List.getElem_mem _); omega
              have CX := Lib.hid (fun W => up_left fs[j].p W hps)
              have hit := in_take fs p j hlt
              by_cases hup : upB fs[j].p = p
              · rw [if_pos hup] at hit
                have HIT := Lib.hid hit
                obtain ⟨x, hx⟩ : ∃ x, fs[j].p = x := ⟨_, rfl⟩
                have hbe : (p.toList == p.toList) = true := by simp
                have hin := in_len (fs.take j) p
                rw [List.length_take] at hin
                have hbnd : (inF (fs.take j) p).length + [x.data.toList].length ≤ 1000000 := by
                  have := D3.out.len
                  simp only [List.length_cons, List.length_nil]
                  omega
                have HBND := Lib.hid hbnd
                simp only [hup] at CX
                simp only [hx] at CX d0 HIT
                clear hit hup hx hin hps hbnd
                go_wp2_with fail
                refine (CX.out _).mono ?_
                rintro e w7 ⟨rfl, hb7⟩
                have d7 := cell_on d0 hb7
                have hal7 : Below w7.heap.size w7 (w7.alloc (.cells #[.string x] 9)) := (Below.refl _ _).alloc (Nat.le_refl _) _
                have HO7 := Lib.hid ((hown.out.kept hb7).kept hal7)
                have HB7 := Lib.hid (hbl.out.trans ((hb7.trans (hal7.mono hb7.size)).mono hbl.out.size))
                have HS7 := Lib.hid (strs_one w7 x)
                have hbs7 : w3.heap.size ≤ (w7.alloc (.cells #[.string x] 9)).heap.size := HB7.out.size
                obtain ⟨m7, hm7⟩ : ∃ m7, m7 = (inF (fs.take j) p).length + [x.data.toList].length := ⟨_, rfl⟩
                have HM7 := Lib.hid hm7
                clear hb7 hal7 hown hbl d0 CX hm7
                go_wp2_with (at_builtin; refine wpList_append_row rfl _ _ rfl w3.heap.size _ (inF (fs.take j) p) [x.data.toList] rfl HO7.out (some ⟨w7.heap.size, 0, none⟩) 1 1 rfl rfl (fun h => by cases h) HS7.out hbs7 HBND.out m7 HM7.out ?_)
                intro A8 c8 w8 ho8 hs8 hg8
                have HB8 := Lib.hid (below_append HB7.out HO7.out hg8 (Nat.le_refl _))
                rw [← HIT.out] at ho8
                have HO8 := Lib.hid ho8
                clear ho8 hs8 hg8 HO7 HS7 HB7
                go_wp2
                go_roundw
                case rel => exact ⟨j + 1, m7, A8, c8, by omega, rfl, by go_num, HO8, HB8⟩
                case measure => simp [intOf] <;> omega
              · rw [if_neg hup, List.append_nil] at hit
                have hbe := str_ne hup
                have hown2 : Hid (OwnS wr w3.heap.size (.slice A5 m c5) (inF (fs.take (j + 1)) p)) := by show OwnS _ _ _ _; rw [hit]; exact hown.out
                generalize upB fs[j].p = u at *
                generalize fs[j].p = x at *
                clear hup hit hown
                go_wp2_with fail
                refine (CX.out _).mono ?_
                rintro e w7 ⟨rfl, hb7⟩
                have HB8 : Hid (Below w3.heap.size w3 w7) := hbl.out.trans (hb7.mono hbl.out.size)
                have HO8 := Lib.hid (hown2.out.kept hb7)
                clear hb7 hbl CX hown2 d0
                go_wp2
                go_roundw
                case rel => exact ⟨j + 1, m, A5, c5, by omega, rfl, by go_num, HO8, HB8⟩
                case measure => simp [intOf] <;> omega
            · obtain rfl : j = fs.length := by omega
              rw [List.take_length] at hown
              have DW := Lib.hid (D3.out.on T hbl.out)
              have ht0 := DW.out.at_.c0
              have HB0 := Lib.hid (Below.refl wr.heap.size wr)
              have CIN := Lib.hid (fun V (hb : Below wr.heap.size wr V) => by
                have h := T.in_ B n c (fkeys fs) p V (T.on DW.out.tr hb) (by rw [fkeys_len]; have := DW.out.len; omega) (by omega)
                rw [in_key] at h
                exact h)
              have hil := in_len fs p
              obtain ⟨A9, c9, he9, hs9, _, _⟩ := hown.out.strs
              simp only [Value.slice.injEq] at he9
              obtain ⟨rfl, rfl, rfl⟩ := he9
              have CSA := Lib.hid (fun V (hb : Below wr.heap.size wr V) A8 k8 (h8 : Strs V V.heap.size A8 (toBs (inF fs p))) => rsame_l A8 A5 (inF fs p) (inF fs p) k8 c5 V true (decide_eq_true rfl) h8 (hs9.on hb) (by have := DW.out.len; omega) (by have := DW.out.len; omega))
              clear hown hs9 hil
              generalize inF fs p = li at *
              have g0 : decide ((0 : Int) ≤ -1) = false := by decide
              go_wp2_with fail
              refine wp_region_noPanic ?_
              refine wp_region_held_drew (S := fun w' => w'.cell? ⟨G, 0, none⟩ = some (.slice B n c)) (by kernel_rfl) ht0 (fun hHeld => ?_)
              refine wpAnyH_ready (rs := [0]) (by kernel_rfl) (by simp) ?_
              refine AllReadyH.cons rfl (fun K hK => ?_) AllReadyH.nil
              go_simp
              go_at_call 4
              refine (CA.out _ (by rw [← hGe]; exact DW.out.below.drew)).mono ?_
              rintro e w11 ⟨rfl, hb11⟩
              refine hK.out _ _ ((DW.out.at_.on (below_drew hb11)).c0) (fun hHeld0 => ?_)
              clear hK K hHeld
              try simp only [Act.put, List.setIfInBounds_toArray, List.set_cons_zero, List.set_cons_succ]
              refine wpAnyH_take (i := 1) (oi := { dst := some 134, op := _, type := _, pos := _, after := _, guard := _ }) (v := .bool true) rfl (by kernel_rfl) (by kernel_rfl) (by kernel_rfl) (fun _ _ _ h => h) (Or.inl ⟨by rfl, fun w' hSw => ?_⟩) (by assumption) ?_
              · ((try dsimp only at hSw); go_simp)
              try simp only [Act.put, List.setIfInBounds_toArray, List.set_cons_zero, List.set_cons_succ]
              refine wpAnyH_take (i := 2) (oi := { dst := some 135, op := _, type := _, pos := _, after := _, guard := _ }) (v := .bool false) rfl (by kernel_rfl) (by kernel_rfl) (by kernel_rfl) (fun _ _ _ h => h) (Or.inl ⟨by rfl, fun w' hSw => ?_⟩) (by assumption) ?_
              · ((try dsimp only at hSw); go_simp)
              try simp only [Act.put, List.setIfInBounds_toArray, List.set_cons_zero, List.set_cons_succ]
              refine wpAnyH_take (i := 3) (oi := { dst := some 136, op := _, type := _, pos := _, after := _, guard := _ }) (v := .int .i64 (-1)) rfl (by kernel_rfl) (by kernel_rfl) (by kernel_rfl) (fun _ _ _ h => h) (Or.inl ⟨by rfl, fun w' hSw => ?_⟩) (by assumption) ?_
              · ((try dsimp only at hSw); go_simp)
              try simp only [Act.put, List.setIfInBounds_toArray, List.set_cons_zero, List.set_cons_succ]
              refine wpAnyH_take (i := 4) (oi := { dst := some 137, op := _, type := _, pos := _, after := _, guard := _ }) (v := .bool false) rfl (by kernel_rfl) (by kernel_rfl) (by kernel_rfl) (fun _ _ _ h => h) (Or.inl ⟨by rfl, fun w' hSw => ?_⟩) (by assumption) ?_
              · ((try dsimp only at hSw); go_simp)
              try simp only [Act.put, List.setIfInBounds_toArray, List.set_cons_zero, List.set_cons_succ]
              refine wpAnyH_take (i := 5) (oi := { dst := some 138, op := _, type := _, pos := _, after := _, guard := _ }) (v := .bool true) rfl (by kernel_rfl) (by kernel_rfl) (by kernel_rfl) (fun _ _ _ h => h) (Or.inl ⟨by rfl, fun w' hSw => ?_⟩) (by assumption) ?_
              · ((try dsimp only at hSw); go_simp)
              try simp only [Act.put, List.setIfInBounds_toArray, List.set_cons_zero, List.set_cons_succ]
              refine wpAnyH_take (i := 6) (oi := { dst := some 139, op := _, type := _, pos := _, after := _, guard := _ }) (v := .bool true) rfl (by kernel_rfl) (by kernel_rfl) (by kernel_rfl) (fun _ _ _ h => h) (Or.inl ⟨by rfl, fun w' hSw => ?_⟩) (by assumption) ?_
              · ((try dsimp only at hSw); go_simp)
              try simp only [Act.put, List.setIfInBounds_toArray, List.set_cons_zero, List.set_cons_succ]
              refine wpAnyH_take (i := 7) (oi := { dst := some 140, op := _, type := _, pos := _, after := _, guard := _ }) (v := .bool true) rfl (by kernel_rfl) (by kernel_rfl) (by kernel_rfl) (fun _ _ _ h => h) (Or.inl ⟨by rfl, fun w' hSw => ?_⟩) (by assumption) ?_
              · ((try dsimp only at hSw); go_simp)
              try simp only [Act.put, List.setIfInBounds_toArray, List.set_cons_zero, List.set_cons_succ]
              refine wpAnyH_take (i := 8) (oi := { dst := some 141, op := _, type := _, pos := _, after := _, guard := _ }) (v := .bool false) rfl (by kernel_rfl) (by kernel_rfl) (by kernel_rfl) (fun _ _ _ h => h) (Or.inl ⟨by rfl, fun w' hSw => ?_⟩) (by assumption) ?_
              · ((try dsimp only at hSw); go_simp)
              try simp only [Act.put, List.setIfInBounds_toArray, List.set_cons_zero, List.set_cons_succ]
              refine wpAnyH_take (i := 9) (oi := { dst := some 142, op := _, type := _, pos := _, after := _, guard := _ }) (v := .bool true) rfl (by kernel_rfl) (by kernel_rfl) (by kernel_rfl) (fun _ _ _ h => h) (Or.inl ⟨by rfl, fun w' hSw => ?_⟩) (by assumption) ?_
              · ((try dsimp only at hSw); go_simp)
              try simp only [Act.put, List.setIfInBounds_toArray, List.set_cons_zero, List.set_cons_succ]
              refine wpAnyH_take (i := 10) (oi := { dst := some 143, op := _, type := _, pos := _, after := _, guard := _ }) (v := .bool true) rfl (by kernel_rfl) (by kernel_rfl) (by kernel_rfl) (fun _ _ _ h => h) (Or.inl ⟨by rfl, fun w' hSw => ?_⟩) (by assumption) ?_
              · ((try dsimp only at hSw); go_simp)
              try simp only [Act.put, List.setIfInBounds_toArray, List.set_cons_zero, List.set_cons_succ]
              refine wpAnyH_take (i := 11) (oi := { dst := some 144, op := _, type := _, pos := _, after := _, guard := _ }) (v := undef) rfl (by kernel_rfl) (by kernel_rfl) (by kernel_rfl) (fun _ _ _ h => h) (Or.inr ⟨by rfl, rfl⟩) (by assumption) ?_
              try simp only [Act.put, List.setIfInBounds_toArray, List.set_cons_zero, List.set_cons_succ]
              refine wpAnyH_take (i := 12) (oi := { dst := some 145, op := _, type := _, pos := _, after := _, guard := _ }) (v := undef) rfl (by kernel_rfl) (by kernel_rfl) (by kernel_rfl) (fun _ _ _ h => h) (Or.inr ⟨by rfl, rfl⟩) (by assumption) ?_
              try simp only [Act.put, List.setIfInBounds_toArray, List.set_cons_zero, List.set_cons_succ]
              refine wpAnyH_take (i := 13) (oi := { dst := some 146, op := _, type := _, pos := _, after := _, guard := _ }) (v := undef) rfl (by kernel_rfl) (by kernel_rfl) (by kernel_rfl) (fun _ _ _ h => h) (Or.inr ⟨by rfl, rfl⟩) (by assumption) ?_
              try simp only [Act.put, List.setIfInBounds_toArray, List.set_cons_zero, List.set_cons_succ]
              refine wpAnyH_take (i := 14) (oi := { dst := some 147, op := _, type := _, pos := _, after := _, guard := _ }) (v := undef) rfl (by kernel_rfl) (by kernel_rfl) (by kernel_rfl) (fun _ _ _ h => h) (Or.inr ⟨by rfl, rfl⟩) (by assumption) ?_
              try simp only [Act.put, List.setIfInBounds_toArray, List.set_cons_zero, List.set_cons_succ]
              refine wpAnyH_take (i := 15) (oi := { dst := some 148, op := _, type := _, pos := _, after := _, guard := _ }) (v := undef) rfl (by kernel_rfl) (by kernel_rfl) (by kernel_rfl) (fun _ _ _ h => h) (Or.inr ⟨by rfl, rfl⟩) (by assumption) ?_
              try simp only [Act.put, List.setIfInBounds_toArray, List.set_cons_zero, List.set_cons_succ]
              refine wpAnyH_take (i := 16) (oi := { dst := some 149, op := _, type := _, pos := _, after := _, guard := _ }) (v := undef) rfl (by kernel_rfl) (by kernel_rfl) (by kernel_rfl) (fun _ _ _ h => h) (Or.inr ⟨by rfl, rfl⟩) (by assumption) ?_
              try simp only [Act.put, List.setIfInBounds_toArray, List.set_cons_zero, List.set_cons_succ]
              refine wpAnyH_take (i := 17) (oi := { dst := some 150, op := _, type := _, pos := _, after := _, guard := _ }) (v := undef) rfl (by kernel_rfl) (by kernel_rfl) (by kernel_rfl) (fun _ _ _ h => h) (Or.inr ⟨by rfl, rfl⟩) (by assumption) ?_
              try simp only [Act.put, List.setIfInBounds_toArray, List.set_cons_zero, List.set_cons_succ]
              refine wpAnyH_take (i := 18) (oi := { dst := some 151, op := _, type := _, pos := _, after := _, guard := _ }) (v := undef) rfl (by kernel_rfl) (by kernel_rfl) (by kernel_rfl) (fun _ _ _ h => h) (Or.inr ⟨by rfl, rfl⟩) (by assumption) ?_
              try simp only [Act.put, List.setIfInBounds_toArray, List.set_cons_zero, List.set_cons_succ]
              refine wpAnyH_take (i := 19) (oi := { dst := some 152, op := _, type := _, pos := _, after := _, guard := _ }) (v := .bool true) rfl (by kernel_rfl) (by kernel_rfl) (by kernel_rfl) (fun _ _ _ h => h) (Or.inl ⟨by rfl, fun w' hSw => ?_⟩) (by assumption) ?_
              · ((try dsimp only at hSw); go_simp)
              try simp only [Act.put, List.setIfInBounds_toArray, List.set_cons_zero, List.set_cons_succ]
              refine wpAnyH_take (i := 20) (oi := { dst := some 153, op := _, type := _, pos := _, after := _, guard := _ }) (v := .bool true) rfl (by kernel_rfl) (by kernel_rfl) (by kernel_rfl) (fun _ _ _ h => h) (Or.inl ⟨by rfl, fun w' hSw => ?_⟩) (by assumption) ?_
              · ((try dsimp only at hSw); go_simp)
              try simp only [Act.put, List.setIfInBounds_toArray, List.set_cons_zero, List.set_cons_succ]
              refine wpAnyH_take (i := 21) (oi := { dst := some 154, op := _, type := _, pos := _, after := _, guard := _ }) (v := .bool true) rfl (by kernel_rfl) (by kernel_rfl) (by kernel_rfl) (fun _ _ _ h => h) (Or.inl ⟨by rfl, fun w' hSw => ?_⟩) (by assumption) ?_
              · ((try dsimp only at hSw); go_simp)
              try simp only [Act.put, List.setIfInBounds_toArray, List.set_cons_zero, List.set_cons_succ]
              refine wpAnyH_take (i := 22) (oi := { dst := some 155, op := _, type := _, pos := _, after := _, guard := _ }) (v := .agg #[.slice B n c]) rfl (by kernel_rfl) (by kernel_rfl) (by kernel_rfl) (fun _ _ _ h => h) (Or.inl ⟨by rfl, fun w' hSw => ?_⟩) (by assumption) ?_
              · ((try dsimp only at hSw); go_simp)
              try simp only [Act.put, List.setIfInBounds_toArray, List.set_cons_zero, List.set_cons_succ]
              refine wpAnyH_take (i := 23) (oi := { dst := some 156, op := _, type := _, pos := _, after := _, guard := _ }) (v := .string p) rfl (by kernel_rfl) (by kernel_rfl) (by kernel_rfl) (fun _ _ _ h => h) (Or.inl ⟨by rfl, fun w' hSw => ?_⟩) (by assumption) ?_
              · ((try dsimp only at hSw); go_simp)
              try simp only [Act.put, List.setIfInBounds_toArray, List.set_cons_zero, List.set_cons_succ]
              refine wpAnyH_take (i := 25) (oi := { dst := some 158, op := _, type := _, pos := _, after := _, guard := _ }) (v := .slice A5 li.length c5) rfl (by kernel_rfl) (by kernel_rfl) (by kernel_rfl) (fun _ _ _ h => h) (Or.inl ⟨by rfl, fun w' hSw => ?_⟩) (by assumption) ?_
              · ((try dsimp only at hSw); go_simp)
              try simp only [Act.put, List.setIfInBounds_toArray, List.set_cons_zero, List.set_cons_succ]
              refine wpAnyH_ready (rs := [24]) (by kernel_rfl) (by simp) ?_
              refine AllReadyH.cons rfl (fun K hK => ?_) AllReadyH.nil
              go_simp
              go_at_call 15
              refine (CIN.out _ (below_drew hb11)).mono ?_
              rintro e w13 ⟨A13, k13, rfl, _, hs13, hb13⟩
              have hbD := (below_drew hb11).trans (hb13.mono (below_drew hb11).size)
              refine hK.out _ _ ((DW.out.at_.on hbD).c0) (fun hHeld24 => ?_)
              clear hK K hHeld0
              try simp only [Act.put, List.setIfInBounds_toArray, List.set_cons_zero, List.set_cons_succ]
              refine wpAnyH_ready (rs := [26]) (by kernel_rfl) (by simp) ?_
              refine AllReadyH.cons rfl (fun K hK => ?_) AllReadyH.nil
              go_simp
              go_at_call 14
              refine (CSA.out w13 hbD A13 k13 hs13).mono ?_
              rintro e w14 ⟨rfl, q14, rfl⟩
              have hbE := below_drewN hbD q14
              refine hK.out _ _ ((DW.out.at_.on hbE).c0) (fun hHeld26 => ?_)
              clear hK K hHeld24
              try simp only [Act.put, List.setIfInBounds_toArray, List.set_cons_zero, List.set_cons_succ]
              refine wpAnyH_take (i := 27) (oi := { dst := some 160, op := _, type := _, pos := _, after := _, guard := _ }) (v := .bool true) rfl (by kernel_rfl) (by kernel_rfl) (by kernel_rfl) (fun _ _ _ h => h) (Or.inl ⟨by rfl, fun w' hSw => ?_⟩) (by assumption) ?_
              · ((try dsimp only at hSw); go_simp)
              try simp only [Act.put, List.setIfInBounds_toArray, List.set_cons_zero, List.set_cons_succ]
              refine wpAnyH_take (i := 28) (oi := { dst := some 4, op := _, type := _, pos := _, after := _, guard := _ }) (v := .bool true) rfl (by kernel_rfl) (by kernel_rfl) (by kernel_rfl) (fun _ _ _ h => h) (Or.inl ⟨by rfl, fun w' hSw => ?_⟩) (by assumption) ?_
              · ((try dsimp only at hSw); go_simp)
              try simp only [Act.put, List.setIfInBounds_toArray, List.set_cons_zero, List.set_cons_succ]
              refine wpAnyH_done (by kernel_rfl) ?_ _
              refine NoPanic.normal ?_
              have hbz := Lib.hid (DW.out.below.trans (hbE.mono DW.out.below.size))
              clear hb11 hb13 hbD hbE hs13
              go_wp2
              go_ret
              exact ⟨rfl, hbz.out⟩
      · have g1 : (k : Int) < (cs.length : Int) := by omega
        have g2 : ¬ ((k : Int) < 40) := by omega
        rcases findZ_cases fs p with ⟨k0, hk0, hz, hp0, hn0⟩ | ⟨hz, hn0⟩
        · have hfd := find_at hk0 hp0 hn0
          have q6 : (0 : Int) ≤ (k0 : Int) := by omega
          have q7 : (k0 : Int) < (fs.length : Int) := by omega
          have t0 := hd.out.at_.c0
          have hlen := hd.out.len
          have CG0 := T.get B n c (fkeys fs) p wr hd.out.tr (by rw [fkeys_len]; omega) (by omega)
          rw [key_find, hfd] at CG0
          have CG := Lib.hid (get_some CG0)
          clear CG0
          go_wp2_with fail
          refine CG.out.mono ?_
          rintro e w2 ⟨f, rfl, hf, hb⟩
          have hal : Below w2.heap.size w2 (w2.alloc (.cells #[.string f.p, .bool f.d, .slice f.a f.ls.length f.c] 41)) := (Below.refl _ _).alloc (Nat.le_refl _) _
          have hb3 := hb.trans (hal.mono hb.size)
          have D3 := Lib.hid (hd.out.on T hb3)
          have HX3 : Hid (FileAt (w2.alloc (.cells #[.string f.p, .bool f.d, .slice f.a f.ls.length f.c] 41)) w2.heap.size f) := FileAt.new_ w2 f
          have HF3 : Hid (f.Ok (w2.alloc (.cells #[.string f.p, .bool f.d, .slice f.a f.ls.length f.c] 41)) (w2.alloc (.cells #[.string f.p, .bool f.d, .slice f.a f.ls.length f.c] 41)).heap.size ∧ f.key = fs[k0].key) := ⟨hf.out.1.on hal, hf.out.2⟩
          clear hb hal hb3 hd CG t0 hf
          have CF0 := reffind_any W fs wc p _ D3.out.row (by omega)
          rw [hz] at CF0
          have CF := Lib.hid CF0
          clear CF0
          go_wp2_with fail
          refine CF.out.mono ?_
          rintro e wx ⟨rfl, hwx⟩
          subst hwx
          clear CF
          generalize hw3e : w2.alloc (.cells #[.string f.p, .bool f.d, .slice f.a f.ls.length f.c] 41) = w3 at *
          clear hw3e
          go_wp2
          go_loopw [18, 19] (fun v iv wr => ∃ (j m : Nat) (A5 : Option Addr) (c5 : Nat), j ≤ fs.length ∧ v = .slice A5 m c5 ∧ iv = .int .i64 (j : Int) ∧ Hid (OwnS wr w3.heap.size (.slice A5 m c5) (inF (fs.take j) p)) ∧ Hid (Below w3.heap.size w3 wr)) (fun _ iv _ => fs.length - (intOf iv).toNat)
          case atStart => exact ⟨0, 0, none, 0, Nat.zero_le _, rfl, rfl, OwnS.nil _ _, Below.refl _ _⟩
          case round =>
            obtain ⟨j, m, A5, c5, hj, rfl, rfl, hown, hbl⟩ := hrel
            by_cases hlt : j < fs.length
            · obtain ⟨b, off, rfl, hbb, d0, d1, d2⟩ := (D3.out.row.on hbl.out).get hlt
              clear d1 d2
              have hps : fs[j].p.size ≤ 9223372036854775807 := by have := D3.out.paths fs[j] (List.getElem_mem _); omega
              have CX := Lib.hid (fun W => up_left fs[j].p W hps)
              have hit := in_take fs p j hlt
              by_cases hup : upB fs[j].p = p
              · rw [if_pos hup] at hit
                have HIT := Lib.hid hit
                obtain ⟨x, hx⟩ : ∃ x, fs[j].p = x := ⟨_, rfl⟩
                have hbe : (p.toList == p.toList) = true := by simp
                have hin := in_len (fs.take j) p
                rw [List.length_take] at hin
                have hbnd : (inF (fs.take j) p).length + [x.data.toList].length ≤ 1000000 := by
                  have := D3.out.len
                  simp only [List.length_cons, List.length_nil]
                  omega
                have HBND := Lib.hid hbnd
                simp only [hup] at CX
                simp only [hx] at CX d0 HIT
                clear hit hup hx hin hps hbnd
                go_wp2_with fail
                refine (CX.out _).mono ?_
                rintro e w7 ⟨rfl, hb7⟩
                have d7 := cell_on d0 hb7
                have hal7 : Below w7.heap.size w7 (w7.alloc (.cells #[.string x] 9)) := (Below.refl _ _).alloc (Nat.le_refl _) _
                have HO7 := Lib.hid ((hown.out.kept hb7).kept hal7)
                have HB7 := Lib.hid (hbl.out.trans ((hb7.trans (hal7.mono hb7.size)).mono hbl.out.size))
                have HS7 := Lib.hid (strs_one w7 x)
                have hbs7 : w3.heap.size ≤ (w7.alloc (.cells #[.string x] 9)).heap.size := HB7.out.size
                obtain ⟨m7, hm7⟩ : ∃ m7, m7 = (inF (fs.take j) p).length + [x.data.toList].length := ⟨_, rfl⟩
                have HM7 := Lib.hid hm7
                clear hb7 hal7 hown hbl d0 CX hm7
                go_wp2_with (at_builtin; refine wpList_append_row rfl _ _ rfl w3.heap.size _ (inF (fs.take j) p) [x.data.toList] rfl HO7.out (some ⟨w7.heap.size, 0, none⟩) 1 1 rfl rfl (fun h => by cases h) HS7.out hbs7 HBND.out m7 HM7.out ?_)
                intro A8 c8 w8 ho8 hs8 hg8
                have HB8 := Lib.hid (below_append HB7.out HO7.out hg8 (Nat.le_refl _))
                rw [← HIT.out] at ho8
                have HO8 := Lib.hid ho8
                clear ho8 hs8 hg8 HO7 HS7 HB7
                go_wp2
                go_roundw
                case rel => exact ⟨j + 1, m7, A8, c8, by omega, rfl, by go_num, HO8, HB8⟩
                case measure => simp [intOf] <;> omega
              · rw [if_neg hup, List.append_nil] at hit
                have hbe := str_ne hup
                have hown2 : Hid (OwnS wr w3.heap.size (.slice A5 m c5) (inF (fs.take (j + 1)) p)) := by show OwnS _ _ _ _; rw [hit]; exact hown.out
                generalize upB fs[j].p = u at *
                generalize fs[j].p = x at *
                clear hup hit hown
                go_wp2_with fail
                refine (CX.out _).mono ?_
                rintro e w7 ⟨rfl, hb7⟩
                have HB8 : Hid (Below w3.heap.size w3 w7) := hbl.out.trans (hb7.mono hbl.out.size)
                have HO8 := Lib.hid (hown2.out.kept hb7)
                clear hb7 hbl CX hown2 d0
                go_wp2
                go_roundw
                case rel => exact ⟨j + 1, m, A5, c5, by omega, rfl, by go_num, HO8, HB8⟩
                case measure => simp [intOf] <;> omega
            · obtain rfl : j = fs.length := by omega
              rw [List.take_length] at hown
              have DW := Lib.hid (D3.out.on T hbl.out)
              have HXw := Lib.hid (HX3.out.on hbl.out)
              have hkf := HF3.out.2
              have hokx := HF3.out.1.on hbl.out
              have hx0 := HXw.out.c0
              have hx1 := HXw.out.c1
              have hx2 := HXw.out.c2
              have ht0 := DW.out.at_.c0
              obtain ⟨A', cap', fd, hfde, hpt, hrun⟩ := partf_of W fs wc k0 (k0 + 1) DW.out.room (fs_addr DW.out.row DW.out.room (by omega)) (by omega) (by omega)
              have hfd1 : fd = [fs[k0]] := by
                rw [hfde, show k0 + 1 - k0 = 1 by omega, List.drop_eq_getElem_cons hk0]
                rfl
              have r1 : ∀ V, (Instr.slice 23 (.slice W fs.length wc) (some (.int .i64 (k0 : Int))) (some (.int .i64 ((k0 : Int) + 1))) none).run Tryd.prog V = .ok (.slice A' fd.length cap') V := fun V => hrun _ (some (.int .i64 ((k0 + 1 : Nat) : Int))) V (.inl rfl) (.inl rfl)
              have hw1 : IntKind.i64.wrap ((k0 : Int) + 1) = (k0 : Int) + 1 := IntWalk.i64_in _ (by omega)
              have CS6 := Lib.hid (fun w11 (hb : Below wr.heap.size wr w11) => refsamef_any (some ⟨w11.heap.size, 0, none⟩) A' [f] fd 1 cap' (w11.alloc (.cells #[.string f.p, .bool f.d, .slice f.a f.ls.length f.c] 41)) true (by rw [hfd1, decide_eq_true_eq]; show [f.key] = [fs[k0].key]; rw [hkf])
                (fs_of_cells (FileAt.new_ w11 f).cells (fun g hg => by rw [List.mem_singleton] at hg; subst hg; exact hokx.on (hb.trans (((Below.refl _ _).alloc (Nat.le_refl _) _ : Below w11.heap.size w11 _).mono hb.size))))
                (fs_of_cells (hpt.cells _ ((DW.out.row.cells.on hb).on ((Below.refl _ _).alloc (Nat.le_refl _) _))) (fun g hg => by rw [hfd1, List.mem_singleton] at hg; subst hg; exact (DW.out.row.ok _ (List.getElem_mem _)).on (hb.trans (((Below.refl _ _).alloc (Nat.le_refl _) _ : Below w11.heap.size w11 _).mono hb.size))))
                ⟨by simp, fun g hg => by rw [List.mem_singleton] at hg; subst hg; have := DW.out.lines fs[k0] (List.getElem_mem _); have e3 : g.ls = fs[k0].ls := congrArg (fun x : PF => x.2.2) hkf; rw [e3]; omega⟩
                ⟨by rw [hfd1]; simp, fun g hg => by rw [hfd1, List.mem_singleton] at hg; subst hg; have := DW.out.lines fs[k0] (List.getElem_mem _); omega⟩)
              have HB0 := Lib.hid (Below.refl wr.heap.size wr)
              have CIN := Lib.hid (fun V (hb : Below wr.heap.size wr V) => by
                have h := T.in_ B n c (fkeys fs) p V (T.on DW.out.tr hb) (by rw [fkeys_len]; have := DW.out.len; omega) (by omega)
                rw [in_key] at h
                exact h)
              have hil := in_len fs p
              obtain ⟨A9, c9, he9, hs9, _, _⟩ := hown.out.strs
              simp only [Value.slice.injEq] at he9
              obtain ⟨rfl, rfl, rfl⟩ := he9
              have CSA := Lib.hid (fun V (hb : Below wr.heap.size wr V) A8 k8 (h8 : Strs V V.heap.size A8 (toBs (inF fs p))) => rsame_l A8 A5 (inF fs p) (inF fs p) k8 c5 V true (decide_eq_true rfl) h8 (hs9.on hb) (by have := DW.out.len; omega) (by have := DW.out.len; omega))
              clear hkf hokx hrun hpt hfd1 hfde hown hs9 hil
              generalize inF fs p = li at *
              go_wp2_with fail
              go_region_held3 (fun w' => (w'.cell? ⟨w2.heap.size, 0, none⟩ = some (.string f.p) ∧ w'.cell? ⟨w2.heap.size, 1, none⟩ = some (.bool f.d) ∧ w'.cell? ⟨w2.heap.size, 2, none⟩ = some (.slice f.a f.ls.length f.c) ∧ w'.cell? ⟨G, 0, none⟩ = some (.slice B n c))) (first
                | exact ⟨hx0, hx1, hx2, ht0⟩
                | exact keep_xt HXw.out DW.out.at_ (below_drew hb11)
                | exact keep_xt HXw.out DW.out.at_ hbB
                | exact keep_xt HXw.out DW.out.at_ hbC
                | exact keep_xt HXw.out DW.out.at_ hbD
                | exact keep_xt HXw.out DW.out.at_ hbE
                | (go_keep; done)) (first
                | (go_at_call 4; refine (CA.out _ (by rw [← hGe]; exact DW.out.below.drew)).mono ?_; rintro e w11 ⟨rfl, hb11⟩; have hbB : Below wr.heap.size wr (w11.alloc (.cells #[.string f.p, .bool f.d, .slice f.a f.ls.length f.c] 41)) := (below_drew hb11).alloc (below_drew hb11).size _)
                | (go_at_call 10; refine (CS6.out w11 (below_drew hb11)).mono ?_; rintro e w12 ⟨rfl, q12, rfl⟩; have hbC := below_drewN hbB q12)
                | (go_at_call 15; refine (CIN.out _ (below_drewN hbB q12)).mono ?_; rintro e w13 ⟨A13, k13, rfl, _, hs13, hb13⟩; have hbD : Below wr.heap.size wr w13 := hbC.trans (hb13.mono hbC.size))
                | (go_at_call 14; refine (CSA.out w13 hbD A13 k13 hs13).mono ?_; rintro e w14 ⟨rfl, q14, rfl⟩; have hbE := below_drewN hbD q14))
              all_goals
                have hbz := Lib.hid (DW.out.below.trans (hbE.mono DW.out.below.size))
                clear hb11 hbB hbC hb13 hbD hbE hs13
                go_wp2
                go_ret
                exact ⟨rfl, hbz.out⟩
        · have hfd := find_none hn0
          have t0 := hd.out.at_.c0
          have hlen := hd.out.len
          have CG0 := T.get B n c (fkeys fs) p wr hd.out.tr (by rw [fkeys_len]; omega) (by omega)
          rw [key_find, hfd] at CG0
          have CG := Lib.hid (get_none CG0)
          clear CG0
          go_wp2_with fail
          refine CG.out.mono ?_
          rintro e w2 ⟨f, rfl, hf, hb⟩
          have hal : Below w2.heap.size w2 (w2.alloc (.cells #[.string f.p, .bool f.d, .slice f.a f.ls.length f.c] 41)) := (Below.refl _ _).alloc (Nat.le_refl _) _
          have hb3 := hb.trans (hal.mono hb.size)
          have D3 := Lib.hid (hd.out.on T hb3)
          have HX3 : Hid (FileAt (w2.alloc (.cells #[.string f.p, .bool f.d, .slice f.a f.ls.length f.c] 41)) w2.heap.size f) := FileAt.new_ w2 f
          have HF3 : Hid (f.Ok (w2.alloc (.cells #[.string f.p, .bool f.d, .slice f.a f.ls.length f.c] 41)) (w2.alloc (.cells #[.string f.p, .bool f.d, .slice f.a f.ls.length f.c] 41)).heap.size) := hf.out.on hal
          clear hb hal hb3 hd CG t0 hf
          have CF0 := reffind_any W fs wc p _ D3.out.row (by omega)
          rw [hz] at CF0
          have CF := Lib.hid CF0
          clear CF0
          go_wp2_with fail
          refine CF.out.mono ?_
          rintro e wx ⟨rfl, hwx⟩
          subst hwx
          clear CF
          generalize hw3e : w2.alloc (.cells #[.string f.p, .bool f.d, .slice f.a f.ls.length f.c] 41) = w3 at *
          clear hw3e
          go_wp2
          go_loopw [18, 19] (fun v iv wr => ∃ (j m : Nat) (A5 : Option Addr) (c5 : Nat), j ≤ fs.length ∧ v = .slice A5 m c5 ∧ iv = .int .i64 (j : Int) ∧ Hid (OwnS wr w3.heap.size (.slice A5 m c5) (inF (fs.take j) p)) ∧ Hid (Below w3.heap.size w3 wr)) (fun _ iv _ => fs.length - (intOf iv).toNat)
          case atStart => exact ⟨0, 0, none, 0, Nat.zero_le _, rfl, rfl, OwnS.nil _ _, Below.refl _ _⟩
          case round =>
            obtain ⟨j, m, A5, c5, hj, rfl, rfl, hown, hbl⟩ := hrel
            by_cases hlt : j < fs.length
            · obtain ⟨b, off, rfl, hbb, d0, d1, d2⟩ := (D3.out.row.on hbl.out).get hlt
              clear d1 d2
              have hps : fs[j].p.size ≤ 9223372036854775807 := by have := D3.out.paths fs[j] (List.getElem_mem _); omega
              have CX := Lib.hid (fun W => up_left fs[j].p W hps)
              have hit := in_take fs p j hlt
              by_cases hup : upB fs[j].p = p
              · rw [if_pos hup] at hit
                have HIT := Lib.hid hit
                obtain ⟨x, hx⟩ : ∃ x, fs[j].p = x := ⟨_, rfl⟩
                have hbe : (p.toList == p.toList) = true := by simp
                have hin := in_len (fs.take j) p
                rw [List.length_take] at hin
                have hbnd : (inF (fs.take j) p).length + [x.data.toList].length ≤ 1000000 := by
                  have := D3.out.len
                  simp only [List.length_cons, List.length_nil]
                  omega
                have HBND := Lib.hid hbnd
                simp only [hup] at CX
                simp only [hx] at CX d0 HIT
                clear hit hup hx hin hps hbnd
                go_wp2_with fail
                refine (CX.out _).mono ?_
                rintro e w7 ⟨rfl, hb7⟩
                have d7 := cell_on d0 hb7
                have hal7 : Below w7.heap.size w7 (w7.alloc (.cells #[.string x] 9)) := (Below.refl _ _).alloc (Nat.le_refl _) _
                have HO7 := Lib.hid ((hown.out.kept hb7).kept hal7)
                have HB7 := Lib.hid (hbl.out.trans ((hb7.trans (hal7.mono hb7.size)).mono hbl.out.size))
                have HS7 := Lib.hid (strs_one w7 x)
                have hbs7 : w3.heap.size ≤ (w7.alloc (.cells #[.string x] 9)).heap.size := HB7.out.size
                obtain ⟨m7, hm7⟩ : ∃ m7, m7 = (inF (fs.take j) p).length + [x.data.toList].length := ⟨_, rfl⟩
                have HM7 := Lib.hid hm7
                clear hb7 hal7 hown hbl d0 CX hm7
                go_wp2_with (at_builtin; refine wpList_append_row rfl _ _ rfl w3.heap.size _ (inF (fs.take j) p) [x.data.toList] rfl HO7.out (some ⟨w7.heap.size, 0, none⟩) 1 1 rfl rfl (fun h => by cases h) HS7.out hbs7 HBND.out m7 HM7.out ?_)
                intro A8 c8 w8 ho8 hs8 hg8
                have HB8 := Lib.hid (below_append HB7.out HO7.out hg8 (Nat.le_refl _))
                rw [← HIT.out] at ho8
                have HO8 := Lib.hid ho8
                clear ho8 hs8 hg8 HO7 HS7 HB7
                go_wp2
                go_roundw
                case rel => exact ⟨j + 1, m7, A8, c8, by omega, rfl, by go_num, HO8, HB8⟩
                case measure => simp [intOf] <;> omega
              · rw [if_neg hup, List.append_nil] at hit
                have hbe := str_ne hup
                have hown2 : Hid (OwnS wr w3.heap.size (.slice A5 m c5) (inF (fs.take (j + 1)) p)) := by show OwnS _ _ _ _; rw [hit]; exact hown.out
                generalize upB fs[j].p = u at *
                generalize fs[j].p = x at *
                clear hup hit hown
                go_wp2_with fail
                refine (CX.out _).mono ?_
                rintro e w7 ⟨rfl, hb7⟩
                have HB8 : Hid (Below w3.heap.size w3 w7) := hbl.out.trans (hb7.mono hbl.out.size)
                have HO8 := Lib.hid (hown2.out.kept hb7)
                clear hb7 hbl CX hown2 d0
                go_wp2
                go_roundw
                case rel => exact ⟨j + 1, m, A5, c5, by omega, rfl, by go_num, HO8, HB8⟩
                case measure => simp [intOf] <;> omega
            · obtain rfl : j = fs.length := by omega
              rw [List.take_length] at hown
              have DW := Lib.hid (D3.out.on T hbl.out)
              have ht0 := DW.out.at_.c0
              have HB0 := Lib.hid (Below.refl wr.heap.size wr)
              have CIN := Lib.hid (fun V (hb : Below wr.heap.size wr V) => by
                have h := T.in_ B n c (fkeys fs) p V (T.on DW.out.tr hb) (by rw [fkeys_len]; have := DW.out.len; omega) (by omega)
                rw [in_key] at h
                exact h)
              have hil := in_len fs p
              obtain ⟨A9, c9, he9, hs9, _, _⟩ := hown.out.strs
              simp only [Value.slice.injEq] at he9
              obtain ⟨rfl, rfl, rfl⟩ := he9
              have CSA := Lib.hid (fun V (hb : Below wr.heap.size wr V) A8 k8 (h8 : Strs V V.heap.size A8 (toBs (inF fs p))) => rsame_l A8 A5 (inF fs p) (inF fs p) k8 c5 V true (decide_eq_true rfl) h8 (hs9.on hb) (by have := DW.out.len; omega) (by have := DW.out.len; omega))
              clear hown hs9 hil
              generalize inF fs p = li at *
              have g0 : decide ((0 : Int) ≤ -1) = false := by decide
              go_wp2_with fail
              refine wp_region_noPanic ?_
              refine wp_region_held_drew (S := fun w' => w'.cell? ⟨G, 0, none⟩ = some (.slice B n c)) (by kernel_rfl) ht0 (fun hHeld => ?_)
              refine wpAnyH_ready (rs := [0]) (by kernel_rfl) (by simp) ?_
              refine AllReadyH.cons rfl (fun K hK => ?_) AllReadyH.nil
              go_simp
              go_at_call 4
              refine (CA.out _ (by rw [← hGe]; exact DW.out.below.drew)).mono ?_
              rintro e w11 ⟨rfl, hb11⟩
              refine hK.out _ _ ((DW.out.at_.on (below_drew hb11)).c0) (fun hHeld0 => ?_)
              clear hK K hHeld
              try simp only [Act.put, List.setIfInBounds_toArray, List.set_cons_zero, List.set_cons_succ]
              refine wpAnyH_take (i := 1) (oi := { dst := some 134, op := _, type := _, pos := _, after := _, guard := _ }) (v := .bool true) rfl (by kernel_rfl) (by kernel_rfl) (by kernel_rfl) (fun _ _ _ h => h) (Or.inl ⟨by rfl, fun w' hSw => ?_⟩) (by assumption) ?_
              · ((try dsimp only at hSw); go_simp)
              try simp only [Act.put, List.setIfInBounds_toArray, List.set_cons_zero, List.set_cons_succ]
              refine wpAnyH_take (i := 2) (oi := { dst := some 135, op := _, type := _, pos := _, after := _, guard := _ }) (v := .bool false) rfl (by kernel_rfl) (by kernel_rfl) (by kernel_rfl) (fun _ _ _ h => h) (Or.inl ⟨by rfl, fun w' hSw => ?_⟩) (by assumption) ?_
              · ((try dsimp only at hSw); go_simp)
              try simp only [Act.put, List.setIfInBounds_toArray, List.set_cons_zero, List.set_cons_succ]
              refine wpAnyH_take (i := 3) (oi := { dst := some 136, op := _, type := _, pos := _, after := _, guard := _ }) (v := .int .i64 (-1)) rfl (by kernel_rfl) (by kernel_rfl) (by kernel_rfl) (fun _ _ _ h => h) (Or.inl ⟨by rfl, fun w' hSw => ?_⟩) (by assumption) ?_
              · ((try dsimp only at hSw); go_simp)
              try simp only [Act.put, List.setIfInBounds_toArray, List.set_cons_zero, List.set_cons_succ]
              refine wpAnyH_take (i := 4) (oi := { dst := some 137, op := _, type := _, pos := _, after := _, guard := _ }) (v := .bool false) rfl (by kernel_rfl) (by kernel_rfl) (by kernel_rfl) (fun _ _ _ h => h) (Or.inl ⟨by rfl, fun w' hSw => ?_⟩) (by assumption) ?_
              · ((try dsimp only at hSw); go_simp)
              try simp only [Act.put, List.setIfInBounds_toArray, List.set_cons_zero, List.set_cons_succ]
              refine wpAnyH_take (i := 5) (oi := { dst := some 138, op := _, type := _, pos := _, after := _, guard := _ }) (v := .bool true) rfl (by kernel_rfl) (by kernel_rfl) (by kernel_rfl) (fun _ _ _ h => h) (Or.inl ⟨by rfl, fun w' hSw => ?_⟩) (by assumption) ?_
              · ((try dsimp only at hSw); go_simp)
              try simp only [Act.put, List.setIfInBounds_toArray, List.set_cons_zero, List.set_cons_succ]
              refine wpAnyH_take (i := 6) (oi := { dst := some 139, op := _, type := _, pos := _, after := _, guard := _ }) (v := .bool true) rfl (by kernel_rfl) (by kernel_rfl) (by kernel_rfl) (fun _ _ _ h => h) (Or.inl ⟨by rfl, fun w' hSw => ?_⟩) (by assumption) ?_
              · ((try dsimp only at hSw); go_simp)
              try simp only [Act.put, List.setIfInBounds_toArray, List.set_cons_zero, List.set_cons_succ]
              refine wpAnyH_take (i := 7) (oi := { dst := some 140, op := _, type := _, pos := _, after := _, guard := _ }) (v := .bool true) rfl (by kernel_rfl) (by kernel_rfl) (by kernel_rfl) (fun _ _ _ h => h) (Or.inl ⟨by rfl, fun w' hSw => ?_⟩) (by assumption) ?_
              · ((try dsimp only at hSw); go_simp)
              try simp only [Act.put, List.setIfInBounds_toArray, List.set_cons_zero, List.set_cons_succ]
              refine wpAnyH_take (i := 8) (oi := { dst := some 141, op := _, type := _, pos := _, after := _, guard := _ }) (v := .bool false) rfl (by kernel_rfl) (by kernel_rfl) (by kernel_rfl) (fun _ _ _ h => h) (Or.inl ⟨by rfl, fun w' hSw => ?_⟩) (by assumption) ?_
              · ((try dsimp only at hSw); go_simp)
              try simp only [Act.put, List.setIfInBounds_toArray, List.set_cons_zero, List.set_cons_succ]
              refine wpAnyH_take (i := 9) (oi := { dst := some 142, op := _, type := _, pos := _, after := _, guard := _ }) (v := .bool true) rfl (by kernel_rfl) (by kernel_rfl) (by kernel_rfl) (fun _ _ _ h => h) (Or.inl ⟨by rfl, fun w' hSw => ?_⟩) (by assumption) ?_
              · ((try dsimp only at hSw); go_simp)
              try simp only [Act.put, List.setIfInBounds_toArray, List.set_cons_zero, List.set_cons_succ]
              refine wpAnyH_take (i := 10) (oi := { dst := some 143, op := _, type := _, pos := _, after := _, guard := _ }) (v := .bool true) rfl (by kernel_rfl) (by kernel_rfl) (by kernel_rfl) (fun _ _ _ h => h) (Or.inl ⟨by rfl, fun w' hSw => ?_⟩) (by assumption) ?_
              · ((try dsimp only at hSw); go_simp)
              try simp only [Act.put, List.setIfInBounds_toArray, List.set_cons_zero, List.set_cons_succ]
              refine wpAnyH_take (i := 11) (oi := { dst := some 144, op := _, type := _, pos := _, after := _, guard := _ }) (v := undef) rfl (by kernel_rfl) (by kernel_rfl) (by kernel_rfl) (fun _ _ _ h => h) (Or.inr ⟨by rfl, rfl⟩) (by assumption) ?_
              try simp only [Act.put, List.setIfInBounds_toArray, List.set_cons_zero, List.set_cons_succ]
              refine wpAnyH_take (i := 12) (oi := { dst := some 145, op := _, type := _, pos := _, after := _, guard := _ }) (v := undef) rfl (by kernel_rfl) (by kernel_rfl) (by kernel_rfl) (fun _ _ _ h => h) (Or.inr ⟨by rfl, rfl⟩) (by assumption) ?_
              try simp only [Act.put, List.setIfInBounds_toArray, List.set_cons_zero, List.set_cons_succ]
              refine wpAnyH_take (i := 13) (oi := { dst := some 146, op := _, type := _, pos := _, after := _, guard := _ }) (v := undef) rfl (by kernel_rfl) (by kernel_rfl) (by kernel_rfl) (fun _ _ _ h => h) (Or.inr ⟨by rfl, rfl⟩) (by assumption) ?_
              try simp only [Act.put, List.setIfInBounds_toArray, List.set_cons_zero, List.set_cons_succ]
              refine wpAnyH_take (i := 14) (oi := { dst := some 147, op := _, type := _, pos := _, after := _, guard := _ }) (v := undef) rfl (by kernel_rfl) (by kernel_rfl) (by kernel_rfl) (fun _ _ _ h => h) (Or.inr ⟨by rfl, rfl⟩) (by assumption) ?_
              try simp only [Act.put, List.setIfInBounds_toArray, List.set_cons_zero, List.set_cons_succ]
              refine wpAnyH_take (i := 15) (oi := { dst := some 148, op := _, type := _, pos := _, after := _, guard := _ }) (v := undef) rfl (by kernel_rfl) (by kernel_rfl) (by kernel_rfl) (fun _ _ _ h => h) (Or.inr ⟨by rfl, rfl⟩) (by assumption) ?_
              try simp only [Act.put, List.setIfInBounds_toArray, List.set_cons_zero, List.set_cons_succ]
              refine wpAnyH_take (i := 16) (oi := { dst := some 149, op := _, type := _, pos := _, after := _, guard := _ }) (v := undef) rfl (by kernel_rfl) (by kernel_rfl) (by kernel_rfl) (fun _ _ _ h => h) (Or.inr ⟨by rfl, rfl⟩) (by assumption) ?_
              try simp only [Act.put, List.setIfInBounds_toArray, List.set_cons_zero, List.set_cons_succ]
              refine wpAnyH_take (i := 17) (oi := { dst := some 150, op := _, type := _, pos := _, after := _, guard := _ }) (v := undef) rfl (by kernel_rfl) (by kernel_rfl) (by kernel_rfl) (fun _ _ _ h => h) (Or.inr ⟨by rfl, rfl⟩) (by assumption) ?_
              try simp only [Act.put, List.setIfInBounds_toArray, List.set_cons_zero, List.set_cons_succ]
              refine wpAnyH_take (i := 18) (oi := { dst := some 151, op := _, type := _, pos := _, after := _, guard := _ }) (v := undef) rfl (by kernel_rfl) (by kernel_rfl) (by kernel_rfl) (fun _ _ _ h => h) (Or.inr ⟨by rfl, rfl⟩) (by assumption) ?_
              try simp only [Act.put, List.setIfInBounds_toArray, List.set_cons_zero, List.set_cons_succ]
              refine wpAnyH_take (i := 19) (oi := { dst := some 152, op := _, type := _, pos := _, after := _, guard := _ }) (v := .bool true) rfl (by kernel_rfl) (by kernel_rfl) (by kernel_rfl) (fun _ _ _ h => h) (Or.inl ⟨by rfl, fun w' hSw => ?_⟩) (by assumption) ?_
              · ((try dsimp only at hSw); go_simp)
              try simp only [Act.put, List.setIfInBounds_toArray, List.set_cons_zero, List.set_cons_succ]
              refine wpAnyH_take (i := 20) (oi := { dst := some 153, op := _, type := _, pos := _, after := _, guard := _ }) (v := .bool true) rfl (by kernel_rfl) (by kernel_rfl) (by kernel_rfl) (fun _ _ _ h => h) (Or.inl ⟨by rfl, fun w' hSw => ?_⟩) (by assumption) ?_
              · ((try dsimp only at hSw); go_simp)
              try simp only [Act.put, List.setIfInBounds_toArray, List.set_cons_zero, List.set_cons_succ]
              refine wpAnyH_take (i := 21) (oi := { dst := some 154, op := _, type := _, pos := _, after := _, guard := _ }) (v := .bool true) rfl (by kernel_rfl) (by kernel_rfl) (by kernel_rfl) (fun _ _ _ h => h) (Or.inl ⟨by rfl, fun w' hSw => ?_⟩) (by assumption) ?_
              · ((try dsimp only at hSw); go_simp)
              try simp only [Act.put, List.setIfInBounds_toArray, List.set_cons_zero, List.set_cons_succ]
              refine wpAnyH_take (i := 22) (oi := { dst := some 155, op := _, type := _, pos := _, after := _, guard := _ }) (v := .agg #[.slice B n c]) rfl (by kernel_rfl) (by kernel_rfl) (by kernel_rfl) (fun _ _ _ h => h) (Or.inl ⟨by rfl, fun w' hSw => ?_⟩) (by assumption) ?_
              · ((try dsimp only at hSw); go_simp)
              try simp only [Act.put, List.setIfInBounds_toArray, List.set_cons_zero, List.set_cons_succ]
              refine wpAnyH_take (i := 23) (oi := { dst := some 156, op := _, type := _, pos := _, after := _, guard := _ }) (v := .string p) rfl (by kernel_rfl) (by kernel_rfl) (by kernel_rfl) (fun _ _ _ h => h) (Or.inl ⟨by rfl, fun w' hSw => ?_⟩) (by assumption) ?_
              · ((try dsimp only at hSw); go_simp)
              try simp only [Act.put, List.setIfInBounds_toArray, List.set_cons_zero, List.set_cons_succ]
              refine wpAnyH_take (i := 25) (oi := { dst := some 158, op := _, type := _, pos := _, after := _, guard := _ }) (v := .slice A5 li.length c5) rfl (by kernel_rfl) (by kernel_rfl) (by kernel_rfl) (fun _ _ _ h => h) (Or.inl ⟨by rfl, fun w' hSw => ?_⟩) (by assumption) ?_
              · ((try dsimp only at hSw); go_simp)
              try simp only [Act.put, List.setIfInBounds_toArray, List.set_cons_zero, List.set_cons_succ]
              refine wpAnyH_ready (rs := [24]) (by kernel_rfl) (by simp) ?_
              refine AllReadyH.cons rfl (fun K hK => ?_) AllReadyH.nil
              go_simp
              go_at_call 15
              refine (CIN.out _ (below_drew hb11)).mono ?_
              rintro e w13 ⟨A13, k13, rfl, _, hs13, hb13⟩
              have hbD := (below_drew hb11).trans (hb13.mono (below_drew hb11).size)
              refine hK.out _ _ ((DW.out.at_.on hbD).c0) (fun hHeld24 => ?_)
              clear hK K hHeld0
              try simp only [Act.put, List.setIfInBounds_toArray, List.set_cons_zero, List.set_cons_succ]
              refine wpAnyH_ready (rs := [26]) (by kernel_rfl) (by simp) ?_
              refine AllReadyH.cons rfl (fun K hK => ?_) AllReadyH.nil
              go_simp
              go_at_call 14
              refine (CSA.out w13 hbD A13 k13 hs13).mono ?_
              rintro e w14 ⟨rfl, q14, rfl⟩
              have hbE := below_drewN hbD q14
              refine hK.out _ _ ((DW.out.at_.on hbE).c0) (fun hHeld26 => ?_)
              clear hK K hHeld24
              try simp only [Act.put, List.setIfInBounds_toArray, List.set_cons_zero, List.set_cons_succ]
              refine wpAnyH_take (i := 27) (oi := { dst := some 160, op := _, type := _, pos := _, after := _, guard := _ }) (v := .bool true) rfl (by kernel_rfl) (by kernel_rfl) (by kernel_rfl) (fun _ _ _ h => h) (Or.inl ⟨by rfl, fun w' hSw => ?_⟩) (by assumption) ?_
              · ((try dsimp only at hSw); go_simp)
              try simp only [Act.put, List.setIfInBounds_toArray, List.set_cons_zero, List.set_cons_succ]
              refine wpAnyH_take (i := 28) (oi := { dst := some 4, op := _, type := _, pos := _, after := _, guard := _ }) (v := .bool true) rfl (by kernel_rfl) (by kernel_rfl) (by kernel_rfl) (fun _ _ _ h => h) (Or.inl ⟨by rfl, fun w' hSw => ?_⟩) (by assumption) ?_
              · ((try dsimp only at hSw); go_simp)
              try simp only [Act.put, List.setIfInBounds_toArray, List.set_cons_zero, List.set_cons_succ]
              refine wpAnyH_done (by kernel_rfl) ?_ _
              refine NoPanic.normal ?_
              have hbz := Lib.hid (DW.out.below.trans (hbE.mono DW.out.below.size))
              clear hb11 hb13 hbD hbE hs13
              go_wp2
              go_ret
              exact ⟨rfl, hbz.out⟩

set_option maxHeartbeats 4000000 in
set_option maxRecDepth 100000 in
theorem treedoes_any {Tr : World → Option Addr → Nat → Nat → List PF → Prop} (T : TreeC Tr) (A0 : Option Addr) (cs : List Cm) (cap0 : Nat) (p : ByteArray) (w : World) (hc : Cs w w.heap.size A0 cs) (hn : cs.length ≤ 9223372036854775807) (hp : p.size ≤ 9223372036854775807) (hT : Tabs w) :
    Calls Tryd.prog 3 #[.slice A0 cs.length cap0, .string p] w fun e w' => e = .returned (.bool true) ∧ Below w.heap.size w w' := by
  by_cases h : p.size ≤ 300
  · exact treedoes_light T A0 cs cap0 p w hc hn h hT
  · have q0 : (300 : Int) < (p.size : Int) := by omega
    have CA := Lib.hid (fun W hb => tawake_any T W (Tabs.on hT hb))
    clear hc hT h
    go_enter Tryd.func3, Tryd.ntmps3
    have hal : Below w.heap.size w (w.alloc (.cells #[.slice none 0 0] 25)) := (Below.refl _ _).alloc (Nat.le_refl _) _
    have HA := Lib.hid hal
    clear hal
    go_wp2_with fail
    refine (CA.out _ (by first | exact HA.out | exact Below.refl _ _)).mono ?_
    rintro e w2 ⟨rfl, hb⟩
    have HB := Lib.hid (HA.out.trans (hb.mono HA.out.size))
    clear hb
    go_wp2
    go_ret
    exact ⟨rfl, HB.out⟩
end Go.Proofs.YtcjiipmageddhaaDoor
