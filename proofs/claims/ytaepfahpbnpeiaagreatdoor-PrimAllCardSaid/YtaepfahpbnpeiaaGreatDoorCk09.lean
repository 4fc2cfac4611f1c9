/- The reference's Sort of layer 6. -/
import Derived.Test.YtaepfahpbnpeiaaGreatDoorCk08
import Derived.Deep.RegionHeld3
import Derived.Deep.DrawnRows
namespace Go.Proofs.YtaepfahpbnpeiaaGreatDoor
open Go.RowKit
set_option linter.unusedVariables false

def lessF (x y : Fm) : Bool := lessP nameP x.p.data.toList y.p.data.toList
/-- Where a file goes, from the end on. -/
def placeF (x : Fm) (out : List Fm) : Nat → Nat
  | 0 => 0
  | j + 1 => match out[j]? with
    | some g => if lessF x g then placeF x out j else j + 1
    | none => j + 1
theorem placeF_le (x : Fm) (out : List Fm) : ∀ j, placeF x out j ≤ j
  | 0 => Nat.le_refl _
  | j + 1 => by
    have ih := placeF_le x out j
    unfold placeF
    split
    · split <;> omega
    · omega
theorem placeF_yes {x : Fm} {out : List Fm} {j : Nat} (hj : j < out.length) (h : lessF x out[j] = true) : placeF x out (j + 1) = placeF x out j := by
  rw [placeF, List.getElem?_eq_getElem hj]
  simp [h]
theorem placeF_no {x : Fm} {out : List Fm} {j : Nat} (hj : j < out.length) (h : lessF x out[j] = false) : placeF x out (j + 1) = j + 1 := by
  rw [placeF, List.getElem?_eq_getElem hj]
  simp [h]
def insF (out : List Fm) (x : Fm) : List Fm := out.take (placeF x out out.length) ++ [x] ++ out.drop (placeF x out out.length)
def sortF (l : List Fm) : List Fm := l.foldl insF []
theorem sort_take (l : List Fm) (k : Nat) (h : k < l.length) : sortF (l.take (k + 1)) = insF (sortF (l.take k)) l[k] := by
  unfold sortF
  rw [List.take_succ_eq_append_getElem h, List.foldl_append]
  rfl
theorem ins_len (out : List Fm) (x : Fm) : (insF out x).length = out.length + 1 := by
  have := placeF_le x out out.length
  unfold insF
  simp
  omega
theorem foldl_ins_len : ∀ (l out : List Fm), (l.foldl insF out).length = out.length + l.length
  | [], out => rfl
  | x :: l, out => by
    rw [List.foldl_cons, foldl_ins_len l, ins_len, List.length_cons]
    omega
theorem sort_len (l : List Fm) : (sortF l).length = l.length := by
  unfold sortF
  rw [foldl_ins_len]
  simp
theorem ins_mem (out : List Fm) (x f : Fm) : f ∈ insF out x ↔ f ∈ out ∨ f = x := by
  have e : f ∈ out ↔ f ∈ out.take (placeF x out out.length) ∨ f ∈ out.drop (placeF x out out.length) := by
    rw [← List.mem_append, List.take_append_drop]
  rw [e]
  unfold insF
  simp only [List.mem_append, List.mem_singleton]
  constructor
  · rintro ((h | h) | h)
    · exact .inl (.inl h)
    · exact .inr h
    · exact .inl (.inr h)
  · rintro ((h | h) | h)
    · exact .inl (.inl h)
    · exact .inr h
    · exact .inl (.inr h)
theorem foldl_ins_mem (f : Fm) : ∀ (l out : List Fm), f ∈ l.foldl insF out ↔ f ∈ out ∨ f ∈ l
  | [], out => by simp
  | x :: l, out => by
    rw [List.foldl_cons, foldl_ins_mem f l, ins_mem, List.mem_cons]
    constructor
    · rintro ((h | h) | h)
      · exact .inl h
      · exact .inr (.inl h)
      · exact .inr (.inr h)
    · rintro (h | h | h)
      · exact .inl (.inl h)
      · exact .inl (.inr h)
      · exact .inr h
theorem sort_mem (l : List Fm) (f : Fm) : f ∈ sortF l ↔ f ∈ l := by
  unfold sortF
  rw [foldl_ins_mem]
  simp

theorem below_drew {w w' : World} (h : Below w.drew.heap.size w.drew w') : Below w.heap.size w w' := ⟨h.os, h.tape, h.output, h.size, h.block⟩
theorem lessf_any (x y : ByteArray) (w : World) (hx : x.size ≤ 9223372036854775807) (hy : y.size ≤ 9223372036854775807) (d : Bool) (hd : lessP nameP x.data.toList y.data.toList = d) :
    Calls Tryz.prog 119 #[.string x, .string y] w fun e w' => e = .returned (.bool d) ∧ Below w.heap.size w w' := by
  subst hd
  exact refpless_any x y w hx hy

set_option maxHeartbeats 4000000 in
set_option maxRecDepth 100000 in
theorem refsort_any (A : Option Addr) (fs : List Fm) (cap : Nat) (w : World) (hs : Fs w w.heap.size A fs) (hn : fs.length ≤ 100000) (hp : ∀ f ∈ fs, f.p.size ≤ 9223372036854775807) :
    Calls Tryz.prog 98 #[.slice A fs.length cap] w (RowF w (sortF fs)) := by
  have HS := Lib.hid hs
  have HP := Lib.hid hp
  clear hs hp
  go_enter Tryz.func98, Tryz.ntmps98
  go_wp2
  go_loopw [3, 4] (fun v i wr => ∃ (k : Nat) (A : Option Addr) (c : Nat), k ≤ fs.length ∧ v = .slice A k c ∧ i = .int .i64 (k : Int) ∧ Hid (OwnF wr w.heap.size (.slice A k c) (sortF (fs.take k))) ∧ Hid (Below w.heap.size w wr)) (fun _ i _ => fs.length - (intOf i).toNat)
  case atStart => exact ⟨0, none, 0, Nat.zero_le _, rfl, rfl, OwnF.nil _ _, Below.refl _ _⟩
  case round =>
    obtain ⟨k, A5, c5, hk, rfl, rfl, hown, hb⟩ := hrel
    by_cases hlt : k < fs.length
    · have hst := sort_take fs k hlt
      obtain ⟨f, hf⟩ : ∃ f, fs[k] = f := ⟨_, rfl⟩
      rw [hf] at hst
      have hpk := HP.out f (by rw [← hf]; exact List.getElem_mem _)
      have HF := Lib.hid hf
      have HST := Lib.hid hst
      clear hst hf
      have HSL : Hid ((sortF (fs.take k)).length = k) := by show _ = _; rw [sort_len, List.length_take]; omega
      have HMEM : Hid (∀ g ∈ sortF (fs.take k), g.p.size ≤ 9223372036854775807) := fun g hg => HP.out g (List.mem_of_mem_take ((sort_mem _ g).1 hg))
      have HAD := Lib.hid hown.out.addr
      generalize sortF (fs.take k) = out at *
      generalize wr = wo at *
      go_wp2
      go_loopw [5] (fun jv wi => ∃ (j : Nat), j ≤ k ∧ jv = .int .i64 (j : Int) ∧ Hid (placeF f out out.length = placeF f out j) ∧ Hid (Below wo.heap.size wo wi)) (fun jv _ => (intOf jv).toNat)
      case atStart => exact ⟨k, Nat.le_refl _, rfl, by rw [HSL.out]; exact rfl, Below.refl _ _⟩
      case round =>
        obtain ⟨j, hj, rfl, hpl, hbi⟩ := hrel
        obtain ⟨b, off, rfl, hbb, c0, c1, c2⟩ := ((HS.out.on hb.out).on hbi.out).get hlt
        rw [HF.out] at c0 c1 c2
        have q4 : (k : Int) < (fs.length : Int) := by omega
        have q5 : (0 : Int) ≤ (k : Int) := by omega
        cases j with
        | zero =>
          have hdec : decide ((0 : Int) < ((0 : Nat) : Int)) = false := by decide
          clear c1 c2
          go_wp2_with fail
          go_quiet (fail)
          have hb8 : Hid (Below wo.heap.size wo (wr.drewN nq)) := below_drewN hbi.out nq
          generalize wr.drewN nq = w7 at *
          have HPL : Hid (placeF f out out.length = 0) := hpl.out
          obtain ⟨hk0, hroom, hA5⟩ := HAD.out
          have hP : 0 ≤ out.length := by omega
          obtain ⟨A1, k1, fd1, hfd1, P1, run1⟩ := partf_of A5 out c5 0 (0) hroom hA5 (Nat.zero_le _) hP
          obtain ⟨A2, k2, fd2, hfd2, P2, run2⟩ := partf_of A5 out c5 (0) out.length hroom hA5 hP (Nat.le_refl _)
          have r1 : ∀ W, (Instr.slice 22 (.slice A5 k c5) none (some (.int .i64 (0))) none).run Tryz.prog W = .ok (.slice A1 fd1.length k1) W := fun W => by
            have := run1 none (some (.int .i64 ((0 : Nat) : Int))) W (.inr ⟨rfl, rfl⟩) (.inl rfl)
            rw [← hk0] at this
            exact this
          have r2 : ∀ W, (Instr.slice 22 (.slice A5 k c5) (some (.int .i64 (0))) none none).run Tryz.prog W = .ok (.slice A2 fd2.length k2) W := fun W => by
            have := run2 (some (.int .i64 ((0 : Nat) : Int))) none W (.inl rfl) (.inr ⟨rfl, rfl⟩)
            rw [← hk0] at this
            exact this
          have gfd1 : fd1 = out.take (0) := by rw [hfd1]; simp
          have gfd2 : fd2 = out.drop (0) := by rw [hfd2]; exact List.take_of_length_le (by rw [List.length_drop]; exact Nat.le_refl _)
          obtain ⟨l2, hl2e⟩ : ∃ l2, l2 = fd1 ++ [f] := ⟨_, rfl⟩
          have HL2 := Lib.hid hl2e
          have HFIN : Hid (l2 ++ fd2 = sortF (fs.take (k + 1))) := by
            show _ = _
            rw [HST.out, insF, HPL.out, hl2e, gfd1, gfd2]
          have hl3 : l2.length = fd1.length + 1 := by rw [hl2e]; simp
          have hl1 : fd1.length = 0 := by rw [gfd1, List.length_take]; omega
          have hl2 : fd2.length = k - (0) := by rw [gfd2, List.length_drop]; omega
          have hal : Below w7.heap.size w7 (w7.alloc (.cells #[] 49)) := (Below.refl _ _).alloc (Nat.le_refl _) _
          have HO1 := Lib.hid (own_madef w7 w7.heap.size (Nat.le_refl _))
          have FC := Lib.hid ((hown.out.kept hb8.out).fcells)
          have HC1 := Lib.hid (P1.cells _ (FC.out.on hal))
          have HA1 := Lib.hid hal
          have hbs1 : w7.heap.size ≤ (w7.alloc (.cells #[] 49)).heap.size := hal.size
          have hle1 : Hid (([] : List Fm).length + fd1.length ≤ 1000000) := by show _ ≤ _; simp; omega
          have hle2 : Hid (fd1.length + [f].length ≤ 1000000) := by show _ ≤ _; simp; omega
          have hle3 : Hid (l2.length + fd2.length ≤ 1000000) := by show _ ≤ _; omega
          obtain ⟨m1, hm1⟩ : ∃ m1, m1 = ([] : List Fm).length + fd1.length := ⟨_, rfl⟩
          obtain ⟨m2, hm2⟩ : ∃ m2, m2 = fd1.length + [f].length := ⟨_, rfl⟩
          have hm3 : k + 1 = l2.length + fd2.length := by omega
          have HM1 := Lib.hid hm1
          have HM2 := Lib.hid hm2
          have HM3 := Lib.hid hm3
          have R1 := Lib.hid P1.room
          have R2 := Lib.hid P2.room
          have PC2 := Lib.hid P2.cells
          clear hm1 hm2 hm3 hal hl1 hl2 hl3 hl2e gfd1 gfd2 hfd1 hfd2 run1 run2 P1 P2 hroom hA5 hk0
          go_wp2_with (at_builtin; refine wpList_append_frow rfl _ _ rfl w7.heap.size _ [] fd1 rfl HO1.out A1 k1 fd1.length rfl rfl R1.out.1 HC1.out hbs1 hle1.out m1 HM1.out ?_)
          intro A8 c8 w8 ho8 hg8
          try rw [List.nil_append] at ho8
          have HB8 := Lib.hid (below_appendf HA1.out HO1.out hg8 (Nat.le_refl _))
          have hS8 := ((HS.out.on hb.out).on hb8.out).on HB8.out
          obtain ⟨b8, off8, he8, _, e0, e1, e2⟩ := hS8.get hlt
          simp only [Option.some.injEq, Addr.mk.injEq, and_true] at he8
          obtain ⟨rfl, rfl⟩ := he8
          rw [HF.out] at e0 e1 e2
          have hal2 : Below w8.heap.size w8 (w8.alloc (.cells f.cells.toArray 49)) := (Below.refl _ _).alloc (Nat.le_refl _) _
          have HO8 := Lib.hid (ho8.kept hal2)
          have HB9 := Lib.hid (HB8.out.trans (hal2.mono HB8.out.size))
          have hbs2 : w7.heap.size ≤ (w8.alloc (.cells f.cells.toArray 49)).heap.size := HB9.out.size
          have HC2 := Lib.hid (FileAt.new_ w8 f).cells
          clear ho8 hg8 HO1 HC1 HA1 hS8 hal2
          go_wp2_with (at_builtin; refine wpList_append_frow rfl _ _ rfl w7.heap.size _ fd1 [f] rfl HO8.out (some ⟨w8.heap.size, 0, none⟩) 1 1 rfl rfl (fun h => by cases h) HC2.out hbs2 hle2.out m2 HM2.out ?_)
          intro A10 c10 w10 ho10 hg10
          have HB10 := Lib.hid (below_appendf HB9.out HO8.out hg10 (Nat.le_refl _))
          rw [← HL2.out] at ho10
          have HO10 := Lib.hid ho10
          have hbs3 : w7.heap.size ≤ w10.heap.size := HB10.out.size
          have HC3 := Lib.hid (PC2.out _ (FC.out.on HB10.out))
          clear ho10 hg10 HO8 HC2 HB9 HB8
          go_wp2_with (at_builtin; refine wpList_append_frow rfl _ _ rfl w7.heap.size _ l2 fd2 rfl HO10.out A2 k2 fd2.length rfl rfl R2.out.1 HC3.out hbs3 hle3.out (k + 1) HM3.out ?_)
          intro A11 c11 w11 ho11 hg11
          have HB11 := Lib.hid (hb.out.trans ((hb8.out.trans ((below_appendf HB10.out HO10.out hg11 (Nat.le_refl _)).mono hb8.out.size)).mono hb.out.size))
          rw [HFIN.out] at ho11
          have HO11 := Lib.hid (ho11.more (Nat.le_trans hb.out.size hb8.out.size))
          clear ho11 hg11 HO10 HC3 HB10
          go_wp2
          go_roundw
          case rel => exact ⟨k + 1, A11, c11, by omega, rfl, by go_num, HO11, HB11⟩
          case measure => simp [intOf] <;> omega

        | succ j =>
          have hjo : j < out.length := by rw [HSL.out]; omega
          obtain ⟨b5, off5, hA5, d0, _, _⟩ := (hown.out.kept hbi.out).fcells.get hjo
          subst hA5
          have hb5 : b5 < wr.heap.size := World.block_lt_of_cell? _ _ d0
          have hw : IntKind.i64.wrap ((j : Int) + 1 - 1) = (j : Int) := by rw [Int.add_sub_cancel]; exact IntWalk.i64_in _ (by omega)
          have hw2 : IntKind.i64.wrap (j : Int) = (j : Int) := IntWalk.i64_in _ (by omega)
          have q1 : (0 : Int) < (j : Int) + 1 := by omega
          have q3 : (0 : Int) ≤ (j : Int) := by omega
          have q2 : (j : Int) < (k : Int) := by omega
          have CL := fun W (d : Bool) (h : lessF f out[j] = d) => lessf_any f.p out[j].p W hpk (HMEM.out out[j] (List.getElem_mem _)) d h
          cases hd : lessF f out[j] with
          | true =>
            have hpl2 : Hid (placeF f out out.length = placeF f out j) := by show _ = _; rw [hpl.out, placeF_yes hjo hd]
            have C := Lib.hid (fun W => CL W true hd)
            clear CL c1 c2 hpl hd
            generalize out[j].p = y at *
            go_wp2_with fail
            go_region_held3 (fun w' => w'.cell? ⟨b, off + k * 3, none⟩ = some (.string f.p) ∧ w'.cell? ⟨b5, off5 + j * 3, none⟩ = some (.string y)) (first | exact ⟨c0, d0⟩ | exact ⟨(hb7.cell (p := ⟨b, off + k * 3, none⟩) hbb).trans c0, (hb7.cell (p := ⟨b5, off5 + j * 3, none⟩) hb5).trans d0⟩ | (go_keep; done)) (first | (go_at_call 119; refine (C.out _).mono ?_; rintro e w7 ⟨rfl, hb7⟩))
            have hb8 : Hid (Below wo.heap.size wo w7) := hbi.out.trans ((below_drew hb7).mono hbi.out.size)
            clear hb7
            go_wp2
            go_roundw
            case rel => exact ⟨j, by omega, by go_num, hpl2, hb8⟩
            case measure => simp [intOf] <;> omega
          | false =>
            have hpl2 : Hid (placeF f out out.length = j + 1) := by show _ = _; rw [hpl.out, placeF_no hjo hd]
            have C := Lib.hid (fun W => CL W false hd)
            clear CL c1 c2 hpl hd
            generalize out[j].p = y at *
            go_wp2_with fail
            go_region_held3 (fun w' => w'.cell? ⟨b, off + k * 3, none⟩ = some (.string f.p) ∧ w'.cell? ⟨b5, off5 + j * 3, none⟩ = some (.string y)) (first | exact ⟨c0, d0⟩ | exact ⟨(hb7.cell (p := ⟨b, off + k * 3, none⟩) hbb).trans c0, (hb7.cell (p := ⟨b5, off5 + j * 3, none⟩) hb5).trans d0⟩ | (go_keep; done)) (first | (go_at_call 119; refine (C.out _).mono ?_; rintro e w7 ⟨rfl, hb7⟩))
            have hb8 : Hid (Below wo.heap.size wo w7) := hbi.out.trans ((below_drew hb7).mono hbi.out.size)
            clear hb7 C hw hw2 d0
            have HPL : Hid (placeF f out out.length = j + 1) := hpl2.out
            obtain ⟨hk0, hroom, hA5⟩ := HAD.out
            have hP : j + 1 ≤ out.length := by omega
            obtain ⟨A1, k1, fd1, hfd1, P1, run1⟩ := partf_of (some ⟨b5, off5, none⟩) out c5 0 (j + 1) hroom hA5 (Nat.zero_le _) hP
            obtain ⟨A2, k2, fd2, hfd2, P2, run2⟩ := partf_of (some ⟨b5, off5, none⟩) out c5 (j + 1) out.length hroom hA5 hP (Nat.le_refl _)
            have r1 : ∀ W, (Instr.slice 22 (.slice (some ⟨b5, off5, none⟩) k c5) none (some (.int .i64 ((j : Int) + 1))) none).run Tryz.prog W = .ok (.slice A1 fd1.length k1) W := fun W => by
              have := run1 none (some (.int .i64 ((j + 1 : Nat) : Int))) W (.inr ⟨rfl, rfl⟩) (.inl rfl)
              rw [← hk0] at this
              exact this
            have r2 : ∀ W, (Instr.slice 22 (.slice (some ⟨b5, off5, none⟩) k c5) (some (.int .i64 ((j : Int) + 1))) none none).run Tryz.prog W = .ok (.slice A2 fd2.length k2) W := fun W => by
              have := run2 (some (.int .i64 ((j + 1 : Nat) : Int))) none W (.inl rfl) (.inr ⟨rfl, rfl⟩)
              rw [← hk0] at this
              exact this
            have gfd1 : fd1 = out.take (j + 1) := by rw [hfd1]; simp
            have gfd2 : fd2 = out.drop (j + 1) := by rw [hfd2]; exact List.take_of_length_le (by rw [List.length_drop]; exact Nat.le_refl _)
            obtain ⟨l2, hl2e⟩ : ∃ l2, l2 = fd1 ++ [f] := ⟨_, rfl⟩
            have HL2 := Lib.hid hl2e
            have HFIN : Hid (l2 ++ fd2 = sortF (fs.take (k + 1))) := by
              show _ = _
              rw [HST.out, insF, HPL.out, hl2e, gfd1, gfd2]
            have hl3 : l2.length = fd1.length + 1 := by rw [hl2e]; simp
            have hl1 : fd1.length = j + 1 := by rw [gfd1, List.length_take]; omega
            have hl2 : fd2.length = k - (j + 1) := by rw [gfd2, List.length_drop]; omega
            have hal : Below w7.heap.size w7 (w7.alloc (.cells #[] 49)) := (Below.refl _ _).alloc (Nat.le_refl _) _
            have HO1 := Lib.hid (own_madef w7 w7.heap.size (Nat.le_refl _))
            have FC := Lib.hid ((hown.out.kept hb8.out).fcells)
            have HC1 := Lib.hid (P1.cells _ (FC.out.on hal))
            have HA1 := Lib.hid hal
            have hbs1 : w7.heap.size ≤ (w7.alloc (.cells #[] 49)).heap.size := hal.size
            have hle1 : Hid (([] : List Fm).length + fd1.length ≤ 1000000) := by show _ ≤ _; simp; omega
            have hle2 : Hid (fd1.length + [f].length ≤ 1000000) := by show _ ≤ _; simp; omega
            have hle3 : Hid (l2.length + fd2.length ≤ 1000000) := by show _ ≤ _; omega
            obtain ⟨m1, hm1⟩ : ∃ m1, m1 = ([] : List Fm).length + fd1.length := ⟨_, rfl⟩
            obtain ⟨m2, hm2⟩ : ∃ m2, m2 = fd1.length + [f].length := ⟨_, rfl⟩
            have hm3 : k + 1 = l2.length + fd2.length := by omega
            have HM1 := Lib.hid hm1
            have HM2 := Lib.hid hm2
            have HM3 := Lib.hid hm3
            have R1 := Lib.hid P1.room
            have R2 := Lib.hid P2.room
            have PC2 := Lib.hid P2.cells
            clear hm1 hm2 hm3 hal hl1 hl2 hl3 hl2e gfd1 gfd2 hfd1 hfd2 run1 run2 P1 P2 hroom hA5 hk0
            go_wp2_with (at_builtin; refine wpList_append_frow rfl _ _ rfl w7.heap.size _ [] fd1 rfl HO1.out A1 k1 fd1.length rfl rfl R1.out.1 HC1.out hbs1 hle1.out m1 HM1.out ?_)
            intro A8 c8 w8 ho8 hg8
            try rw [List.nil_append] at ho8
            have HB8 := Lib.hid (below_appendf HA1.out HO1.out hg8 (Nat.le_refl _))
            have hS8 := ((HS.out.on hb.out).on hb8.out).on HB8.out
            obtain ⟨b8, off8, he8, _, e0, e1, e2⟩ := hS8.get hlt
            simp only [Option.some.injEq, Addr.mk.injEq, and_true] at he8
            obtain ⟨rfl, rfl⟩ := he8
            rw [HF.out] at e0 e1 e2
            have hal2 : Below w8.heap.size w8 (w8.alloc (.cells f.cells.toArray 49)) := (Below.refl _ _).alloc (Nat.le_refl _) _
            have HO8 := Lib.hid (ho8.kept hal2)
            have HB9 := Lib.hid (HB8.out.trans (hal2.mono HB8.out.size))
            have hbs2 : w7.heap.size ≤ (w8.alloc (.cells f.cells.toArray 49)).heap.size := HB9.out.size
            have HC2 := Lib.hid (FileAt.new_ w8 f).cells
            clear ho8 hg8 HO1 HC1 HA1 hS8 hal2
            go_wp2_with (at_builtin; refine wpList_append_frow rfl _ _ rfl w7.heap.size _ fd1 [f] rfl HO8.out (some ⟨w8.heap.size, 0, none⟩) 1 1 rfl rfl (fun h => by cases h) HC2.out hbs2 hle2.out m2 HM2.out ?_)
            intro A10 c10 w10 ho10 hg10
            have HB10 := Lib.hid (below_appendf HB9.out HO8.out hg10 (Nat.le_refl _))
            rw [← HL2.out] at ho10
            have HO10 := Lib.hid ho10
            have hbs3 : w7.heap.size ≤ w10.heap.size := HB10.out.size
            have HC3 := Lib.hid (PC2.out _ (FC.out.on HB10.out))
            clear ho10 hg10 HO8 HC2 HB9 HB8
            go_wp2_with (at_builtin; refine wpList_append_frow rfl _ _ rfl w7.heap.size _ l2 fd2 rfl HO10.out A2 k2 fd2.length rfl rfl R2.out.1 HC3.out hbs3 hle3.out (k + 1) HM3.out ?_)
            intro A11 c11 w11 ho11 hg11
            have HB11 := Lib.hid (hb.out.trans ((hb8.out.trans ((below_appendf HB10.out HO10.out hg11 (Nat.le_refl _)).mono hb8.out.size)).mono hb.out.size))
            rw [HFIN.out] at ho11
            have HO11 := Lib.hid (ho11.more (Nat.le_trans hb.out.size hb8.out.size))
            clear ho11 hg11 HO10 HC3 HB10
            go_wp2
            go_roundw
            case rel => exact ⟨k + 1, A11, c11, by omega, rfl, by go_num, HO11, HB11⟩
            case measure => simp [intOf] <;> omega

    · obtain rfl : k = fs.length := by omega
      rw [List.take_length] at hown
      go_wp2
      go_ret
      exact ⟨_, rfl, hown.out, hb.out⟩
end Go.Proofs.YtaepfahpbnpeiaaGreatDoor
