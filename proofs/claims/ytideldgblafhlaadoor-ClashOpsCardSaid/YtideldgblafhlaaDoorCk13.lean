/- Package clash: the functions that are made for ids: among and its two. -/
import Derived.Lib.SlicesCompact
import Derived.Test.YtideldgblafhlaaDoorShelf
import Derived.BigQuiet
import Derived.Deep.QuietTactic
import Derived.Test.YtideldgblafhlaaDoorCk12
namespace Go.Proofs.YtideldgblafhlaaDoor
open Go.RowKit
set_option linter.unusedVariables false

theorem mk_mapc (n : Int) (w : World) : (Instr.makeMap 92 (some (.int .i64 n))).run Tryd.prog w = .ok (.map (some w.heap.size)) (w.alloc (.map #[] 0)) := by
  simp [Instr.makeMap, run_underlying Tryd.underlying92, asInt, asIntOf, Sem.run_bind, Result.andThen]
theorem IdSet.kp {W W' : World} {n₀ b : Nat} {l : List Ik} (h : IdSet W b l) (hk : KpT n₀ W W') : IdSet W' b l := by
  obtain ⟨n, D, hn, ⟨es, clock, hb, r⟩, hh⟩ := h
  exact ⟨n, D, hn, ⟨es, clock, hk.k b _ hb rfl, r⟩, hh⟩
/-- A function that tells whether an id is among these. -/
def AmS (n₀ : Nat) (W : World) (f : Nat) (caps : Array Value) (l : List Im) : Prop :=
  (f = 63 ∧ ∃ g A c, caps = #[.pointer (some ⟨g, 0, none⟩)] ∧ Boxed W g 24 (.slice A l.length c) ∧ Ids W n₀ A l) ∨
  (f = 65 ∧ ∃ g bm, caps = #[.pointer (some ⟨g, 0, none⟩)] ∧ Boxed W g 92 (.map (some bm)) ∧ IdSet W bm (ikeys l))
theorem AmS.kp {n₀ : Nat} {W W' : World} {f : Nat} {caps : Array Value} {l : List Im} (h : AmS n₀ W f caps l) (hk : KpT n₀ W W') : AmS n₀ W' f caps l := by
  rcases h with ⟨e, g, A, c, e2, hb, hi⟩ | ⟨e, g, bm, e2, hb, hi⟩
  · exact .inl ⟨e, g, A, c, e2, hk.box hb, Rk.Row.below hi hk.b⟩
  · exact .inr ⟨e, g, bm, e2, hk.box hb, hi.kp hk⟩
theorem AmS.enters {n₀ : Nat} {W : World} {f : Nat} {caps : Array Value} {l : List Im} (h : AmS n₀ W f caps l) : ∀ args w, (callFunc f args).run Tryd.prog w = .ok (.enter f args) w := by
  rcases h with ⟨rfl, _⟩ | ⟨rfl, _⟩
  · exact enters_of Tryd.func63 (by kernel_rfl) rfl
  · exact enters_of Tryd.func65 (by kernel_rfl) rfl
set_option maxHeartbeats 4000000 in
set_option maxRecDepth 100000 in
theorem camong1_any (g : Nat) (A : Option Addr) (l : List Im) (c : Nat) (x : Im) (w : World) (hB : Boxed w g 24 (.slice A l.length c)) (hs : Ids w w.heap.size A l) (hn : l.length ≤ 1000000) (r : Bool) (hr : decide (x ∈ l) = r) :
    Calls Tryd.prog 63 #[.agg #[.string x.p, .int .i64 x.n], .pointer (some ⟨g, 0, none⟩)] w fun e w' => e = .returned (.bool r) ∧ Below w.heap.size w w' := by
  obtain ⟨hb, hx⟩ := id_box w x
  have HB := Lib.hid hb
  have x0 := id_c0 hx
  have x1 := id_c1 hx
  have c0 : (w.alloc (.cells #[.string x.p, .int .i64 x.n] 23)).cell? ⟨g, 0, none⟩ = some (.slice A l.length c) := (hB.alloc _).cell
  have CI := Lib.hid (idhas_any A l c x _ (hs.on hb) hn)
  rw [hr] at CI
  unfold Im.val at CI
  clear hs hb hx hB
  go_enter Tryd.func63, Tryd.ntmps63
  go_wp2_with fail
  refine CI.out.mono ?_
  rintro e w1 ⟨rfl, hb1⟩
  have HF := Lib.hid (HB.out.trans (hb1.mono HB.out.size))
  clear hb1 x0 x1 c0 CI
  go_wp2
  go_ret
  exact ⟨rfl, HF.out⟩
set_option maxHeartbeats 4000000 in
set_option maxRecDepth 100000 in
theorem camong2_any (g bm : Nat) (l : List Im) (x : Im) (w : World) (hB : Boxed w g 92 (.map (some bm))) (hs : IdSet w bm (ikeys l)) (hx : x.Ok) (r : Bool) (hr : decide (x ∈ l) = r) :
    Calls Tryd.prog 65 #[.agg #[.string x.p, .int .i64 x.n], .pointer (some ⟨g, 0, none⟩)] w fun e w' => e = .returned (.bool r) ∧ Below w.heap.size w w' := by
  obtain ⟨hb, hx2⟩ := id_box w x
  have HB := Lib.hid hb
  have x0 := id_c0 hx2
  have x1 := id_c1 hx2
  have c0 : (w.alloc (.cells #[.string x.p, .int .i64 x.n] 23)).cell? ⟨g, 0, none⟩ = some (.map (some bm)) := (hB.alloc _).cell
  have HS := Lib.hid (hs.on hb)
  have HY := Lib.hid hx
  have HR : Hid (decide (x.key ∈ ikeys l) = r) := by
    show _ = _
    rw [← hr]
    exact decide_eq_decide.2 mem_ikeys
  clear hs hb hx2 hB hx hr
  go_enter Tryd.func65, Tryd.ntmps65
  go_upto_region 1 with (fail)
  generalize (w.alloc (.cells #[.string x.p, .int .i64 x.n] 23)) = wa at *
  have hal : Hid (Below w.heap.size w (wa.alloc (.cells #[] 93))) := HB.out.alloc HB.out.size _
  go_wp2_with (at_lookup; refine wpList_look_id rfl _ _ rfl bm (ikeys l) x rfl rfl HS.out HY.out r HR.out ?_)
  go_ret
  exact ⟨rfl, hal.out⟩
theorem am_call {n₀ : Nat} {W : World} {f : Nat} {caps : Array Value} {l : List Im} (h : AmS n₀ W f caps l) (hn : n₀ ≤ W.heap.size) (hl : l.length ≤ 1000000) (x : Im) (hx : x.Ok) (r : Bool) (hr : decide (x ∈ l) = r) :
    Calls Tryd.prog f (#[.agg #[.string x.p, .int .i64 x.n]] ++ caps) W fun e w' => e = .returned (.bool r) ∧ Below W.heap.size W w' := by
  rcases h with ⟨rfl, g, A, c, rfl, hb, hi⟩ | ⟨rfl, g, bm, rfl, hb, hi⟩
  · exact camong1_any g A l c x W hb (Rk.Row.more hi hn) hl r hr
  · exact camong2_any g bm l x W hb hi hx r hr
/-- among leaves a function. -/
def AmLeft (n₀ : Nat) (l : List Im) (w : World) (e : Ending) (w' : World) : Prop := ∃ f caps, e = .returned (.func (.func f) #[] caps) ∧ AmS n₀ w' f caps l ∧ Below w.heap.size w w'
set_option maxHeartbeats 4000000 in
set_option maxRecDepth 100000 in
theorem camong_any (n₀ : Nat) (A : Option Addr) (l : List Im) (c : Nat) (w : World) (hs : Ids w n₀ A l) (hn : n₀ ≤ w.heap.size) (hl : l.length ≤ 1000000) (hok : ∀ i ∈ l, i.Ok) :
    Calls Tryd.prog 51 #[.slice A l.length c] w (AmLeft n₀ l w) := by
  have bx := Boxed.new w 24 (.slice A l.length c)
  have hal : Below w.heap.size w (w.alloc (.cells #[.slice A l.length c] 24)) := (Below.refl _ _).alloc (Nat.le_refl _) _
  have HS := Lib.hid hs
  have HN := Lib.hid hn
  have HOK := Lib.hid hok
  have HB := Lib.hid hal
  have HX := Lib.hid bx
  have c0 := bx.cell
  have hmm := mk_mapc (l.length : Int)
  clear hs hn hok hal bx
  go_enter Tryd.func51, Tryd.ntmps51
  by_cases h8 : l.length ≤ 8
  · have q8 : (l.length : Int) ≤ 8 := by omega
    have HV : Hid (AmLeft n₀ l w (.returned (.func (.func 63) #[] #[.pointer (some ⟨w.heap.size, 0, none⟩)])) (w.alloc (.cells #[.slice A l.length c] 24))) :=
      ⟨_, _, rfl, .inl ⟨rfl, _, A, c, rfl, HX.out, Rk.Row.below HS.out (HB.out.mono HN.out)⟩, HB.out⟩
    clear HS HX HOK h8
    go_wp2
    go_ret
    exact HV.out
  · have q8 : ¬ (l.length : Int) ≤ 8 := by omega
    clear h8
    go_upto_region 3 with (fail)
    generalize hwa : (w.alloc (.cells #[.slice A l.length c] 24)) = wa at *
    have hal2 : Below wa.heap.size wa (wa.alloc (.map #[] 0)) := (Below.refl _ _).alloc (Nat.le_refl _) _
    have hal3 : Below (wa.alloc (.map #[] 0)).heap.size (wa.alloc (.map #[] 0)) ((wa.alloc (.map #[] 0)).alloc (.cells #[.map (some wa.heap.size)] 92)) := (Below.refl _ _).alloc (Nat.le_refl _) _
    have HM := Lib.hid ((IdSet.made wa).on hal3)
    have HMX := Lib.hid (Boxed.new (wa.alloc (.map #[] 0)) 92 (.map (some wa.heap.size)))
    have hb3 : Below wa.heap.size wa ((wa.alloc (.map #[] 0)).alloc (.cells #[.map (some wa.heap.size)] 92)) := hal2.trans (hal3.mono hal2.size)
    have HB3 := Lib.hid hb3
    have HX3 := Lib.hid ((HX.out.alloc (.map #[] 0)).alloc (.cells #[.map (some wa.heap.size)] 92))
    rw [World.size_alloc] at HMX
    clear hal2 hal3 hb3 HX
    -- @P1
    go_upto_region 4 with (fail)
    generalize ((wa.alloc (.map #[] 0)).alloc (.cells #[.map (some wa.heap.size)] 92)) = wm at *
    have HBM : Hid (w.heap.size ≤ wa.heap.size) := HB.out.size
    have HSB : Hid (wa.heap.size ≤ wm.heap.size) := HB3.out.size
    generalize wa.heap.size = bm at *
    clear c0 hmm
    have c0 := HX3.out.cell
    have HG0 : Hid (wm.grownBy wm (some bm)) := ⟨rfl, rfl, rfl, Nat.le_refl _, fun _ _ _ => rfl⟩
    have HS0 : Hid (IdSet wm bm (ikeys (l.take 0))) := HM.out
    have HI0 : Hid (Ids wm n₀ A l) := Rk.Row.below HS.out (HB.out.trans (HB3.out.mono HBM.out) |>.mono HN.out)
    clear HM HS
    go_wp2_with fail
    -- @P2
    go_loopw [15] (fun iv wr => ∃ k : Nat, iv = .int .i64 (k : Int) ∧ k ≤ l.length ∧ Hid (IdSet wr bm (ikeys (l.take k))) ∧ Hid (wm.grownBy wr (some bm))) (fun iv _ => l.length - (intOf iv).toNat)
    case atStart => exact ⟨0, rfl, Nat.zero_le _, HS0.out, HG0.out⟩
    case round =>
      clear HS0 HG0 c0
      obtain ⟨k, rfl, hk, HM, HG⟩ := hrel
      have hsz : n₀ ≤ wm.heap.size := Nat.le_trans HN.out (Nat.le_trans HBM.out HSB.out)
      have hbl : Below n₀ wm wr := (Below.refl n₀ wm).grown HG.out hsz (fun q hq => by simp only [Option.some.injEq] at hq; subst hq; exact Nat.le_trans HN.out HBM.out)
      by_cases hlt : k < l.length
      · obtain ⟨b, off, rfl, bl1, d0, d1⟩ := ids_get (Rk.Row.below HI0.out hbl) hlt
        have hyo : l[k].Ok := HOK.out l[k] (List.getElem_mem _)
        have hsn : ikeys (l.take (k + 1)) = ikeys (l.take k) ++ [l[k].key] := by
          unfold ikeys
          rw [List.take_succ_eq_append_getElem hlt, List.map_append]
          rfl
        generalize l[k] = y at *
        obtain ⟨hal, hy⟩ := id_box wr y
        have HY := Lib.hid hy
        have HMX2 : Hid (Boxed (wr.alloc (.cells #[.string y.p, .int .i64 y.n] 23)) (bm + 1) 92 (.map (some bm))) := (HMX.out.kept HG.out (by intro e; simp at e)).alloc _
        have HM2 := Lib.hid (HM.out.on hal)
        have HG2 := Lib.hid (Rk.grown_below HG.out hal)
        have HYO := Lib.hid hyo
        have HLE : Hid ((ikeys (l.take k)).length ≤ 1000000000000) := by show _ ≤ _; rw [ikeys_len, List.length_take]; omega
        have HSN := Lib.hid hsn
        have u0 : (0 : Int) ≤ (k : Int) := by omega
        have u1 : (k : Int) < (l.length : Int) := by omega
        clear hyo hsn hal hy HM HG hbl hsz
        go_upto_region 7 with (fail)
        generalize (wr.alloc (.cells #[.string y.p, .int .i64 y.n] 23)) = wa2 at *
        have y0 := id_c0 HY.out
        have y1 := id_c1 HY.out
        have c0 := HMX2.out.cell
        clear d0 d1
        go_wp2_with (at_mapUpdate; refine wpList_put_id rfl _ _ _ rfl bm (ikeys (l.take k)) y rfl rfl rfl HM2.out HYO.out HLE.out ?_)
        intro w3 hs3 hg3
        rw [← HSN.out] at hs3
        have HS3 := Lib.hid hs3
        have HG3 := Lib.hid (Rk.grown_both HG2.out hg3)
        clear hs3 hg3 y0 y1 c0
        go_wp2
        go_roundw
        case rel => exact ⟨k + 1, by go_num, by omega, HS3.out, HG3.out⟩
        case measure => simp [intOf]; omega
      · obtain rfl : k = l.length := by omega
        have hm := HM.out
        rw [List.take_length] at hm
        have HV : Hid (AmLeft n₀ l w (.returned (.func (.func 65) #[] #[.pointer (some ⟨bm + 1, 0, none⟩)])) wr) :=
          ⟨_, _, rfl, .inr ⟨rfl, _, bm, rfl, HMX.out.kept HG.out (by intro e; simp at e), hm⟩, (HB.out.trans (HB3.out.mono HBM.out)).grown HG.out (Nat.le_trans HBM.out HSB.out) (fun q hq => by simp only [Option.some.injEq] at hq; subst hq; exact HBM.out)⟩
        clear HM HG hm hbl hsz
        go_wp2
        go_ret
        exact HV.out
end Go.Proofs.YtideldgblafhlaaDoor
