/- The calls of layer 2 and of its reference, one way: rows in, rows out; the statements' awake. -/
import Derived.Test.YtekegomlodbohaaNameUnion
import Derived.Test.YtekegomlodbohaaNameRight
import Derived.Test.YtekegomlodbohaaRefKeep
import Derived.Test.YtekegomlodbohaaSame
namespace Go.Proofs.Ytekegomlodbohaa
open Go.RowKit
set_option linter.unusedVariables false

/-- A call hands back a row of texts; new blocks alone are made. -/
def RowLeft (w : World) (ls : List (List UInt8)) (e : Ending) (w' : World) : Prop :=
  ∃ A cap, e = .returned (.slice A ls.length cap) ∧ (A = none → cap = 0) ∧ Strs w' w'.heap.size A (toBs ls) ∧ Below w.heap.size w w'
theorem own_row {w : World} {ls : List (List UInt8)} {e : Ending} {w' : World} (h : ∃ v, e = .returned v ∧ OwnS w' w.heap.size v ls ∧ Below w.heap.size w w') : RowLeft w ls e w' := by
  obtain ⟨v, rfl, ho, hb⟩ := h
  obtain ⟨A, cap, rfl, hs, _, _⟩ := ho.strs
  exact ⟨A, cap, rfl, ho.room.2.2.2.1, hs, hb⟩

section
variable (A A2 : Option Addr) (la lc : List (List UInt8)) (cap cap2 : Nat) (w : World)
theorem set_l (hs : Strs w w.heap.size A (toBs la)) (hn : la.length ≤ 100000) : Calls Try.prog 13 #[.slice A la.length cap] w (RowLeft w (setS la)) := by
  have h := set_any A (toBs la) cap w hs (by rw [toBs_len]; omega)
  rw [toBs_len, lists_toBs] at h
  exact h.mono fun e w' h => own_row h
theorem refset_l (hs : Strs w w.heap.size A (toBs la)) (hn : la.length ≤ 100000) : Calls Try.prog 10 #[.slice A la.length cap] w (RowLeft w (setS la)) := by
  have h := refset_any A (toBs la) cap w hs (by rw [toBs_len]; omega)
  rw [toBs_len, lists_toBs] at h
  exact h.mono fun e w' h => own_row h
theorem minus_l (hs : Strs w w.heap.size A (toBs la)) (ht : Strs w w.heap.size A2 (toBs lc)) (hn : la.length ≤ 100000) (hn2 : lc.length ≤ 100000) :
    Calls Try.prog 17 #[.slice A la.length cap, .slice A2 lc.length cap2] w (RowLeft w (minusS la lc)) := by
  have h := minus_any A A2 (toBs la) (toBs lc) cap cap2 w hs ht (by rw [toBs_len]; omega) (by rw [toBs_len]; omega)
  rw [toBs_len, toBs_len, lists_toBs, lists_toBs] at h
  exact h.mono fun e w' h => own_row h
theorem both_l (hs : Strs w w.heap.size A (toBs la)) (ht : Strs w w.heap.size A2 (toBs lc)) (hn : la.length ≤ 100000) (hn2 : lc.length ≤ 100000) :
    Calls Try.prog 18 #[.slice A la.length cap, .slice A2 lc.length cap2] w (RowLeft w (bothS la lc)) := by
  have h := both_any A A2 (toBs la) (toBs lc) cap cap2 w hs ht (by rw [toBs_len]; omega) (by rw [toBs_len]; omega)
  rw [toBs_len, toBs_len, lists_toBs, lists_toBs] at h
  exact h.mono fun e w' h => own_row h
theorem within_l (hs : Strs w w.heap.size A (toBs la)) (ht : Strs w w.heap.size A2 (toBs lc)) (hn : la.length ≤ 100000) (hn2 : lc.length ≤ 100000) :
    Calls Try.prog 19 #[.slice A la.length cap, .slice A2 lc.length cap2] w fun e w' => e = .returned (.bool (decide ((minusS la lc).length = 0))) ∧ Below w.heap.size w w' := by
  have h := within_any A A2 (toBs la) (toBs lc) cap cap2 w hs ht (by rw [toBs_len]; omega) (by rw [toBs_len]; omega)
  rw [toBs_len, toBs_len, lists_toBs, lists_toBs] at h
  exact h
theorem nsame_l (hs : Strs w w.heap.size A (toBs la)) (ht : Strs w w.heap.size A2 (toBs lc)) (hn : la.length ≤ 100000) (hn2 : lc.length ≤ 100000) :
    Calls Try.prog 20 #[.slice A la.length cap, .slice A2 lc.length cap2] w fun e w' => e = .returned (.bool (decide (setS la = setS lc))) ∧ Below w.heap.size w w' := by
  have h := nsame_any A A2 (toBs la) (toBs lc) cap cap2 w hs ht (by rw [toBs_len]; omega) (by rw [toBs_len]; omega)
  rw [toBs_len, toBs_len, lists_toBs, lists_toBs] at h
  exact h
theorem same_l (hs : Strs w w.heap.size A (toBs la)) (ht : Strs w w.heap.size A2 (toBs lc)) (hn : la.length ≤ 100000) (hn2 : lc.length ≤ 100000) :
    Calls Try.prog 12 #[.slice A la.length cap, .slice A2 lc.length cap2] w fun e w' => e = .returned (.bool (decide (la = lc))) ∧ Below w.heap.size w w' := by
  have h := same_any A A2 (toBs la) (toBs lc) cap cap2 w hs ht (by rw [toBs_len]; omega) (by rw [toBs_len]; omega)
  rw [toBs_len, toBs_len, toBs_eq] at h
  exact h
theorem refkeep_l (inb : Bool) (hs : Strs w w.heap.size A (toBs la)) (ht : Strs w w.heap.size A2 (toBs lc)) (hn : la.length ≤ 100000) (hn2 : lc.length ≤ 100000) :
    Calls Try.prog 11 #[.slice A la.length cap, .slice A2 lc.length cap2, .bool inb] w (RowLeft w (setS (keepS la lc inb))) := by
  have h := refkeep_any A A2 (toBs la) (toBs lc) cap cap2 inb w hs ht (by rw [toBs_len]; omega) (by rw [toBs_len]; omega)
  rw [toBs_len, toBs_len, lists_toBs, lists_toBs] at h
  exact h.mono fun e w' h => own_row h
theorem has_l (s : ByteArray) (hs : Strs w w.heap.size A (toBs la)) (hn : la.length ≤ 100000) :
    Calls Try.prog 14 #[.slice A la.length cap, .string s] w fun e w' => e = .returned (.bool (decide (s.data.toList ∈ la))) ∧ w' = w := by
  have h := has_any A (toBs la) cap s w hs (by rw [toBs_len]; omega)
  rw [toBs_len, lists_toBs] at h
  exact h
theorem refhas_l (s : ByteArray) (hs : Strs w w.heap.size A (toBs la)) (hn : la.length ≤ 100000) :
    Calls Try.prog 15 #[.slice A la.length cap, .string s] w fun e w' => e = .returned (.bool (decide (s.data.toList ∈ la))) ∧ w = w' := by
  have h := refhas_any A (toBs la) cap s w hs (by rw [toBs_len]; omega)
  rw [toBs_len, lists_toBs] at h
  exact h

theorem pair_row (hA : A = none → cap = 0) (hA2 : A2 = none → cap2 = 0) (hs : Strs w w.heap.size A (toBs la)) (ht : Strs w w.heap.size A2 (toBs lc)) (hn : la.length ≤ 100000) (hn2 : lc.length ≤ 100000) :
    Calls Try.prog 27 #[.slice (some ⟨w.heap.size, 0, none⟩) 2 2] (w.alloc (.cells #[.slice A la.length cap, .slice A2 lc.length cap2] 24)) (RowLeft w (la ++ lc)) := by
  have hb : Below w.heap.size w (w.alloc (.cells #[.slice A la.length cap, .slice A2 lc.length cap2] 24)) := (Below.refl _ w).alloc (Nat.le_refl _) _
  have h := concat_any w.heap.size A A2 la lc cap cap2 (w.alloc (.cells #[.slice A la.length cap, .slice A2 lc.length cap2] 24)) (hs.on hb) (ht.on hb) hA hA2 hn hn2 (by simp) (by rw [World.cell?_alloc_new]; rfl) (by rw [World.cell?_alloc_new]; rfl)
  refine h.mono ?_
  rintro e w' ⟨v, rfl, ho, hb2⟩
  exact own_row ⟨v, rfl, ho.more hb.size, hb.trans (hb2.mono hb.size)⟩
set_option maxRecDepth 100000 in
theorem union_l (hA : A = none → cap = 0) (hA2 : A2 = none → cap2 = 0) (hs : Strs w w.heap.size A (toBs la)) (ht : Strs w w.heap.size A2 (toBs lc)) (hn : la.length ≤ 50000) (hn2 : lc.length ≤ 50000) :
    Calls Try.prog 16 #[.slice A la.length cap, .slice A2 lc.length cap2] w (RowLeft w (setS (la ++ lc))) := by
  have hc := pair_row A A2 la lc cap cap2 w hA hA2 hs ht (by omega) (by omega)
  have hl : (la ++ lc).length ≤ 100000 := by simp; omega
  generalize la ++ lc = ls at *
  clear hs ht hA hA2
  go_enter Try.func16, Try.ntmps16
  go_wp2_with fail
  refine hc.mono ?_
  rintro e w1 ⟨A1, cap1, rfl, _, hs1, hb1⟩
  go_wp2_with fail
  refine (set_l _ _ _ _ hs1 hl).mono ?_
  rintro e w2 ⟨A3, cap3, rfl, hnil, hs2, hb2⟩
  go_wp2
  go_ret
  exact ⟨A3, cap3, rfl, hnil, hs2, hb1.trans (hb2.mono hb1.size)⟩
end

/-- Rows held while new blocks are made. -/
def Held (w0 w : World) (l : List (Option Addr × List (List UInt8))) : Prop :=
  Below w0.heap.size w0 w ∧ ∀ p ∈ l, Strs w w.heap.size p.1 (toBs p.2)
theorem Held.step {w0 w w' : World} {l : List (Option Addr × List (List UInt8))} (h : Held w0 w l) (hb : Below w.heap.size w w') : Held w0 w' l :=
  ⟨h.1.trans (hb.mono h.1.size), fun p hp => (h.2 p hp).on hb⟩
theorem Held.push {w0 w : World} {l : List (Option Addr × List (List UInt8))} {A : Option Addr} {ls : List (List UInt8)} (h : Held w0 w l) (hs : Strs w w.heap.size A (toBs ls)) : Held w0 w ((A, ls) :: l) :=
  ⟨h.1, fun p hp => by
    rcases List.mem_cons.1 hp with rfl | hp
    · exact hs
    · exact h.2 p hp⟩
theorem Held.get {w0 w : World} {l : List (Option Addr × List (List UInt8))} {A : Option Addr} {ls : List (List UInt8)} (h : Held w0 w l) (hp : (A, ls) ∈ l) : Strs w w.heap.size A (toBs ls) := h.2 _ hp

theorem bab : setS [[98], [97], [98]] = [[97], [98]] := by decide
theorem set_bab (w : World) : Calls Try.prog 13 #[.slice (some ⟨w.heap.size, 0, none⟩) 3 3] (w.alloc (.cells #[.string ⟨#[98]⟩, .string ⟨#[97]⟩, .string ⟨#[98]⟩] 9)) fun e w' => ∃ (b cap : Nat), e = .returned (.slice (some ⟨b, 0, none⟩) 2 cap) ∧ w'.cell? ⟨b, 0, none⟩ = some (.string ⟨#[97]⟩) ∧ Held w w' [(some ⟨b, 0, none⟩, [[97], [98]])] := by
  have hb : Below w.heap.size w (w.alloc (.cells #[.string ⟨#[98]⟩, .string ⟨#[97]⟩, .string ⟨#[98]⟩] 9)) := (Below.refl _ w).alloc (Nat.le_refl _) _
  have hs : Strs (w.alloc (.cells #[.string ⟨#[98]⟩, .string ⟨#[97]⟩, .string ⟨#[98]⟩] 9)) (w.alloc (.cells #[.string ⟨#[98]⟩, .string ⟨#[97]⟩, .string ⟨#[98]⟩] 9)).heap.size (some ⟨w.heap.size, 0, none⟩) (toBs [[98], [97], [98]]) :=
    (strs_new w [⟨#[98]⟩, ⟨#[97]⟩, ⟨#[98]⟩]).more (by simp)
  have h := set_any (some ⟨w.heap.size, 0, none⟩) (toBs [[98], [97], [98]]) 3 _ hs (by decide)
  rw [lists_toBs] at h
  refine h.mono ?_
  rintro e w' ⟨v, rfl, ho, hb2⟩
  rw [bab] at ho
  have hrm := ho
  obtain ⟨A, cap, rfl, hs2, _, _⟩ := ho.strs
  obtain ⟨b, off, rfl, hlt, hc⟩ := hs2 (by decide)
  have he := (hrm.room.2.2.2.2 _ rfl).1
  simp only at he
  subst he
  exact ⟨b, cap, rfl, hc 0 (by decide), hb.trans (hb2.mono hb.size), fun p hp => by
    have : p = (some ⟨b, 0, none⟩, [[97], [98]]) := by simpa using hp
    subst this
    exact hs2⟩

theorem right_1 (w : World) : Calls Try.prog 7 #[.string ⟨#[97, 45, 49]⟩] w fun e w' => e = .returned (.bool true) ∧ Below w.heap.size w w' := by
  have h := right_any ⟨#[97, 45, 49]⟩ w (by decide)
  rw [show rightB ⟨#[97, 45, 49]⟩ = true from by decide] at h
  exact h
theorem right_2 (w : World) : Calls Try.prog 7 #[.string ⟨#[46, 46]⟩] w fun e w' => e = .returned (.bool false) ∧ Below w.heap.size w w' := by
  have h := right_any ⟨#[46, 46]⟩ w (by decide)
  rw [show rightB ⟨#[46, 46]⟩ = false from by decide] at h
  exact h
theorem right_3 (w : World) : Calls Try.prog 7 #[.string ⟨#[65]⟩] w fun e w' => e = .returned (.bool false) ∧ Below w.heap.size w w' := by
  have h := right_any ⟨#[65]⟩ w (by decide)
  rw [show rightB ⟨#[65]⟩ = false from by decide] at h
  exact h
theorem has_b (b cap : Nat) (w0 w : World) (h : Held w0 w [(some ⟨b, 0, none⟩, [[97], [98]])]) : Calls Try.prog 14 #[.slice (some ⟨b, 0, none⟩) 2 cap, .string ⟨#[98]⟩] w fun e w' => e = .returned (.bool true) ∧ w' = w :=
  has_l (some ⟨b, 0, none⟩) [[97], [98]] cap w ⟨#[98]⟩ (h.get (by simp)) (by decide)
theorem minus_ll (b cap : Nat) (w0 w : World) (h : Held w0 w [(some ⟨b, 0, none⟩, [[97], [98]])]) : Calls Try.prog 17 #[.slice (some ⟨b, 0, none⟩) 2 cap, .slice (some ⟨b, 0, none⟩) 2 cap] w fun e w' => ∃ A c, e = .returned (.slice A 0 c) ∧ Held w0 w' [(some ⟨b, 0, none⟩, [[97], [98]])] := by
  refine (minus_l (some ⟨b, 0, none⟩) (some ⟨b, 0, none⟩) [[97], [98]] [[97], [98]] cap cap w (h.get (by simp)) (h.get (by simp)) (by decide) (by decide)).mono ?_
  rintro e w' ⟨A, c, rfl, _, _, hb⟩
  exact ⟨A, c, by rw [show (minusS [[97], [98]] [[97], [98]]).length = 0 from by decide], h.step hb⟩
theorem within_nil (b cap : Nat) (w0 w : World) (h : Held w0 w [(some ⟨b, 0, none⟩, [[97], [98]])]) : Calls Try.prog 19 #[.slice none 0 0, .slice (some ⟨b, 0, none⟩) 2 cap] w fun e w' => e = .returned (.bool true) ∧ Below w0.heap.size w0 w' := by
  refine (within_l none (some ⟨b, 0, none⟩) [] [[97], [98]] 0 cap w (fun h => absurd h (by simp [toBs])) (h.get (by simp)) (by decide) (by decide)).mono ?_
  rintro e w' ⟨rfl, hb⟩
  exact ⟨by rw [show decide ((minusS [] [[97], [98]]).length = 0) = true from by decide], h.1.trans (hb.mono h.1.size)⟩

set_option maxRecDepth 100000 in
theorem awake_any (w : World) : Calls Try.prog 6 #[] w fun e w' => e = .returned (.bool true) ∧ Below w.heap.size w w' := by
  go_enter Try.func6, Try.ntmps6
  go_wp2_with fail
  refine (set_bab _).mono ?_
  rintro e w1 ⟨b, cap, rfl, hc, hh⟩
  have H := Lib.hid hh
  clear hh
  go_wp2_with fail
  refine (right_1 _).mono ?_
  rintro e w2 ⟨rfl, hb⟩
  have H2 := Lib.hid (H.out.step hb)
  clear H hb hc
  go_wp2_with fail
  refine (right_2 _).mono ?_
  rintro e w3 ⟨rfl, hb⟩
  have H3 := Lib.hid (H2.out.step hb)
  clear H2 hb
  go_wp2_with fail
  refine (right_3 _).mono ?_
  rintro e w4 ⟨rfl, hb⟩
  have H4 := Lib.hid (H3.out.step hb)
  clear H3 hb
  go_wp2_with fail
  refine (has_b b cap w _ H4.out).mono ?_
  rintro e w5 ⟨rfl, rfl⟩
  go_wp2_with fail
  refine (minus_ll b cap w _ H4.out).mono ?_
  rintro e w6 ⟨A6, c6, rfl, h6⟩
  have H6 := Lib.hid h6
  clear h6 H4
  go_wp2_with fail
  refine (within_nil b cap w _ H6.out).mono ?_
  rintro e w7 ⟨rfl, hb⟩
  clear H6
  go_wp2
  go_ret
  exact ⟨rfl, hb⟩
end Go.Proofs.Ytekegomlodbohaa
