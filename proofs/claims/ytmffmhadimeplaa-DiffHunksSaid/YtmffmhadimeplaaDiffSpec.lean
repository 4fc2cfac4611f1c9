
/- What package diff's calls are to do, as words: each is proved of the landed code. -/
import Derived.Test.YtmffmhadimeplaaRefHunks
import Derived.Test.YtmffmhadimeplaaRefHunk
import Derived.Test.YtmffmhadimeplaaLight04
namespace Go.Proofs.Ytmffmhadimeplaa
open Go.RowKit
set_option linter.unusedVariables false

/-- The error of hunks done. -/
def applE (la : List (List UInt8)) (hs : List Hm) : Int := if mayB hs then (if standB la hs then 0 else 13) else 6
/-- What Invert leaves. -/
def InvTold (w : World) (hs : List Hm) (e : Ending) (w' : World) : Prop :=
  ∃ A cap ks, e = .returned (.slice A (List.length (α := Hm) ks) cap) ∧ ((mayB hs = true → plains ks = inv 0 0 (plains hs) ∧ ∀ h ∈ ks, 0 ≤ h.at_) ∧ (mayB hs = false → ks = [])) ∧ Room A ks.length cap ∧ Hks w' w'.heap.size A ks ∧ Below w.heap.size w w'
def HunksC : Prop := ∀ (A A2 : Option Addr) (la lc : List (List UInt8)) (cap cap2 : Nat) (w : World), Strs w w.heap.size A (toBs la) → Strs w w.heap.size A2 (toBs lc) → Room A la.length cap → Room A2 lc.length cap2 → la.length ≤ 400 → lc.length ≤ 400 →
  Calls Try.prog 8 #[.slice A la.length cap, .slice A2 lc.length cap2] w (HunksTold w (hunks la lc))
def ApplyC : Prop := ∀ (A A2 : Option Addr) (la : List (List UInt8)) (hs : List Hm) (cap cap2 : Nat) (w : World), Strs w w.heap.size A (toBs la) → Room A la.length cap → Hks w w.heap.size A2 hs → Room A2 hs.length cap2 → Small hs → hs.length ≤ 1000 → la.length + sumNew (plains hs) ≤ 300000 →
  Calls Try.prog 9 #[.slice A la.length cap, .slice A2 hs.length cap2] w (Told w (refApp la (plains hs)) (applE la hs))
def InvertC : Prop := ∀ (A : Option Addr) (hs : List Hm) (cap : Nat) (w : World), Hks w w.heap.size A hs → Room A hs.length cap → Small hs → hs.length ≤ 1000 → (mayB hs = true → ∀ h ∈ hs, h.at_ ≤ 1000000) →
  Calls Try.prog 10 #[.slice A hs.length cap] w (InvTold w hs)
def CheckC : Prop := ∀ (A : Option Addr) (hs : List Hm) (cap : Nat) (w : World), Hks w w.heap.size A hs → Room A hs.length cap → Small hs → hs.length ≤ 1000 →
  Calls Try.prog 19 #[.slice A hs.length cap] w fun e w' => e = .returned (.int .i64 (if mayB hs then 0 else 6)) ∧ Below w.heap.size w w'
def SameC : Prop := ∀ (A A2 : Option Addr) (hs ks : List Hm) (cap cap2 : Nat) (w : World), Hks w w.heap.size A hs → Hks w w.heap.size A2 ks → Small hs → Small ks →
  Calls Try.prog 20 #[.slice A hs.length cap, .slice A2 ks.length cap2] w fun e w' => e = .returned (.bool (decide (keys hs = keys ks))) ∧ Below w.heap.size w w'
def SizeC : Prop := ∀ (A : Option Addr) (hs : List Hm) (cap : Nat) (w : World), Hks w w.heap.size A hs → Small hs → hs.length ≤ 1000 →
  Calls Try.prog 12 #[.slice A hs.length cap] w fun e w' => e = .returned (.tuple #[.int .i64 (sumOld (plains hs) : Int), .int .i64 (sumNew (plains hs) : Int)]) ∧ Below w.heap.size w w'
def AlikeC : Prop := ∀ (A A2 : Option Addr) (la lc : List (List UInt8)) (cap cap2 : Nat) (w : World), Strs w w.heap.size A (toBs la) → Strs w w.heap.size A2 (toBs lc) → Room A la.length cap → Room A2 lc.length cap2 → la.length ≤ 400 → lc.length ≤ 400 →
  Calls Try.prog 16 #[.slice A la.length cap, .slice A2 lc.length cap2] w fun e w' => e = .returned (.int .i64 (lcs la lc : Int)) ∧ Below w.heap.size w w'
/-- All of package diff, for lists that are not long. -/
structure DiffC : Prop where
  hunks : HunksC
  apply : ApplyC
  invert : InvertC
  check : CheckC
  same : SameC
  size : SizeC
  alike : AlikeC

theorem may_of : ∀ (hs : List Hm) (e : Option Int), (∀ h ∈ hs, 0 ≤ h.at_) → May (plains hs) → (∀ x ∈ e, From (x + 1).toNat (plains hs) ∧ -1 ≤ x) → mayF e hs = true
  | [], _, _, _, _ => rfl
  | h :: l, e, hp, hm, hf => by
    have h0 := hp h (by simp)
    obtain ⟨m1, m2, m3⟩ := hm
    have ih := may_of l (some (h.at_ + h.old.length)) (fun x hx => hp x (List.mem_cons_of_mem _ hx)) m3 (fun x hx => by
      cases hx
      refine ⟨?_, by omega⟩
      have e2 : (h.at_ + (h.old.length : Int) + 1).toNat = h.plain.at_ + h.plain.old.length + 1 := by simp only [Hm.plain]; omega
      rw [e2]
      exact m2)
    rw [mayF, ih, Bool.and_true]
    unfold okAt
    rw [decide_eq_true_eq]
    refine ⟨h0, fun hz => ?_, fun x hx => ?_⟩
    · rcases m1 with m1 | m1
      · exact m1 (List.length_eq_zero_iff.1 hz.1)
      · exact m1 (List.length_eq_zero_iff.1 hz.2)
    · obtain ⟨f1, f2⟩ := hf x hx
      have f1' : (x + 1).toNat ≤ h.at_.toNat := f1
      omega
theorem mayB_of {hs : List Hm} (hp : ∀ h ∈ hs, 0 ≤ h.at_) (hm : May (plains hs)) : mayB hs = true := may_of hs none hp hm (fun x hx => by cases hx)
theorem standB_of {la : List (List UInt8)} {hs : List Hm} (hp : ∀ h ∈ hs, 0 ≤ h.at_) (hs' : ∀ g ∈ plains hs, Stands la g) : standB la hs = true :=
  List.all_eq_true.2 fun h hh => (atB_stands (hp h hh)).2 (hs' _ (List.mem_map.2 ⟨h, hh, rfl⟩))
theorem stands_of {la : List (List UInt8)} {hs : List Hm} (hp : ∀ h ∈ hs, 0 ≤ h.at_) (h : standB la hs = true) : ∀ g ∈ plains hs, Stands la g := fun g hg => by
  obtain ⟨x, hx, rfl⟩ := List.mem_map.1 hg
  exact (atB_stands (hp x hx)).1 (List.all_eq_true.1 h x hx)
theorem keys_of : ∀ {hs ks : List Hm}, (∀ h ∈ hs, 0 ≤ h.at_) → (∀ h ∈ ks, 0 ≤ h.at_) → plains hs = plains ks → keys hs = keys ks
  | [], [], _, _, _ => rfl
  | [], k :: ks, _, _, h => by simp [plains] at h
  | h :: hs, [], _, _, e => by simp [plains] at e
  | h :: hs, k :: ks, h1, h2, e => by
    simp only [plains, List.map_cons, List.cons.injEq] at e
    have ih := keys_of (hs := hs) (ks := ks) (fun x hx => h1 x (List.mem_cons_of_mem _ hx)) (fun x hx => h2 x (List.mem_cons_of_mem _ hx)) e.2
    have a1 := h1 h (by simp)
    have a2 := h2 k (by simp)
    have e1 := e.1
    simp only [Hm.plain, Hk.mk.injEq] at e1
    have : h.key = k.key := by
      unfold Hm.key
      rw [e1.2.1, e1.2.2, show h.at_ = k.at_ by omega]
    simp only [keys, List.map_cons] at ih ⊢
    rw [this, ih]
end Go.Proofs.Ytmffmhadimeplaa
