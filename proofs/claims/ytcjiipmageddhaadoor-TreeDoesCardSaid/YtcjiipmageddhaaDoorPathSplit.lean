
/- strings.Split at a slash: what it leaves is what stands between slashes. -/
import Derived.Shelf.Strings.Split
import Derived.Test.YtcjiipmageddhaaDoorPathPlain
import Derived.Test.YtcjiipmageddhaaDoorStr
namespace Go.Proofs.YtcjiipmageddhaaDoor
open Go.RowKit
set_option linter.unusedVariables false

theorem split_pieces : ∀ l : List UInt8, Lib.split l [47] = pieces l
  | [] => by
    unfold Lib.split
    rw [Lib.count_miss (by simp [Lib.index])]
    rfl
  | c :: l => by
    have ih := split_pieces l
    unfold Lib.split at ih ⊢
    by_cases h : c = 47
    · subst h
      have hix : Lib.index (47 :: l) [47] = ((0 : Nat) : Int) := by rw [Lib.index]; simp [List.isPrefixOf]
      rw [Lib.count_cons_eq, Nat.add_comm, Lib.splitK, hix, pieces, if_pos rfl]
      simp [ih]
    · have hp : ([47] : List UInt8).isPrefixOf (c :: l) = false := by simp [List.isPrefixOf, Ne.symm h]
      have hix : Lib.index (c :: l) [47] = if Lib.index l [47] == -1 then -1 else Lib.index l [47] + 1 := by rw [Lib.index, hp]; simp
      rw [Lib.count_cons_ne _ _ _ h, pieces, if_neg h, ← ih]
      by_cases hm : Lib.index l [47] = -1
      · rw [Lib.count_miss hm]
        rfl
      · have hge := Lib.index_ge l [47]
        obtain ⟨j, hj⟩ : ∃ j : Nat, Lib.index l [47] = j := ⟨(Lib.index l [47]).toNat, by omega⟩
        have hix' : Lib.index (c :: l) [47] = ((j + 1 : Nat) : Int) := by rw [hix, if_neg (fun e => hm (beq_iff_eq.1 e)), hj]; omega
        rw [Lib.count_hit (by simp) hj, Nat.add_comm 1, Lib.splitK, Lib.splitK, hix', hj]
        have n1 : ¬ (((j + 1 : Nat) : Int) == -1) = true := fun e => by have := beq_iff_eq.1 e; omega
        have n2 : ¬ (((j : Nat) : Int) == -1) = true := fun e => by have := beq_iff_eq.1 e; omega
        rw [if_neg n1, if_neg n2]
        simp
theorem split_bytes (s : ByteArray) : Lib.splitB ⟨#[47]⟩ 0 (Lib.countB s ⟨#[47]⟩) s = toBs (pieces s.data.toList) := by
  have h := Lib.splitB_data ⟨#[47]⟩ 0 (Lib.countB s ⟨#[47]⟩) s
  have e : lists (Lib.splitB ⟨#[47]⟩ 0 (Lib.countB s ⟨#[47]⟩) s) = pieces s.data.toList := by
    unfold lists
    rw [h, ← split_pieces]
    rfl
  rw [← e, toBs_lists]
theorem split_count (s : ByteArray) : Lib.countB s ⟨#[47]⟩ + 1 = (pieces s.data.toList).length := by
  have h := Lib.splitB_all ⟨#[47]⟩ (by decide) 0 _ s rfl
  rw [split_bytes, toBs_len] at h
  exact h.symm
open Go.Shelf in
set_option maxHeartbeats 1000000 in
theorem split_slash {P : Program} {ρ : Ren} (L : Lays.n146 P ρ) (hi9 : (P.info? (ρ.t 9)).map (fun i => (i.zero, i.size, i.bytes)) = some (some (.string ByteArray.empty), 1, 16)) (s : ByteArray) (w : World) (hs : s.size < 4294967281) :
    Calls P (ρ.f 146) #[.string s, .string ⟨#[47]⟩] w fun e w' => e = .returned (.slice (some ⟨w.heap.size, 0, none⟩) (pieces s.data.toList).length (pieces s.data.toList).length) ∧ w' = w.alloc (.cells ((toBs (pieces s.data.toList)).map Value.string).toArray (ρ.t 9)) := by
  have hle := Lib.countB_le ⟨#[47]⟩ (by decide) s.size s (Nat.le_refl _)
  have hI : ∀ (x : ByteArray) (c : Array Value), x.size ≤ s.size → Calls P (ρ.f 143) #[.string x, .string ⟨#[47]⟩] (w.alloc (.cells c (ρ.t 9))) fun e w' => e = .returned (.int .i64 (Lib.indexB x ⟨#[47]⟩)) ∧ w' = w.alloc (.cells c (ρ.t 9)) := fun x c _ => by
    have h := Any.strings_Index_one { L with } x 47 (w.alloc (.cells c (ρ.t 9)))
    rwa [← Lib.index_one] at h
  have hC : Calls P (ρ.f 138) #[.string s, .string ⟨#[47]⟩] w fun e w' => e = .returned (.int .i64 (Lib.countB s ⟨#[47]⟩)) ∧ w' = w := by
    have h := Any.strings_Count_one { L with } s 47 w
    unfold Lib.countByte at h
    rwa [← Lib.count_one] at h
  have c := Any.strings_genSplit_core { L with } hi9 s ⟨#[47]⟩ 0 (-1) (Lib.countB s ⟨#[47]⟩ + 1) w hs (by decide) (Nat.zero_le _) hI hC (by decide) (by decide) (by rw [if_pos (by decide)]; omega)
  rw [Nat.add_sub_cancel, split_bytes, toBs_len, split_count] at c
  have e2 : Lib.cellsOf (toBs (pieces s.data.toList)) (pieces s.data.toList).length = ((toBs (pieces s.data.toList)).map Value.string).toArray := by
    rw [← toBs_len (pieces s.data.toList)]
    exact Lib.cellsOf_full _
  rw [e2] at c
  clear e2 hI hC hle
  generalize ((toBs (pieces s.data.toList)).map Value.string).toArray = cs at *
  generalize (pieces s.data.toList).length = n at *
  have t3 := L.t3; have t9 := L.t9; have t31 := L.t31
  have a3 := L.a3; have a9 := L.a9; have a31 := L.a31
  have z3 := L.z3; have v3 := L.v3; have z9 := L.z9; have v9 := L.v9; have z31 := L.z31; have v31 := L.v31
  have e221 : ∀ args w, (callFunc (ρ.f 221) args).run P w = .ok (.enter (ρ.f 221) args) w := enters_of L.f221 (by kernel_rfl) rfl
  go_enter L.f146, Body.n146_ntmps ρ
  go_wp2_with (go_at_fn (ρ.f 221); refine c.mono ?_; rintro e w' ⟨rfl, hw⟩; rw [hw])
  go_ret
  exact ⟨rfl, rfl⟩
end Go.Proofs.YtcjiipmageddhaaDoor
