
/- code.Num answers a number's bytes; new blocks alone are made. -/
import Derived.Test.YtokkkjgdfnkjoaaDoorCodePlain
import Derived.Test.YtokkkjgdfnkjoaaDoorProg
import Derived.WalkKit
import Derived.WalkSpells
import Derived.Handy
import Derived.Lib.Hide
namespace Go.Proofs.YtokkkjgdfnkjoaaDoor
open Go.RowKit
set_option linter.unusedVariables false

theorem info_u8 : (Tryd.prog.info? 5).map (fun i => (i.zero, i.size, i.bytes)) = some (some (.int .u8 0), 1, 1) := by kernel_rfl
/-- Bytes as cells. -/
def bcells (l : List UInt8) : List Value := l.map fun b => .int .u8 (b.toNat : Int)
theorem bcells_len (l : List UInt8) : (bcells l).length = l.length := by simp [bcells]

theorem bcells_snoc (l : List UInt8) (b : UInt8) (x : Int) (h : (b.toNat : Int) = x) : bcells l ++ [.int .u8 x] = bcells (l ++ [b]) := by
  subst h; simp [bcells]
/-- A row of bytes of the call's own, as a string. -/
theorem own_string {w : World} {base : Nat} {v : Value} {n : Nat} (l : List UInt8) (h : w.ownsRow base 5 1 v n (bcells l)) (hp : 0 < l.length) :
    (convert 43 9 v).run Tryd.prog w = .ok (.string ⟨l.toArray⟩) w := by
  have hn : n = l.length := by have := h.1; rw [bcells_len] at this; omega
  subst hn
  have h' := h
  rcases h.2 with ⟨_, h0⟩ | ⟨g, cap, cur, rfl, _⟩
  · omega
  refine run_convert_bytes_back w _ _ _ _ cap l Tryd.underlying43 Tryd.underlying5 Tryd.underlying9 fun j hj => ?_
  exact h'.cells (g := g) rfl j _ (by simp [bcells, List.getElem?_eq_getElem hj])
theorem or128 : ∀ x : Fin 256, bits .or .u8 (x.val : Int) 128 = 128 + (x.val : Int) % 128 := by decide +kernel
theorem or128_nat (m : Nat) : bits .or .u8 ((m : Int) % 256) 128 = 128 + (m : Int) % 128 := by
  have := or128 ⟨m % 256, by omega⟩
  have e : ((m % 256 : Nat) : Int) = (m : Int) % 256 := by omega
  simp only [e] at this
  rw [show ((m : Int) % 256 % 128) = (m : Int) % 128 from by omega] at this
  exact this

set_option maxRecDepth 100000 in
theorem num_any (n : Int) (w : World) (h0 : 0 ≤ n) (h1 : n ≤ 18446744073709551615) :
    Calls Tryd.prog 49 #[.int .u64 n] w fun e w' => e = .returned (.string ⟨(numB n.toNat).toArray⟩) ∧ Below w.heap.size w w' := by
  obtain ⟨i0, hi, hz0, hz1, hz2⟩ := info_parts info_u8
  go_enter Tryd.func49, Tryd.ntmps49
  go_wp2
  go_loopw [0, 3] (fun x v wr => ∃ (f m : Nat) (pre : List UInt8), x = .int .u64 (m : Int) ∧ Hid (m < 128 ^ (f + 1)) ∧ Hid (pre.length + f = 9) ∧ Hid (numB n.toNat = pre ++ numF f m) ∧
      wr.ownsRow w.heap.size 5 1 v pre.length (bcells pre) ∧ Below w.heap.size w wr) (fun x _ _ => (intOf x).toNat)
  case atStart => exact ⟨9, n.toNat, [], by rw [Int.toNat_of_nonneg h0], u64_pow _ (by omega), rfl, rfl, World.ownsRow_nil _ _ _ _, Below.refl _ _⟩
  case round =>
    obtain ⟨f, m, pre, rfl, hm, hl, hnum, hown, hb⟩ := hrel
    clear h0 h1
    have hlen : pre.length ≤ 9 := by have := hl.out; omega
    by_cases hc : m < 128
    · go_wp2_with (at_builtin; refine wpList_append_own _ rfl _ _ 43 rfl w.heap.size 5 i0 (.int .u8 0) 1 1 Tryd.underlying43 hi hz0 hz1 hz2 rfl (by decide) _ _ _ rfl (hown.alloc _) ⟨wr.heap.size, 0, none⟩ 1 1 [.int .u8 (m : Int)] rfl rfl ?c1 ?c2 ?c3 ?c4 ?c5 ?_)
      case c1 => exact cell_one_new _ _ _
      case c2 => intro u hu; simp at hu; subst hu; rfl
      case c3 => unfold maxLen; omega
      case c4 => omega
      case c5 => have := hb.size; simp; omega
      intro v' w1 hown' hgrow _
      rw [bcells_snoc pre (UInt8.ofNat m) _ (toNat_lo m hc)] at hown'
      have hrun := own_string _ hown' (by simp)
      have hb2 : Below w.heap.size w w1 := (hb.alloc hb.size _).grown hgrow (by have := hb.size; simp; omega) (fun k hk => (hown.lt k hk).1)
      have hfin : pre ++ [UInt8.ofNat m] = numB n.toNat := by rw [hnum.out, numF_lt f m hc]
      have Hf := Lib.hid hfin
      clear hfin hown' hgrow hown hnum hm hl
      go_wp2
      go_ret
      rw [Hf.out]
      exact ⟨rfl, hb2⟩
    · go_wp2_with (at_builtin; refine wpList_append_own _ rfl _ _ 43 rfl w.heap.size 5 i0 (.int .u8 0) 1 1 Tryd.underlying43 hi hz0 hz1 hz2 rfl (by decide) _ _ _ rfl (hown.alloc _) ⟨wr.heap.size, 0, none⟩ 1 1 [.int .u8 (bits .or .u8 ((m : Int) % 256) 128)] rfl rfl ?d1 ?d2 ?d3 ?d4 ?d5 ?_)
      case d1 => exact cell_one_new _ _ _
      case d2 => intro u hu; simp at hu; subst hu; rfl
      case d3 => unfold maxLen; omega
      case d4 => omega
      case d5 => have := hb.size; simp; omega
      intro v' w1 hown' hgrow _
      rw [bcells_snoc pre (UInt8.ofNat (128 + m % 128)) _ ((toNat_hi m).trans (or128_nat m).symm)] at hown'
      have hb2 : Below w.heap.size w w1 := (hb.alloc hb.size _).grown hgrow (by have := hb.size; simp; omega) (fun k hk => (hown.lt k hk).1)
      obtain ⟨g, rfl⟩ : ∃ g, f = g + 1 := ⟨f - 1, by
        have := hm.out
        rcases Nat.eq_zero_or_pos f with h | h
        · subst h; simp at this; omega
        · omega⟩
      have hfin : Hid (numB n.toNat = (pre ++ [UInt8.ofNat (128 + m % 128)]) ++ numF g (m / 128)) := by
        show numB n.toNat = _
        rw [hnum.out, numF_ge g m (by omega)]; simp
      have hm2 : Hid (m / 128 < 128 ^ (g + 1)) := div_pow m g hm.out
      have hl2 : Hid ((pre ++ [UInt8.ofNat (128 + m % 128)]).length + g = 9) := by
        have := hl.out
        show _ = _
        simp; omega
      have hown2 : w1.ownsRow w.heap.size 5 1 v' (pre ++ [UInt8.ofNat (128 + m % 128)]).length (bcells (pre ++ [UInt8.ofNat (128 + m % 128)])) := by
        simpa using hown'
      clear hown' hgrow hown hnum hm hl
      go_wp2
      go_roundw
      case rel => exact ⟨g, m / 128, _, by go_num, hm2, hl2, hfin, hown2, hb2⟩
      case measure => simp [intOf]; omega
end Go.Proofs.YtokkkjgdfnkjoaaDoor
