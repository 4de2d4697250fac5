/-
  Parts of slices of texts, with letters for their bounds.
-/
import Derived.Test.YtnkdmgekpajfhaeDoorLess

namespace Go.Proofs.YtnkdmgekpajfhaeDoor
open Go.RowKit Dist

/-- Where a part of a slice lies. -/
def sa (a : Option Addr) (cap lo : Nat) : Option Addr := if cap = lo then a else a.map (·.add lo)

theorem run_slice_at (a : Option Addr) (len cap lo hi : Nat) (h1 : lo ≤ hi) (h2 : hi ≤ cap) (w : World) (l h : Int) (hl : l = lo) (hh : h = hi) : (Instr.slice 52 (.slice a len cap) (some (.int .i64 l)) (some (.int .i64 h)) none).run Tryd.prog w = .ok (.slice (sa a cap lo) (hi - lo) (cap - lo)) w := by
  obtain ⟨i0, hi0, hz0, hz1, hz2⟩ := info_parts Tryd.info9
  subst hl hh
  have hsz : ∀ w, (Go.sizeOf 9).run Tryd.prog w = .ok 1 w := fun w => by simp [Go.sizeOf, typeInfo, hi0, hz1]
  have b1 : (0 : Int) ≤ lo ∧ (lo : Int) ≤ hi := by omega
  have b2 : (0 : Int) ≤ hi ∧ (hi : Int) ≤ cap := by omega
  simp only [Instr.slice, Instr.sliceBounds, Instr.sliceBound, run_underlying Tryd.underlying52, Sem.run_bind, Sem.run_pure, Result.andThen_ok, asIntOf, b1, b2, hsz, sa, Nat.mul_one, if_true, and_self, Int.toNat_natCast]

theorem run_slice_from (a : Option Addr) (len cap lo : Nat) (h1 : lo ≤ len) (w : World) (l : Int) (hl : l = lo) : (Instr.slice 52 (.slice a len cap) (some (.int .i64 l)) none none).run Tryd.prog w = .ok (.slice (sa a cap lo) (len - lo) (cap - lo)) w := by
  obtain ⟨i0, hi0, hz0, hz1, hz2⟩ := info_parts Tryd.info9
  subst hl
  have hsz : ∀ w, (Go.sizeOf 9).run Tryd.prog w = .ok 1 w := fun w => by simp [Go.sizeOf, typeInfo, hi0, hz1]
  have b1 : (0 : Int) ≤ lo ∧ (lo : Int) ≤ len := by omega
  simp only [Instr.slice, Instr.sliceBounds, Instr.sliceBound, run_underlying Tryd.underlying52, Sem.run_bind, Sem.run_pure, Result.andThen_ok, asIntOf, b1, hsz, sa, Nat.mul_one, if_true, and_self, Int.toNat_natCast]

/-- A part of lines, where it lies. -/
theorem Strs.part {w : World} {a : Option Addr} {xs : List ByteArray} (h : Strs w a xs) {cap : Nat} (hc : xs.length ≤ cap) (lo hi : Nat) : Strs w (sa a cap lo) ((xs.take hi).drop lo) := by
  intro i hi'
  rw [List.length_drop, List.length_take] at hi'
  obtain ⟨b, off, rfl, h1⟩ := h (lo + i) (by omega)
  refine ⟨b, off + lo, ?_, ?_⟩
  · unfold sa
    rw [if_neg (by omega), Option.map_some]
    have e3 : (⟨b, off, none⟩ : Addr).add lo = ⟨b, off + lo, none⟩ := by
      unfold Addr.add
      by_cases h0 : lo = 0
      · subst h0; rfl
      · simp [h0]
    rw [e3]
  · have e2 : ((xs.take hi).drop lo).getD i ByteArray.empty = xs.getD (lo + i) ByteArray.empty := by
      simp [List.getElem?_drop, show lo + i < hi by omega]
    rw [e2, Nat.add_assoc]
    exact h1

end Go.Proofs.YtnkdmgekpajfhaeDoor
