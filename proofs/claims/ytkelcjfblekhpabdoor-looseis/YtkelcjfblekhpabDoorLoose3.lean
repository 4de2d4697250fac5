/-
  apply.Loose in one form, fault or none; walk of the comparison of two lists of numbers.
-/
import Derived.Test.YtkelcjfblekhpabDoorLoose2

namespace Go.Proofs.YtkelcjfblekhpabDoor
open Go.RowKit Dist

/-- What comes of it, if there is no fault. -/
def lsR (xs : List ByteArray) (l : List Hk) (fuzz far : Int) : LS := if lcF xs l fuzz far = 0 then lrun fuzz.toNat far.toNat xs l l.length else ⟨[], 0, 0, [], []⟩

theorem lsR_ok {xs : List ByteArray} {l : List Hk} {fuzz far : Int} (h : lcF xs l fuzz far = 0) : lsR xs l fuzz far = lrun fuzz.toNat far.toNat xs l l.length := by unfold lsR; rw [if_pos h]
theorem lsR_bad {xs : List ByteArray} {l : List Hk} {fuzz far : Int} (h : lcF xs l fuzz far ≠ 0) : lsR xs l fuzz far = ⟨[], 0, 0, [], []⟩ := by unfold lsR; rw [if_neg h]

theorem looseAny (a la : Option Addr) (xs : List ByteArray) (l : List Hk) (ca cl : Nat) (fuzz far : Int) (w : World) (ha : Strs w a xs) (hl : Hks w la l) (h1 : xs.length ≤ maxLen) (h0 : l.length ≤ maxLen) (h00 : ∀ h ∈ l, h.2.2.length ≤ maxLen) (hca : xs.length ≤ ca) :
    Calls Tryd.prog 12 #[.slice a xs.length ca, .slice la l.length cl, .int .i64 fuzz, .int .i64 far] w fun e w' => ∃ a' c' b' cb g' cg, e = .returned (.tuple #[.slice a' (lsR xs l fuzz far).A.length c', .slice b' (lsR xs l fuzz far).L.length cb, .slice g' (lsR xs l fuzz far).W.length cg, errV (lcF xs l fuzz far)]) ∧ Below w.heap.size w w' ∧ Strs w' a' (lsR xs l fuzz far).A ∧ Hks w' b' (lsR xs l fuzz far).L ∧ Ints w' g' (lsR xs l fuzz far).W := by
  by_cases h : lcF xs l fuzz far = 0
  · rw [lsR_ok h, h, errV_zero]
    obtain ⟨_, _, g1, _, g2, _⟩ := lcF_zero h
    obtain ⟨f, rfl⟩ := Int.eq_ofNat_of_zero_le g1
    obtain ⟨r, rfl⟩ := Int.eq_ofNat_of_zero_le g2
    exact loose_main a la xs l ca cl f r w ha hl hca h
  · rw [lsR_bad h, errV_not h]
    exact (loose_bad a la xs l ca cl fuzz far w ha hl h1 h0 h00 h).mono fun e w' ⟨he, hb⟩ => ⟨none, 0, none, 0, none, 0, he, hb, fun i hi => absurd hi (by simp), Hks.nil _ _, fun i hi => absurd hi (by simp)⟩

/-- What holds of what comes. -/
theorem lsR_small {xs : List ByteArray} {l : List Hk} {fuzz far : Int} (h : lcF xs l fuzz far = 0) : ∀ k, k ≤ l.length → OkS (fun x => lf x.data.toList = 0) far.toNat xs k (lrun fuzz.toNat far.toNat xs l k) := fun k hk => by
  obtain ⟨z1, z2, _⟩ := lcF_zero h
  obtain ⟨_, _, hone⟩ := hf_good z2
  exact run_ok (lsf_len z1) (fun x hx => (lsf_zero z1).2 _ (List.mem_map.2 ⟨x, hx, rfl⟩)) (fun h hh => ⟨fun m hm => (sf_zero (hone h hh).1).2 m hm, (hone h hh).2.1⟩) _ _ k hk

end Go.Proofs.YtkelcjfblekhpabDoor
