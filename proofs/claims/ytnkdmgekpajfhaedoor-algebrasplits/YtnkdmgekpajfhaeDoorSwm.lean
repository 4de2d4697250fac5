/-
  Plain mathematics: two hunks the other way round.
-/
import Derived.Test.YtnkdmgekpajfhaeDoorPa0

namespace Go.Proofs.YtnkdmgekpajfhaeDoor.Dist

def hz : Hk := (0, 0, [])
/-- A hunk that is moved. -/
def shf (h : Hk) (d : Int) : Hk := (h.1 + d, h.2.1 + d, h.2.2)
def ahd (h k : Hk) : Bool := decide (k.1 + ob k.2.2 ≤ h.2.1)
def bhd (h k : Hk) : Bool := decide (h.2.1 + nb h.2.2 ≤ k.1)
/-- Both, one of them moved. -/
def swP (h k : Hk) : Hk × Hk := if ahd h k = true then (shf h ((nb k.2.2 : Int) - ob k.2.2), k) else (h, shf k ((ob h.2.2 : Int) - nb h.2.2))
/-- The fault of a swap; what it answers. -/
def swF (h k : Hk) : Int :=
  if (hf [h]).2 ≠ 0 then (hf [h]).2 else if (hf [k]).2 ≠ 0 then (hf [k]).2 else if ahd h k = bhd h k then 6
  else if (hf [(swP h k).1]).2 ≠ 0 then (hf [(swP h k).1]).2 else (hf [(swP h k).2]).2
def swO (h k : Hk) : Hk × Hk := if swF h k = 0 then ((swP h k).2, (swP h k).1) else (hz, hz)

theorem swF_h {h k : Hk} (e : (hf [h]).2 ≠ 0) : swF h k = (hf [h]).2 := by unfold swF; rw [if_pos e]
theorem swF_k {h k : Hk} (e1 : (hf [h]).2 = 0) (e : (hf [k]).2 ≠ 0) : swF h k = (hf [k]).2 := by unfold swF; rw [if_neg (fun x => x e1), if_pos e]
theorem swF_c {h k : Hk} (e1 : (hf [h]).2 = 0) (e2 : (hf [k]).2 = 0) (e : ahd h k = bhd h k) : swF h k = 6 := by unfold swF; rw [if_neg (fun x => x e1), if_neg (fun x => x e2), if_pos e]
theorem swF_m {h k : Hk} (e1 : (hf [h]).2 = 0) (e2 : (hf [k]).2 = 0) (e3 : ahd h k ≠ bhd h k) (e : (hf [(swP h k).1]).2 ≠ 0) : swF h k = (hf [(swP h k).1]).2 := by
  unfold swF; rw [if_neg (fun x => x e1), if_neg (fun x => x e2), if_neg e3, if_pos e]
theorem swF_n {h k : Hk} (e1 : (hf [h]).2 = 0) (e2 : (hf [k]).2 = 0) (e3 : ahd h k ≠ bhd h k) (e : (hf [(swP h k).1]).2 = 0) : swF h k = (hf [(swP h k).2]).2 := by
  unfold swF; rw [if_neg (fun x => x e1), if_neg (fun x => x e2), if_neg e3, if_neg (fun x => x e)]
theorem swO_bad {h k : Hk} (e : swF h k ≠ 0) : swO h k = (hz, hz) := by unfold swO; rw [if_neg e]
theorem swO_ok {h k : Hk} (e : swF h k = 0) : swO h k = ((swP h k).2, (swP h k).1) := by unfold swO; rw [if_pos e]

/-- A hunk by itself: its numbers, its Old is its New. -/
theorem hf_one {h : Hk} (e : (hf [h]).2 = 0) : sf h.2.2 = 0 ∧ 0 ≤ h.1 ∧ h.1 ≤ 60 ∧ h.2.1 = h.1 ∧ h.2.2.length ≤ 120 ∧ ∀ m ∈ h.2.2, sgn m.1 := by
  obtain ⟨h1, h2⟩ := hf_first e
  obtain ⟨_, h3⟩ := hf_zero e
  obtain ⟨o1, _, _⟩ := hAt_zero (h3 0 (by simp))
  have o1 : hOne h = 0 := o1
  unfold hOne at o1
  rw [if_neg (fun x => x h2)] at o1
  by_cases hc : chg h.2.2 = 0
  · rw [if_pos hc] at o1; simp at o1
  · rw [if_neg hc] at o1
    by_cases hr : 0 ≤ h.1 ∧ h.1 ≤ 60 ∧ h.1 + ob h.2.2 ≤ 60 ∧ 0 ≤ h.2.1 ∧ h.2.1 ≤ 60 ∧ h.2.1 + nb h.2.2 ≤ 60
    · exact ⟨h2, hr.1, hr.2.1, h1, (sf_zero h2).1, fun m hm => ((sf_zero h2).2 m hm).1⟩
    · rw [if_neg hr] at o1; simp at o1

end Go.Proofs.YtnkdmgekpajfhaeDoor.Dist
