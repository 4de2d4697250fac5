/-
  Walks of hunk.checkCut, of hunk.piece, of the closure in hunk.Cut, and of hunk.Cut: the pieces of a script. Walk of hunk.Cut: the pieces of a script; the fault else. Walks of the comparison of two hunks and of two lists of the same hunks, and of hunk.Cut and hunk.Turn where there is a fault.
-/
import Derived.Test.YtfmhapajdnmhoafDoorXy
import Derived.Deep.RegionWith
namespace Go.Proofs.YtfmhapajdnmhoafDoor
open Go.RowKit Dist

/-- A part of marks, where it lies. -/
theorem Mks.part {w : World} {b off : Nat} {ms : List (Int × ByteArray)} (h : Mks w (some ⟨b, off, none⟩) ms) (lo hi : Nat) : Mks w (some ⟨b, off + lo * 2, none⟩) ((ms.take hi).drop lo) := by
  intro i hi'
  rw [List.length_drop, List.length_take] at hi'
  obtain ⟨b', off', e, h1, h2⟩ := h (lo + i) (by omega)
  simp only [Option.some.injEq, Addr.mk.injEq] at e
  obtain ⟨rfl, rfl, _⟩ := e
  refine ⟨b, off + lo * 2, rfl, ?_⟩
  have e2 : ((ms.take hi).drop lo).getD i (0, ByteArray.empty) = ms.getD (lo + i) (0, ByteArray.empty) := by
    simp [List.getElem?_drop, show lo + i < hi by omega]
  rw [e2, show off + lo * 2 + i * 2 = off + (lo + i) * 2 by omega]
  exact ⟨h1, h2⟩

theorem near_part {ms : List (Int × ByteArray)} {n i : Nat} (hi : i < ms.length) : near ms n i = decide (0 < chg ((ms.take (min ms.length (i + n + 1))).drop (i - n))) := by
  by_cases h : near ms n i = true
  · rw [h]
    rw [near_iff] at h
    obtain ⟨_, c, hc, hcs, h1, h2⟩ := h
    exact (decide_eq_true (ch_pos hc hcs (by omega) (by omega))).symm
  · have h : near ms n i = false := by simpa using h
    rw [h]
    symm
    rw [decide_eq_false_iff_not]
    intro hp
    unfold chg at hp
    rw [List.length_pos_iff_exists_mem] at hp
    obtain ⟨m, hm⟩ := hp
    obtain ⟨hm, hne⟩ := List.mem_filter.1 hm
    obtain ⟨j, hj, rfl⟩ := List.mem_iff_getElem.1 hm
    rw [List.length_drop, List.length_take] at hj
    rw [near_not] at h
    refine h ⟨hi, i - n + j, by omega, ?_, by omega, by omega⟩
    simp only [List.getElem_drop, List.getElem_take] at hne
    simpa [show i - n + j < ms.length by omega] using hne

theorem Mks.tk {w : World} {a : Option Addr} {ms : List (Int × ByteArray)} (h : Mks w a ms) (k : Nat) : Mks w a (ms.take k) := by
  intro i hi
  rw [List.length_take] at hi
  obtain ⟨b, off, e, h1, h2⟩ := h i (by omega)
  have e2 : (ms.take k).getD i (0, ByteArray.empty) = ms.getD i (0, ByteArray.empty) := by simp [show i < k by omega]
  exact ⟨b, off, e, by rw [e2]; exact h1, by rw [e2]; exact h2⟩

end Go.Proofs.YtfmhapajdnmhoafDoor
namespace Go.Proofs.YtfmhapajdnmhoafDoor
open Go.RowKit Dist

end Go.Proofs.YtfmhapajdnmhoafDoor
namespace Go.Proofs.YtfmhapajdnmhoafDoor
open Go.RowKit Dist

end Go.Proofs.YtfmhapajdnmhoafDoor
