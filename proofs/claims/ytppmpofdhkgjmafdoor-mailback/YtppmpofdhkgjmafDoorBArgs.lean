/-
  Arguments as the walks want them: bytes.
-/
import Derived.Test.YtppmpofdhkgjmafDoorEnc
import Derived.ProofKit
import Derived.SliceStrings
import Derived.OpenShut

namespace Go.Proofs.YtppmpofdhkgjmafDoor
open Go.ChangeShapes Go.WideShapes Go.ChangeAt Go.RowKit Dist

theorem u8_wf {n : Int} (h : (Lit.int .u8 n).wf = true) : ((UInt8.ofNat n.toNat).toNat : Int) = n := by
  have h2 := bounds_u8 h
  rw [UInt8.toNat_ofNat']
  omega

/-- Bytes that came in. -/
theorem bya_of {H : Type} {enc : TypeId × Value → H} {W : World} {a : Option Addr} {len cap : Nat} {d : DataW H} {p : List MemPlace} (h : DataW.Trod enc Tryd.prog W 0 (fun _ => true) true 39 (.slice a len cap) d p) :
    ∃ l : List UInt8, l.length = len ∧ Bya W a l cap := by
  obtain ⟨fuel, hf⟩ := h
  rcases open_ints Tryd.underlying39 Tryd.underlying5 (by kernel_rfl) hf with ⟨hcs, _⟩ | ⟨x, l, c, zs, hcs, _, hl, hm, hz, _, hcell, hwz⟩
  · simp [Value.cells] at hcs
    obtain ⟨rfl, rfl, rfl⟩ := hcs
    exact ⟨[], rfl, .inl ⟨rfl, fun _ => rfl⟩⟩
  · simp [Value.cells] at hcs
    obtain ⟨rfl, rfl, rfl⟩ := hcs
    have hzl : zs.length = cap := by simpa using hz
    by_cases h0 : len = 0
    · subst h0
      exact ⟨[], rfl, .inl ⟨rfl, fun e => by cases e⟩⟩
    · obtain ⟨b, off, spot⟩ := x
      have hspot : spot = none := by simpa [Addr.add] using World.cell?_spot (hcell 0 (by omega))
      subst hspot
      refine ⟨(zs.take len).map fun n => UInt8.ofNat n.toNat, by rw [List.length_map, List.length_take]; omega, .inr ⟨b, off, rfl, by rw [List.length_map, List.length_take]; omega, fun i hi => ?_⟩⟩
      rw [List.length_map, List.length_take] at hi
      have hc := hcell i (by omega)
      have h2 : i < zs.length := by omega
      have h1 : i < len := by omega
      have e : ((zs.take len).map fun n => UInt8.ofNat n.toNat).getD i 0 = UInt8.ofNat (zs.getD i 0).toNat := by simp [h1, h2]
      have ha : (⟨b, off, none⟩ : Addr).add i = ⟨b, off + i, none⟩ := by
        by_cases h : i = 0
        · subst h; rfl
        · simp [Addr.add, h]
      rw [e, u8_wf (hwz _ (by simp [h2])), ← ha]
      exact hc

end Go.Proofs.YtppmpofdhkgjmafDoor
