/-
  Walk of the law MailIs, what the program's own functions answer given.
-/
import Derived.Test.YtppmpofdhkgjmafDoorRbx
import Derived.Test.YtppmpofdhkgjmafDoorMfs
import Derived.Test.YtppmpofdhkgjmafDoorSml
import Derived.Test.YtppmpofdhkgjmafDoorTold3

namespace Go.Proofs.YtppmpofdhkgjmafDoor
open Go.RowKit Dist

theorem mailOfU (s : ByteArray) (hs : s.size ≤ 400000) (w : World) :
    Calls Tryd.prog 20 #[.string s] w fun e w' => ∃ a cap, e = .returned (.tuple #[.agg #[.string (moM (mof s.data.toList)).1, .string (moM (mof s.data.toList)).2.1, .string (moM (mof s.data.toList)).2.2.1, .slice a (moM (mof s.data.toList)).2.2.2.length cap], .int .i64 (moE (mof s.data.toList))]) ∧ Bya w' a (moM (mof s.data.toList)).2.2.2 cap ∧ Below w.heap.size w w' := by
  refine (mailOf s hs w).mono fun e w' h => ?_
  cases hm : mof s.data.toList with
  | none =>
    rw [hm] at h
    exact ⟨none, 0, h.1, .inl ⟨rfl, fun _ => rfl⟩, h.2⟩
  | some m =>
    rw [hm] at h
    obtain ⟨a, cap, h1, h2, _, h3⟩ := h
    exact ⟨a, cap, h1, h2, h3⟩
theorem boxOfU (s : ByteArray) (hs : s.size ≤ 400000) (w : World) :
    Calls Tryd.prog 25 #[.string s] w fun e w' => ∃ a cap, e = .returned (.tuple #[.slice a (boL (bof 16 s.data.toList)).length cap, .int .i64 (boE (bof 16 s.data.toList))]) ∧ Mls w' a (boL (bof 16 s.data.toList)) ∧ Below w.heap.size w w' := by
  refine (boxOf s hs w).mono fun e w' h => ?_
  cases hm : bof 16 s.data.toList with
  | none =>
    rw [hm] at h
    exact ⟨none, 0, h.1, Mls.nil _ _, h.2⟩
  | some l =>
    rw [hm] at h
    obtain ⟨a, cap, h1, h2, _, h3⟩ := h
    exact ⟨a, cap, by rw [h1]; show _ = Ending.returned (.tuple #[.slice a (l.map mbl).length cap, .int .i64 0]); rw [List.length_map], h2, h3⟩

end Go.Proofs.YtppmpofdhkgjmafDoor
