/-
  Walk of base64.Decode.
-/
import Derived.Test.YtppmpofdhkgjmafDoorRdt
import Derived.Test.YtppmpofdhkgjmafDoorEnf

namespace Go.Proofs.YtppmpofdhkgjmafDoor
open Go.RowKit Dist

theorem text_of (l : List UInt8) (s : ByteArray) : (⟨l.toArray⟩ : ByteArray) = s ↔ l = s.data.toList := by
  constructor
  · intro h; rw [← h]
  · intro h; rw [h]

set_option maxRecDepth 100000 in
set_option maxHeartbeats 1000000 in
theorem decodeOkN (s : ByteArray) (hs : s.size ≤ 140737488355328) (x : List UInt8) (hx : dcd s.data.toList = some x) (w : World) :
    Calls Tryd.prog 15 #[.string s] w fun e w' => ∃ a cap, e = .returned (.tuple #[.slice a x.length cap, .nilIface]) ∧ Bya w' a x cap ∧ Nw w a ∧ Below w.heap.size w w' := by
  obtain ⟨h1, h2, h3⟩ : rdb s.data.toList = x ∧ x.length ≤ 40000 ∧ ltrs x = s.data.toList := by
    unfold dcd at hx
    split at hx
    · exact absurd hx (by simp)
    · rename_i n
      cases hx
      exact ⟨rfl, by omega, Classical.byContradiction fun y => n (Or.inr y)⟩
  have hr := readOfN s hs
  rw [h1] at hr
  have he := fun (a : Option Addr) (cap : Nat) (w : World) (hb : Bya w a x cap) => encode a x cap w hb h2
  rw [h3] at he
  have hss : (⟨s.data.toList.toArray⟩ : ByteArray) = s := by cases s; simp
  rw [hss] at he
  have hb1 : (s.toList == s.toList) = true := beq_self_eq_true _
  clear hx h1 h2 h3 hss
  go_enter Tryd.func15, Tryd.ntmps15
  go_wp2_with (first | (go_at_call 41; refine (hr _).mono ?_; rintro e w1 ⟨a, cap, rfl, hy, hnw, hb⟩; replace hnw : Hid _ := hnw; replace he := he a cap w1 hy) | (go_at_call 12; refine he.mono ?_; rintro e w2 ⟨rfl, hb2⟩))
  go_ret2
  exact ⟨a, cap, rfl, hy.all hb2, hnw.out, hb.trans (hb2.mono hb.size)⟩

theorem decodeOk (s : ByteArray) (hs : s.size ≤ 140737488355328) (x : List UInt8) (hx : dcd s.data.toList = some x) (w : World) :
    Calls Tryd.prog 15 #[.string s] w fun e w' => ∃ a cap, e = .returned (.tuple #[.slice a x.length cap, .nilIface]) ∧ Bya w' a x cap ∧ Below w.heap.size w w' :=
  (decodeOkN s hs x hx w).mono fun _ _ ⟨a, cap, h1, h2, _, h4⟩ => ⟨a, cap, h1, h2, h4⟩

set_option maxRecDepth 100000 in
set_option maxHeartbeats 1000000 in
theorem decodeBad (s : ByteArray) (hs : s.size ≤ 140737488355328) (hx : dcd s.data.toList = none) (w : World) :
    Calls Tryd.prog 15 #[.string s] w fun e w' => e = .returned (.tuple #[.slice none 0 0, .iface 33 (.int .i64 5)]) ∧ Below w.heap.size w w' := by
  have hr := readOf s hs
  obtain ⟨x, h1⟩ : ∃ x, rdb s.data.toList = x := ⟨_, rfl⟩
  rw [h1] at hr
  by_cases h2 : 40000 < x.length
  · have he := fun (a : Option Addr) (cap : Nat) (w : World) => encodeFull a x.length cap w h2
    clear hx h1 h2
    go_enter Tryd.func15, Tryd.ntmps15
    go_wp2_with (first | (go_at_call 41; refine (hr _).mono ?_; rintro e w1 ⟨a, cap, rfl, hy, hb⟩; replace he := he a cap w1) | (go_at_call 12; refine he.mono ?_; rintro e w2 ⟨rfl, hb2⟩))
    go_ret2
    exact ⟨rfl, hb.trans (hb2.mono hb.size)⟩
  · have h3 : ltrs x ≠ s.data.toList := fun h => by
      unfold dcd at hx
      rw [h1, if_neg (fun o => o.elim h2 (fun g => g h))] at hx
      cases hx
    have he := fun (a : Option Addr) (cap : Nat) (w : World) (hb : Bya w a x cap) => encode a x cap w hb (by omega)
    obtain ⟨t, ht⟩ : ∃ t : ByteArray, (⟨(ltrs x).toArray⟩ : ByteArray) = t := ⟨_, rfl⟩
    have hne : t ≠ s := fun h => h3 ((text_of _ _).1 (ht.trans h))
    have hb1 : (t.toList == s.toList) = false := (Lib.bytes_beq_false_iff t s).2 hne
    rw [ht] at he
    clear hx h1 h2 h3 ht hne
    go_enter Tryd.func15, Tryd.ntmps15
    go_wp2_with (first | (go_at_call 41; refine (hr _).mono ?_; rintro e w1 ⟨a, cap, rfl, hy, hb⟩; replace he := he a cap w1 hy) | (go_at_call 12; refine he.mono ?_; rintro e w2 ⟨rfl, hb2⟩))
    go_ret2
    exact ⟨rfl, hb.trans (hb2.mono hb.size)⟩

end Go.Proofs.YtppmpofdhkgjmafDoor
