/-
  Walk of the law LettersIs.
-/
import Derived.Test.YtgpkggccggdpbafDoorRby
import Derived.Test.YtgpkggccggdpbafDoorTold3
import Derived.Laws.BytesArg

namespace Go.Proofs.YtgpkggccggdpbafDoor
open Go.RowKit Dist

/-- Bytes as a text. -/
theorem conv_text {W : World} {a : Option Addr} {l : List UInt8} {cap : Nat} (h : Bya W a l cap) : (convert 39 9 (.slice a l.length cap)).run Tryd.prog W = .ok (.string ⟨l.toArray⟩) W := by
  rcases h with ⟨h0, _⟩ | ⟨b, off, rfl, _, hb⟩
  · obtain rfl : l = [] := List.length_eq_zero_iff.1 h0
    show (convert 39 9 (.slice a 0 cap)).run Tryd.prog W = .ok (.string ⟨#[]⟩) W
    rw [run_convert_bytes_string W 39 9 5 a 0 cap Tryd.underlying39 Tryd.underlying5 Tryd.underlying9]
    cases a with
    | none => simp [Conv.bytesToString]; rfl
    | some x =>
      rw [run_bytesToString W x 0 cap [] (by simpa using run_loadCells_list (P := Tryd.prog) W x [] (by simp))]; rfl
  · refine run_convert_bytes_back W 39 9 5 ⟨b, off, none⟩ cap l Tryd.underlying39 Tryd.underlying5 Tryd.underlying9 fun j hj => ?_
    have := hb.get j (.int .u8 (l[j].toNat : Int)) (by simp [u8s, hj])
    exact this

set_option maxRecDepth 100000 in
set_option maxHeartbeats 1000000 in
theorem lettersIs_out (a : Option Addr) (l : List UInt8) (cap : Nat) (s : ByteArray) (w : World) (h : (2000 < l.length ∧ l.length ≤ 40000) ∨ 4000 < s.size) :
    Calls Tryd.prog 4 #[.slice a l.length cap, .string s] w fun e w' => e = .returned (.bool true) ∧ Below w.heap.size w w' := by
  obtain ⟨len, hlen⟩ : ∃ len, l.length = len := ⟨_, rfl⟩
  rw [hlen] at h ⊢
  clear hlen
  by_cases h1 : 2000 < len
  · by_cases h2 : len ≤ 40000
    · clear h
      go_enter Tryd.func4, Tryd.ntmps4
      go_wp2
      go_ret
      exact ⟨rfl, Below.refl _ _⟩
    · have h3 : 4000 < s.size := by omega
      clear h
      go_enter Tryd.func4, Tryd.ntmps4
      go_wp2
      go_ret
      exact ⟨rfl, Below.refl _ _⟩
  · have h3 : 4000 < s.size := by omega
    clear h
    go_enter Tryd.func4, Tryd.ntmps4
    go_wp2
    go_ret
    exact ⟨rfl, Below.refl _ _⟩

set_option maxRecDepth 100000 in
set_option maxHeartbeats 1000000 in
theorem lettersIs_full_ok (a : Option Addr) (l : List UInt8) (cap : Nat) (s : ByteArray) (w : World) (hg : TypeLaid w) (h1 : 40000 < l.length) (h2 : s.size ≤ 4000) (x : List UInt8) (hx : byo s.data.toList = some x) :
    Calls Tryd.prog 4 #[.slice a l.length cap, .string s] w fun e w' => e = .returned (.bool true) ∧ Below w.heap.size w w' := by
  have hen := encodeFull a l.length cap w h1
  have her := fun w1 (h : Below w.heap.size w w1) => error_same 3 w1 (hg.below h)
  have hby := bytesOf s
  rw [hx] at hby
  have hde := decodeOk s (by omega) x ((dcd_byo _).trans hx)
  have her2 := fun w1 (h : Below w.heap.size w w1) => error_same 0 w1 (hg.below h)
  rw [errV_not (e := 3) (by decide)] at her
  rw [errV_zero] at her2
  obtain ⟨len, hlen⟩ : ∃ len, l.length = len := ⟨_, rfl⟩
  rw [hlen] at h1 hen ⊢
  clear hlen hg hx
  go_enter Tryd.func4, Tryd.ntmps4
  go_wp2_with (first
    | (go_at_call 10; refine hen.mono ?_; rintro e w1 ⟨rfl, hb1⟩; replace her := her w1 hb1)
    | (go_at_call 11; refine her.mono ?_; clear her; rintro e w2 ⟨rfl, hb2⟩; replace hb2 := hb1.trans (hb2.mono hb1.size))
    | (go_at_call 12; refine (hby w2).mono ?_; rintro e w3 ⟨a3, c3, rfl, hy3, hb3⟩)
    | (go_at_call 13; refine (hde w3).mono ?_; rintro e w4 ⟨a4, c4, rfl, hy4, hb4⟩; have hb34 := hb2.trans ((hb3.trans (hb4.mono hb3.size)).mono hb2.size); replace her2 := her2 w4 hb34)
    | (go_at_call 11; refine her2.mono ?_; clear her2; rintro e w5 ⟨rfl, hb5⟩; have hcx := conv_text (hy4.all hb5); have hcc := conv_text ((hy3.all hb4).all hb5)))
  go_ret
  exact ⟨rfl, hb34.trans (hb5.mono hb34.size)⟩

set_option maxRecDepth 100000 in
set_option maxHeartbeats 1000000 in
theorem lettersIs_full_bad (a : Option Addr) (l : List UInt8) (cap : Nat) (s : ByteArray) (w : World) (hg : TypeLaid w) (h1 : 40000 < l.length) (h2 : s.size ≤ 4000) (hx : byo s.data.toList = none) :
    Calls Tryd.prog 4 #[.slice a l.length cap, .string s] w fun e w' => e = .returned (.bool true) ∧ Below w.heap.size w w' := by
  have hen := encodeFull a l.length cap w h1
  have her := fun w1 (h : Below w.heap.size w w1) => error_same 3 w1 (hg.below h)
  have hby := bytesOf s
  rw [hx] at hby
  have hde := decodeBad s (by omega) ((dcd_byo _).trans hx)
  have hcn : ∀ W, (convert 39 9 (.slice none 0 0)).run Tryd.prog W = .ok (.string ⟨#[]⟩) W := fun W => conv_text (W := W) (a := none) (l := []) (cap := 0) (.inl ⟨rfl, fun _ => rfl⟩)
  have her2 := fun w1 (h : Below w.heap.size w w1) => error_same 5 w1 (hg.below h)
  rw [errV_not (e := 3) (by decide)] at her
  rw [errV_not (e := 5) (by decide)] at her2
  obtain ⟨len, hlen⟩ : ∃ len, l.length = len := ⟨_, rfl⟩
  rw [hlen] at h1 hen ⊢
  clear hlen hg hx
  go_enter Tryd.func4, Tryd.ntmps4
  go_wp2_with (first
    | (go_at_call 10; refine hen.mono ?_; rintro e w1 ⟨rfl, hb1⟩; replace her := her w1 hb1)
    | (go_at_call 11; refine her.mono ?_; clear her; rintro e w2 ⟨rfl, hb2⟩; replace hb2 := hb1.trans (hb2.mono hb1.size))
    | (go_at_call 12; refine (hby w2).mono ?_; rintro e w3 ⟨rfl, hb3⟩)
    | (go_at_call 13; refine (hde w3).mono ?_; rintro e w4 ⟨rfl, hb4⟩; have hb34 := hb2.trans ((hb3.trans (hb4.mono hb3.size)).mono hb2.size); replace her2 := her2 w4 hb34)
    | (go_at_call 11; refine her2.mono ?_; clear her2; rintro e w5 ⟨rfl, hb5⟩))
  go_ret
  exact ⟨rfl, hb34.trans (hb5.mono hb34.size)⟩

set_option maxRecDepth 100000 in
set_option maxHeartbeats 1000000 in
theorem lettersIs_few_ok (a : Option Addr) (l : List UInt8) (cap : Nat) (s : ByteArray) (w : World) (hg : TypeLaid w) (ha : Bya w a l cap) (h1 : l.length ≤ 2000) (h2 : s.size ≤ 4000) (x : List UInt8) (hx : byo s.data.toList = some x) :
    Calls Tryd.prog 4 #[.slice a l.length cap, .string s] w fun e w' => e = .returned (.bool true) ∧ Below w.heap.size w w' := by
  have hen := encode a l cap w ha (by omega)
  have hle := lettersOf a l cap w ha (by omega)
  generalize (⟨(ltrs l).toArray⟩ : ByteArray) = t at hen hle
  have htt : (t.toList == t.toList) = true := beq_self_eq_true _
  have her := fun w1 (h : Below w.heap.size w w1) => error_same 0 w1 (hg.below h)
  have hby := bytesOf s
  rw [hx] at hby
  have hde := decodeOk s (by omega) x ((dcd_byo _).trans hx)
  have her2 := fun w1 (h : Below w.heap.size w w1) => error_same 0 w1 (hg.below h)
  rw [errV_zero] at her
  rw [errV_zero] at her2
  obtain ⟨len, hlen⟩ : ∃ len, l.length = len := ⟨_, rfl⟩
  rw [hlen] at h1 hen hle ⊢
  clear hlen hg hx ha
  go_enter Tryd.func4, Tryd.ntmps4
  go_wp2_with (first
    | (go_at_call 9; refine hle.mono ?_; rintro e w0 ⟨rfl, rfl⟩)
    | (go_at_call 10; refine hen.mono ?_; rintro e w1 ⟨rfl, hb1⟩; replace her := her w1 hb1)
    | (go_at_call 11; refine her.mono ?_; clear her; rintro e w2 ⟨rfl, hb2⟩; replace hb2 := hb1.trans (hb2.mono hb1.size))
    | (go_at_call 12; refine (hby w2).mono ?_; rintro e w3 ⟨a3, c3, rfl, hy3, hb3⟩)
    | (go_at_call 13; refine (hde w3).mono ?_; rintro e w4 ⟨a4, c4, rfl, hy4, hb4⟩; have hb34 := hb2.trans ((hb3.trans (hb4.mono hb3.size)).mono hb2.size); replace her2 := her2 w4 hb34)
    | (go_at_call 11; refine her2.mono ?_; clear her2; rintro e w5 ⟨rfl, hb5⟩; have hcx := conv_text (hy4.all hb5); have hcc := conv_text ((hy3.all hb4).all hb5)))
  go_ret
  exact ⟨rfl, hb34.trans (hb5.mono hb34.size)⟩

set_option maxRecDepth 100000 in
set_option maxHeartbeats 1000000 in
theorem lettersIs_few_bad (a : Option Addr) (l : List UInt8) (cap : Nat) (s : ByteArray) (w : World) (hg : TypeLaid w) (ha : Bya w a l cap) (h1 : l.length ≤ 2000) (h2 : s.size ≤ 4000) (hx : byo s.data.toList = none) :
    Calls Tryd.prog 4 #[.slice a l.length cap, .string s] w fun e w' => e = .returned (.bool true) ∧ Below w.heap.size w w' := by
  have hen := encode a l cap w ha (by omega)
  have hle := lettersOf a l cap w ha (by omega)
  generalize (⟨(ltrs l).toArray⟩ : ByteArray) = t at hen hle
  have htt : (t.toList == t.toList) = true := beq_self_eq_true _
  have her := fun w1 (h : Below w.heap.size w w1) => error_same 0 w1 (hg.below h)
  have hby := bytesOf s
  rw [hx] at hby
  have hde := decodeBad s (by omega) ((dcd_byo _).trans hx)
  have hcn : ∀ W, (convert 39 9 (.slice none 0 0)).run Tryd.prog W = .ok (.string ⟨#[]⟩) W := fun W => conv_text (W := W) (a := none) (l := []) (cap := 0) (.inl ⟨rfl, fun _ => rfl⟩)
  have her2 := fun w1 (h : Below w.heap.size w w1) => error_same 5 w1 (hg.below h)
  rw [errV_zero] at her
  rw [errV_not (e := 5) (by decide)] at her2
  obtain ⟨len, hlen⟩ : ∃ len, l.length = len := ⟨_, rfl⟩
  rw [hlen] at h1 hen hle ⊢
  clear hlen hg hx ha
  go_enter Tryd.func4, Tryd.ntmps4
  go_wp2_with (first
    | (go_at_call 9; refine hle.mono ?_; rintro e w0 ⟨rfl, rfl⟩)
    | (go_at_call 10; refine hen.mono ?_; rintro e w1 ⟨rfl, hb1⟩; replace her := her w1 hb1)
    | (go_at_call 11; refine her.mono ?_; clear her; rintro e w2 ⟨rfl, hb2⟩; replace hb2 := hb1.trans (hb2.mono hb1.size))
    | (go_at_call 12; refine (hby w2).mono ?_; rintro e w3 ⟨rfl, hb3⟩)
    | (go_at_call 13; refine (hde w3).mono ?_; rintro e w4 ⟨rfl, hb4⟩; have hb34 := hb2.trans ((hb3.trans (hb4.mono hb3.size)).mono hb2.size); replace her2 := her2 w4 hb34)
    | (go_at_call 11; refine her2.mono ?_; clear her2; rintro e w5 ⟨rfl, hb5⟩))
  go_ret
  exact ⟨rfl, hb34.trans (hb5.mono hb34.size)⟩

/-- THE LAW. -/
theorem lettersIs_any (a : Option Addr) (l : List UInt8) (cap : Nat) (s : ByteArray) (w : World) (ha : Bya w a l cap) (hg : TypeLaid w) :
    Calls Tryd.prog 4 #[.slice a l.length cap, .string s] w fun e w' => e = .returned (.bool true) ∧ Below w.heap.size w w' := by
  by_cases h : (2000 < l.length ∧ l.length ≤ 40000) ∨ 4000 < s.size
  · exact lettersIs_out a l cap s w h
  · have h2 : s.size ≤ 4000 := by omega
    rcases (by omega : l.length ≤ 2000 ∨ 40000 < l.length) with h1 | h1
    · cases hx : byo s.data.toList with
      | none => exact lettersIs_few_bad a l cap s w hg ha h1 h2 hx
      | some x => exact lettersIs_few_ok a l cap s w hg ha h1 h2 x hx
    · cases hx : byo s.data.toList with
      | none => exact lettersIs_full_bad a l cap s w hg h1 h2 hx
      | some x => exact lettersIs_full_ok a l cap s w hg h1 h2 x hx

end Go.Proofs.YtgpkggccggdpbafDoor
