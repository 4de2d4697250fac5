/-
  Walk of S.Mails at two lists of the same mails.
-/
import Derived.Test.YtppmpofdhkgjmafDoorMla
import Derived.Laws.BytesArg

namespace Go.Proofs.YtppmpofdhkgjmafDoor
open Go.RowKit Dist

/-- Bytes as a text. -/
theorem conv_txt {W : World} {a : Option Addr} {l : List UInt8} {cap : Nat} (h : Bya W a l cap) : (convert 39 9 (.slice a l.length cap)).run Tryd.prog W = .ok (.string ⟨l.toArray⟩) W := by
  rcases h with ⟨h0, _⟩ | ⟨b, off, rfl, _, hb⟩
  · obtain rfl : l = [] := List.length_eq_zero_iff.1 h0
    show (convert 39 9 (.slice a 0 cap)).run Tryd.prog W = .ok (.string ⟨#[]⟩) W
    rw [run_convert_bytes_string W 39 9 5 a 0 cap Tryd.underlying39 Tryd.underlying5 Tryd.underlying9]
    cases a with
    | none => simp [Conv.bytesToString]; rfl
    | some x =>
      rw [run_bytesToString W x 0 cap [] (by simpa using run_loadCells_list (P := Tryd.prog) W x [] (by simp))]; rfl
  · refine run_convert_bytes_back W 39 9 5 ⟨b, off, none⟩ cap l Tryd.underlying39 Tryd.underlying5 Tryd.underlying9 fun j hj => ?_
    have := hb.get j (.int .u8 (l[j].toNat : Int)) (by simp [u8s, hj])
    exact this

set_option maxRecDepth 100000 in
set_option maxHeartbeats 2000000 in
theorem mails_eq (a b : Option Addr) (l : List Mb) (ca cb : Nat) (w : World) (ha : Mls w a l) (hb : Mls w b l) (hm : l.length ≤ maxLen) :
    Calls Tryd.prog 22 #[.slice a l.length ca, .slice b l.length cb] w fun e w' => e = .returned (.bool true) ∧ Below w.heap.size w w' := by
  unfold maxLen at hm
  obtain ⟨n, hn⟩ : ∃ n, l.length = n := ⟨_, rfl⟩
  rw [hn] at hm ⊢
  have HN : Hid (l.length = n) := hn
  have HA : Hid (Mls w a l) := ha
  have HBB : Hid (Mls w b l) := hb
  clear hn ha hb
  go_enter Tryd.func22, Tryd.ntmps22
  go_wp2
  go_loopw [5] (fun i w1 => ∃ k : Nat, k ≤ n ∧ i = .int .i64 k ∧ Hid (Below w.heap.size w w1)) (fun i _ => n - (intOf i).toNat)
  case atStart => exact ⟨0, Nat.zero_le _, rfl, Below.refl _ _⟩
  case round =>
    obtain ⟨k, hk, rfl, HBL⟩ := hrel
    by_cases hlt : k < n
    · have hlt' : (k : Int) < (n : Int) := by omega
      have ha := HA.out
      have hb := HBB.out
      have hkl : k < l.length := by rw [HN.out]; exact hlt
      obtain ⟨b1, o1, rfl⟩ := ha.addr hkl
      obtain ⟨b2, o2, rfl⟩ := hb.addr hkl
      obtain ⟨am1, cm1, c0, c1, c2, c3, hy1⟩ := (ha.all HBL.out).at hkl
      obtain ⟨am2, cm2, d0, d1, d2, d3, hy2⟩ := (hb.all HBL.out).at hkl
      clear ha hb
      obtain ⟨f, hf⟩ : ∃ f, (l.getD k mz).1 = f := ⟨_, rfl⟩
      obtain ⟨s, hs⟩ : ∃ s, (l.getD k mz).2.1 = s := ⟨_, rfl⟩
      obtain ⟨d, hd⟩ : ∃ d, (l.getD k mz).2.2.1 = d := ⟨_, rfl⟩
      obtain ⟨x, hx⟩ : ∃ x, (l.getD k mz).2.2.2 = x := ⟨_, rfl⟩
      rw [hf] at c0 d0
      rw [hs] at c1 d1
      rw [hd] at c2 d2
      rw [hx] at c3 d3 hy1 hy2
      have v1 := fun nq => conv_txt (hy1.all (below_drawn (q := nq) (Below.refl _ wr)))
      have v2 := fun nq => conv_txt (hy2.all (below_drawn (q := nq) (Below.refl _ wr)))
      obtain ⟨X, hX⟩ : ∃ X : ByteArray, (⟨x.toArray⟩ : ByteArray) = X := ⟨_, rfl⟩
      obtain ⟨m, hm2⟩ : ∃ m, x.length = m := ⟨_, rfl⟩
      rw [hm2] at c3 d3
      simp only [hX, hm2] at v1 v2
      have e1 : (f.toList == f.toList) = true := beq_self_eq_true _
      have e2 : (s.toList == s.toList) = true := beq_self_eq_true _
      have e3 : (d.toList == d.toList) = true := beq_self_eq_true _
      have e4 : (X.toList == X.toList) = true := beq_self_eq_true _
      clear hf hs hd hx hX hm2 hy1 hy2 hkl
      go_wp2
      go_quiet (fail)
      go_wp2
      go_roundw
      case rel => exact ⟨k + 1, by omega, by simp, below_drawn HBL.out⟩
      case measure => simp [intOf]; omega
    · have hlt' : ¬ (k : Int) < (n : Int) := by omega
      go_wp2
      go_ret
      exact ⟨rfl, HBL.out⟩

end Go.Proofs.YtppmpofdhkgjmafDoor
