/-
  Walk of patch.Diff at two trees that cannot be compared.
-/
import Derived.Test.YtnkdmgekpajfhaeDoorPdf

namespace Go.Proofs.YtnkdmgekpajfhaeDoor
open Go.RowKit Dist

/-- A fault among three numbers, or none. -/
theorem nz_dfs {a b : List Fl} {n : Int} : nz (dfs a b n) = [] ↔ (tf a).2 = 0 ∧ (tf b).2 = 0 ∧ 0 ≤ n ∧ n ≤ 1000 := by
  unfold nz dfs
  rw [List.filter_eq_nil_iff]
  constructor
  · intro h
    have h1 := h (tf a).2 (by simp)
    have h2 := h (tf b).2 (by simp)
    have h3 := h (if n < 0 ∨ 1000 < n then 1 else 0) (by simp)
    simp at h1 h2
    refine ⟨h1, h2, ?_⟩
    by_cases e : n < 0 ∨ 1000 < n
    · rw [if_pos e] at h3; simp at h3
    · omega
  · rintro ⟨h1, h2, h3, h4⟩ x hx
    rw [h1, h2, if_neg (by omega)] at hx
    simp at hx
    simp [hx]

set_option maxHeartbeats 1000000 in
theorem diff_bad (aa ab : Option Addr) (l m : List Fl) (ca cb : Nat) (n : Int) (w : World) (ha : Fls w aa l) (hb : Fls w ab m) (h1 : l.length ≤ maxLen) (h2 : ∀ x ∈ l, x.2.length ≤ maxLen) (h3 : m.length ≤ maxLen) (h4 : ∀ x ∈ m, x.2.length ≤ maxLen) (hne : nz (dfs l m n) ≠ []) :
    Calls Tryd.prog 21 #[.slice aa l.length ca, .slice ab m.length cb, .int .i64 n] w fun e w' => ∃ J v B, e = .returned (.tuple #[.slice none 0 0, .iface 147 (.pointer (some ⟨J, 0, none⟩))]) ∧ Below w.heap.size w w' ∧ w'.cell? ⟨J, 0, none⟩ = some v ∧ w'.ownsRow B 28 1 v (nz (dfs l m n)).length ((nz (dfs l m n)).map errV) := by
  have hck := checkDiffOf aa ab l m ca cb n w ha hb h1 h2 h3 h4
  obtain ⟨D, hD⟩ : ∃ D, nz (dfs l m n) = D := ⟨_, rfl⟩
  obtain ⟨nl, hnl⟩ : ∃ x, l.length = x := ⟨_, rfl⟩
  obtain ⟨nm, hnm⟩ : ∃ x, m.length = x := ⟨_, rfl⟩
  rw [hD, hnl, hnm] at hck
  rw [hD] at hne
  rw [hD, hnl, hnm]
  have HNE : Hid (D ≠ []) := hne
  clear ha hb h1 h2 h3 h4 hne hD hnl hnm
  go_enter Tryd.func21, Tryd.ntmps21
  go_wp2_with (go_at_call 46; refine hck.mono ?_; rintro e w0 ⟨hb0, _, g1⟩; obtain ⟨J, v, B, rfl, q1, q2⟩ := g1 HNE.out; clear g1)
  have Q1 : Hid (w0.cell? ⟨J, 0, none⟩ = some v) := q1
  have Q2 : Hid (w0.ownsRow B 28 1 v D.length (D.map errV)) := q2
  clear hck q1 q2
  go_wp2
  go_ret2
  exact ⟨J, v, B, rfl, hb0, Q1.out, Q2.out⟩

theorem kf_max {p : List Ch} (h : (kf p).2 = 0) : p.length ≤ maxLen ∧ (∀ c ∈ p, c.2.2.length ≤ maxLen) ∧ ∀ c ∈ p, ∀ h ∈ c.2.2, h.2.2.length ≤ maxLen := by
  obtain ⟨k1, _, k3⟩ := kf_zero h
  refine ⟨by unfold maxLen; omega, fun c hc => ?_, fun c hc x hx => ?_⟩
  · have := (hf_good (cOne_zero (k3 c hc)).2.2.1).2.1
    unfold maxLen; omega
  · have := (sf_zero ((hf_good (cOne_zero (k3 c hc)).2.2.1).2.2 x hx).1).1
    unfold maxLen; omega

end Go.Proofs.YtnkdmgekpajfhaeDoor
