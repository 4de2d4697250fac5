/-
  Walk of the document's own answer for a text as hunks.
-/
import Derived.Test.YtjgdicghmkfohacGreatDoorRpt
import Derived.Test.YtjgdicghmkfohacGreatDoorRrd
import Derived.Test.YtjgdicghmkfohacGreatDoorRefH
import Derived.Test.YtjgdicghmkfohacGreatDoorUpb

namespace Go.Proofs.YtjgdicghmkfohacGreatDoor
open Go.RowKit Dist

/-- What is answered of lines that are read from the first one on. -/
def RhP (ls : List (List UInt8)) (B : Nat) (e : Ending) (w' : World) : Prop :=
  (∃ (v : Value) (k : Nat) (ok : Bool), e = .returned (.tuple #[v, .int .i64 k, .bool ok]) ∧ (ok = false ∨ k < ls.length) ∧ (rdl ([], 0, 0) ls 0 = (k, none) ∨ ∃ st : Us, rdl ([], 0, 0) ls 0 = (k, some st) ∧ ¬ (st.2.1 = 0 ∧ st.2.2 = 0))) ∨
  (∃ (v : Value) (l : List Uk), e = .returned (.tuple #[v, .int .i64 ls.length, .bool true]) ∧ rdl ([], 0, 0) ls 0 = (ls.length, some (l, 0, 0)) ∧ Rcl w' B v l ∧ l.length ≤ ls.length ∧ ∀ h ∈ l, h.2.2.length ≤ ls.length)

theorem ust_none {st : Us} {s : List UInt8} (h : st.2.1 = 0 ∧ st.2.2 = 0) (hd : hdo s = none) : ust st s = none := by
  rw [ust_head h.1 h.2, hd]; rfl

theorem RhA.old {ls : List (List UInt8)} {B : Nat} {e : Ending} {w' : World} (h : RhA ls 0 B e w') : RhP ls B e w' := by
  obtain ⟨v, k, ok, st, rfl, hr, h1, h2⟩ := h
  have hrun := hr.run
  by_cases hk : k < ls.length
  · refine .inl ⟨v, k, ok, rfl, .inr hk, .inl ?_⟩
    cases ok with
    | true =>
      obtain ⟨a1, a2, _, a3⟩ := h1 rfl
      exact hrun.bad hk (ust_none ⟨a1, a2⟩ (starts_at (a3 hk)))
    | false =>
      rcases (h2 rfl).2 with ⟨_, a2⟩ | ⟨a1, _, _, a2⟩
      · exact hrun.bad hk (a2 hk)
      · exact hrun.bad hk (ust_none a1 a2)
  · obtain rfl : k = ls.length := by have := hr.2.1; omega
    cases ok with
    | true =>
      obtain ⟨a1, a2, a3, _⟩ := h1 rfl
      obtain ⟨l, b, a⟩ := st
      simp only at a1 a2 a3
      subst a1 a2
      have hok := hrun.ok
      exact .inr ⟨v, l, rfl, hrun.all, a3, hok.2.2.2.1, fun h hh => (hok.2.2.2.2 h hh).2.2.2.2⟩
    | false =>
      rcases (h2 rfl).2 with ⟨a1, _⟩ | ⟨_, a1, _⟩
      · exact .inl ⟨v, _, false, rfl, .inl rfl, .inr ⟨st, hrun.all, a1⟩⟩
      · omega

/-- No text of a mark is longer than that. -/
def Txl (M : Nat) (l : List Uk) : Prop := ∀ h ∈ l, ∀ m ∈ h.2.2, m.2.size ≤ M

theorem ust_txl {M : Nat} {st st' : Us} {s : List UInt8} (h : Txl M st.1) (hs : s.length ≤ M) (hu : ust st s = some st') : Txl M st'.1 := by
  by_cases h0 : st.2.1 = 0 ∧ st.2.2 = 0
  · rw [ust_head h0.1 h0.2] at hu
    cases hd : hdo s with
    | none => rw [hd] at hu; cases hu
    | some x =>
      rw [hd] at hu
      simp only [Option.map_some, Option.some.injEq] at hu
      subst hu
      intro k hk m hm
      rcases List.mem_append.1 hk with hk | hk
      · exact h k hk m hm
      · rw [List.mem_singleton] at hk; subst hk; cases hm
  · cases s with
    | nil => rw [ust_empty h0] at hu; cases hu
    | cons c t =>
      rw [ust_some h0] at hu
      cases hw : wnt c st.2.1 st.2.2 with
      | none => rw [hw] at hu; cases hu
      | some p =>
        rw [hw] at hu
        simp only [Option.map_some, Option.some.injEq] at hu
        subst hu
        rw [List.length_cons] at hs
        intro k hk m hm
        dsimp only at hk
        rcases List.eq_nil_or_concat st.1 with e | ⟨i, z, e⟩
        · rw [e] at hk; simp [psh] at hk
        · rw [List.concat_eq_append] at e
          rw [e, psh_snoc] at hk
          rcases List.mem_append.1 hk with hk | hk
          · exact h k (by rw [e]; exact List.mem_append_left _ hk) m hm
          · rw [List.mem_singleton] at hk
            subst hk
            rcases List.mem_append.1 hm with hm | hm
            · exact h z (by rw [e]; exact List.mem_append_right _ (List.mem_singleton.2 rfl)) m hm
            · rw [List.mem_singleton] at hm; subst hm
              show (bar t).size ≤ M
              rw [bar_size]; omega

theorem rdl_txl {M : Nat} : ∀ (ls : List (List UInt8)) (st : Us) (i k : Nat) (st' : Us), Txl M st.1 → (∀ s ∈ ls, s.length ≤ M) → rdl st ls i = (k, some st') → Txl M st'.1
  | [], st, i, k, st', h, _, hr => by
    simp only [rdl, Prod.mk.injEq, Option.some.injEq] at hr
    rw [← hr.2]; exact h
  | s :: r, st, i, k, st', h, hs, hr => by
    rw [rdl] at hr
    cases hu : ust st s with
    | none => rw [hu] at hr; simp at hr
    | some st2 =>
      rw [hu] at hr
      exact rdl_txl r st2 (i + 1) k st' (ust_txl h (hs s (List.mem_cons_self ..)) hu) (fun x hx => hs x (List.mem_cons_of_mem _ hx)) hr

theorem psr_txl {s : List UInt8} : Txl s.length (psr s).1 := by
  unfold psr
  split
  · intro h hh; cases hh
  · split
    · intro h hh; cases hh
    · rename_i hr
      split
      · split
        · exact rdl_txl _ _ _ _ _ (fun h hh => by cases hh) (fun x hx => parts_mem (List.mem_append_left _ hx)) hr
        · intro h hh; cases hh
      · intro h hh; cases hh

set_option maxRecDepth 100000 in
set_option maxHeartbeats 2000000 in
theorem refOf (s : ByteArray) (w : World) (hs : s.size ≤ maxLen) :
    Calls Tryz.prog 10 #[.string s] w fun e w' => ∃ a cap, e = .returned (.tuple #[.slice a (psr s.data.toList).1.length cap, .int .i64 (psr s.data.toList).2.1, .int .i64 (psr s.data.toList).2.2]) ∧ Hks w' a (psr s.data.toList).1 ∧ Below w.heap.size w w' := by
  unfold maxLen at hs
  by_cases hl : 400000 < s.size
  · rw [psr_long (by rw [← Lib.size_eq]; exact hl)]
    go_enter Tryz.func10, Tryz.ntmps10
    go_wp2
    go_ret3
    exact ⟨none, 0, rfl, Hks.nil _ _, Below.refl _ _⟩
  have hp := partsOf s w (by omega)
  have HL : Hid (¬ 400000 < s.data.toList.length) := by show ¬ 400000 < s.data.toList.length; rw [← Lib.size_eq]; exact hl
  have HBAD : Hid (∀ i, rdl ([], 0, 0) (parts 10 s.data.toList).1 0 = (i, none) → psr s.data.toList = ([], i, 5)) := fun i h => psr_bad HL.out h
  have HOPEN : Hid (∀ i st, rdl ([], 0, 0) (parts 10 s.data.toList).1 0 = (i, some st) → ¬ ((parts 10 s.data.toList).2 = [] ∧ st.2.1 = 0 ∧ st.2.2 = 0) → psr s.data.toList = ([], i, 5)) := fun i st h1 h => psr_open HL.out h1 h
  have HP1 : Hid (∀ i l, rdl ([], 0, 0) (parts 10 s.data.toList).1 0 = (i, some (l, 0, 0)) → (parts 10 s.data.toList).2 = [] → (hf l).2 ≠ 0 → psr s.data.toList = ([], 0, (hf l).2)) := fun i l h1 h2 h => psr_fault HL.out h1 h2 h
  have HP2 : Hid (∀ i l, rdl ([], 0, 0) (parts 10 s.data.toList).1 0 = (i, some (l, 0, 0)) → (parts 10 s.data.toList).2 = [] → (hf l).2 = 0 → psr s.data.toList = (l, 0, 0)) := fun i l h1 h2 h => psr_ok HL.out h1 h2 h
  have HTX : Hid (∀ x ∈ (parts 10 s.data.toList).1, x.length ≤ 400000) := fun x hx => by
    have h1 := parts_mem (List.mem_append_left [(parts 10 s.data.toList).2] hx)
    have h2 := HL.out
    omega
  obtain ⟨P, hP⟩ : ∃ P, psr s.data.toList = P := ⟨_, rfl⟩
  rw [hP] at HBAD HOPEN HP1 HP2
  rw [hP]
  obtain ⟨B, hB⟩ : ∃ B, w.heap.size = B := ⟨_, rfl⟩
  have HB : Hid (w.heap.size = B) := hB
  rw [hB] at hp ⊢
  clear hB hP
  go_enter Tryz.func10, Tryz.ntmps10
  go_wp2_with (go_at_call 32; refine hp.mono ?_)
  rintro e w1 ⟨g, cap, ps, rfl, hpc, hps, hb, hst⟩
  obtain ⟨n, x, hn, hx, hxl, hpt, hpl, hns⟩ := pieces_of hps
  have hc : w1.cell? ⟨g, n, none⟩ = some (.string x) := by
    obtain ⟨b, off, e, hc⟩ := hst n (by omega)
    simp at e
    obtain ⟨rfl, rfl⟩ := e
    rw [Nat.zero_add, hx] at hc
    exact hc
  have hrd0 := refRead _ (ps.take n) cap 0 w1 (hst.upto n) (Nat.zero_le _) (by omega) (fun y hy => by
    have h1 := HTX.out y.data.toList (by rw [← hpt]; exact List.mem_map.2 ⟨y, hy, rfl⟩)
    rw [← Lib.size_eq] at h1; exact h1)
  have hrd := hrd0.mono (R' := fun e w' => RhP (bts (ps.take n)) w1.heap.size e w' ∧ Below w1.heap.size w1 w') fun e w' ⟨h1, h2⟩ => ⟨h1.old, h2⟩
  clear hrd0
  rw [show ((0 : Nat) : Int) = 0 from rfl] at hrd
  obtain ⟨ls, hls⟩ : ∃ ls, (parts 10 s.data.toList).1 = ls := ⟨_, rfl⟩
  have hll : ls.length = n := by rw [← hls, ← hpt, bts_length]; exact hpl
  rw [hpl, hpt, hls] at hrd
  rw [hls] at HBAD HOPEN HP1 HP2 HTX
  rw [← hxl] at HOPEN HP1 HP2
  have HLL : Hid (ls.length = n) := hll
  have hxz : x.size = x.data.toList.length := Lib.size_eq x
  have HXE : Hid (x.data.toList = [] ↔ x.size = 0) := ⟨fun e => by rw [e, List.length_nil] at hxz; exact hxz, fun e => List.length_eq_zero_iff.1 (by omega)⟩
  have hsub : ((n + 1 : Nat) : Int) - 1 = (n : Int) := by omega
  have HB1 : Hid (Below B w w1) := hb
  have hBw1 : B ≤ w1.heap.size := by have := hb.size; have := HB.out; omega
  rw [hn]
  rw [hn] at hpc
  clear hps hx hxl hn hst hpt hpl hls hll hp hb hxz
  go_wp2_with (go_at_call 33; refine hrd.mono ?_)
  rintro e w2 ⟨⟨v, k, ok, rfl, hok, hr⟩ | ⟨v, l, rfl, hr, hcl, hln, hml⟩, hb2⟩
  · have HE : Hid (P = ([], k, 5)) := by
      rcases hr with h | ⟨st, h1, h2⟩
      · exact HBAD.out k h
      · exact HOPEN.out k st h1 fun h => h2 h.2
    have HB2 : Hid (Below B w w2) := HB1.out.trans (hb2.mono hBw1)
    rw [HLL.out] at hok
    clear hr hrd hb2 HBAD HOPEN HP1 HP2
    rcases hok with rfl | hk
    · go_wp2
      go_ret3
      rw [HE.out]
      exact ⟨none, 0, rfl, Hks.nil _ _, HB2.out⟩
    · cases ok
      · go_wp2
        go_ret3
        rw [HE.out]
        exact ⟨none, 0, rfl, Hks.nil _ _, HB2.out⟩
      · have hki : (k : Int) < n := by omega
        go_wp2
        go_ret3
        rw [HE.out]
        exact ⟨none, 0, rfl, Hks.nil _ _, HB2.out⟩
  have hc2 := cell_later hb2 hc
  have HB2 : Hid (Below B w w2) := HB1.out.trans (hb2.mono hBw1)
  have hBw2 : B ≤ w2.heap.size := by have := hb2.size; omega
  have HTL : Hid (Txl 400000 l) := rdl_txl ls _ _ _ _ (fun h hh => by cases hh) HTX.out hr
  replace HP1 := HP1.out _ l hr
  replace HP2 := HP2.out _ l hr
  replace HOPEN := HOPEN.out _ _ hr
  have HP1 : Hid (x.data.toList = [] → (hf l).2 ≠ 0 → P = ([], 0, (hf l).2)) := HP1
  have HP2 : Hid (x.data.toList = [] → (hf l).2 = 0 → P = (l, 0, 0)) := HP2
  have HOPEN : Hid (¬ (x.data.toList = [] ∧ (0 : Nat) = 0 ∧ (0 : Nat) = 0) → P = ([], n, 5)) := by rw [HLL.out] at HOPEN; exact HOPEN
  rename_i HP1' HP2' HOPEN'
  rw [HLL.out] at hln hml ⊢
  clear hr hrd hb2 HBAD HP1' HP2' HOPEN' hc
  have hnn : ¬ (n : Int) < n := by omega
  by_cases hx0 : 0 < (x.size : Int)
  · have HE : Hid (P = ([], n, 5)) := HOPEN.out fun h => by have := HXE.out.1 h.1; omega
    clear hcl hml HP1 HP2 HOPEN
    go_wp2
    go_ret3
    rw [HE.out]
    exact ⟨none, 0, rfl, Hks.nil _ _, HB2.out⟩
  have hxe := HXE.out.2 (by omega)
  have HP1 : Hid ((hf l).2 ≠ 0 → P = ([], 0, (hf l).2)) := HP1.out hxe
  have HP2 : Hid ((hf l).2 = 0 → P = (l, 0, 0)) := HP2.out hxe
  rename_i HP1' HP2'
  clear hxe HP1' HP2' HOPEN
  obtain ⟨m, hm⟩ : ∃ m, l.length = m := ⟨_, rfl⟩
  have HM : Hid (l.length = m) := hm
  obtain ⟨a, cp, rfl, hks⟩ : ∃ a cp, v = .slice a m cp ∧ Hks w2 a l := by
    rcases hcl.cps with ⟨rfl, rfl⟩ | ⟨g, cp, rfl, _, h⟩
    · exact ⟨none, 0, by rw [← hm]; rfl, Hks.nil _ _⟩
    · exact ⟨_, cp, by rw [hm], h.hks.1⟩
  have HKS : Hid (Hks w2 a l) := hks
  have hrf := refHunks a l cp w2 hks (by unfold maxLen; omega) (fun h hh => by have := hml h hh; unfold maxLen; omega) (fun h hh y hy => by have := HTL.out h hh y hy; unfold maxLen; omega)
  rw [hm] at hrf
  clear hcl hm hml hks hln
  by_cases hf0 : (hf l).2 = 0
  · have HE : Hid (P = (l, 0, 0)) := HP2.out hf0
    rw [hf0] at hrf
    obtain ⟨q0, hq0⟩ : ∃ q, (hf l).1 = q := ⟨_, rfl⟩
    rw [hq0] at hrf
    clear hf0 hq0 HP1 HP2
    go_wp2_with (go_at_call 6; refine hrf.mono ?_)
    rintro e w3 ⟨rfl, hb3⟩
    have HB3 : Hid (Below B w w3) := HB2.out.trans (hb3.mono hBw2)
    have HKS3 : Hid (Hks w3 a l) := HKS.out.below hb3
    clear hrf hb3
    go_wp2
    go_ret3
    rw [HE.out]
    exact ⟨a, cp, by rw [HM.out]; rfl, HKS3.out, HB3.out⟩
  · have HE : Hid (P = ([], 0, (hf l).2)) := HP1.out hf0
    obtain ⟨f, hff⟩ : ∃ f, (hf l).2 = f := ⟨_, rfl⟩
    obtain ⟨q0, hq0⟩ : ∃ q, (hf l).1 = q := ⟨_, rfl⟩
    rw [hff] at hrf HE hf0
    rw [hq0] at hrf
    have hfz : (f == 0) = false := by simpa using hf0
    clear hff hq0 HP1 HP2 hf0
    go_wp2_with (go_at_call 6; refine hrf.mono ?_)
    rintro e w3 ⟨rfl, hb3⟩
    have HB3 : Hid (Below B w w3) := HB2.out.trans (hb3.mono hBw2)
    clear hrf hb3
    go_wp2
    go_ret3
    rw [HE.out]
    exact ⟨none, 0, rfl, Hks.nil _ _, HB3.out⟩

end Go.Proofs.YtjgdicghmkfohacGreatDoor
