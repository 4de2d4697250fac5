/-
  Walk of the document's own answer for a text as a patch.
-/
import Derived.Test.YtjgdicghmkfohadGreatDoorXq
import Derived.Test.YtjgdicghmkfohadGreatDoorRrd
import Derived.Test.YtjgdicghmkfohadGreatDoorRkf
import Derived.Test.YtjgdicghmkfohadGreatDoorXb
import Derived.Deep.CutRange
namespace Go.Proofs.YtjgdicghmkfohadGreatDoor
open Go.RowKit Dist

theorem drop_extract (s : ByteArray) : s.extract 6 s.size = bar (s.data.toList.drop 6) := by
  rw [← data_bar (s.extract 6 s.size), extract_list, List.take_of_length_le (by rw [← Lib.size_eq]; exact Nat.le_refl _)]

theorem pre_six {s : List UInt8} {p : List UInt8} (hp : p.length = 6) (h : Lib.hasPrefix s p = true) : 6 ≤ s.length := by
  have := congrArg List.length ((pre_iff s p).1 h)
  rw [List.length_append, hp] at this
  omega

theorem rhd_edit {L1 L2 : List UInt8} (h1 : Lib.hasPrefix L1 gA = true) (h2 : Lib.hasPrefix L2 gB = true) (h3 : L1.drop 6 = L2.drop 6) : rhd L1 L2 = some (1, L1.drop 6) := by
  unfold rhd; rw [if_pos h1, if_pos h2, if_pos h3]

theorem rhd_apart {L1 L2 : List UInt8} (h1 : Lib.hasPrefix L1 gA = true) (h2 : Lib.hasPrefix L2 gB = true) (h3 : ¬ L1.drop 6 = L2.drop 6) : rhd L1 L2 = none := by
  unfold rhd; rw [if_pos h1, if_pos h2, if_neg h3]

theorem rhd_wipe {L1 L2 : List UInt8} (h1 : Lib.hasPrefix L1 gA = true) (h2 : ¬ Lib.hasPrefix L2 gB = true) (h3 : L2 = gBn) : rhd L1 L2 = some (3, L1.drop 6) := by
  unfold rhd; rw [if_pos h1, if_neg h2, if_pos h3]

theorem rhd_other {L1 L2 : List UInt8} (h1 : Lib.hasPrefix L1 gA = true) (h2 : ¬ Lib.hasPrefix L2 gB = true) (h3 : ¬ L2 = gBn) : rhd L1 L2 = none := by
  unfold rhd; rw [if_pos h1, if_neg h2, if_neg h3]

theorem rhd_make {L1 L2 : List UInt8} (h1 : ¬ Lib.hasPrefix L1 gA = true) (h2 : Lib.hasPrefix L2 gB = true) (h3 : L1 = gAn) : rhd L1 L2 = some (2, L2.drop 6) := by
  unfold rhd; rw [if_neg h1, if_pos ⟨h2, h3⟩]

theorem rhd_not {L1 L2 : List UInt8} (h1 : ¬ Lib.hasPrefix L1 gA = true) (h2 : ¬ (Lib.hasPrefix L2 gB = true ∧ L1 = gAn)) : rhd L1 L2 = none := by
  unfold rhd; rw [if_neg h1, if_neg h2]

/-- What lines are of a patch, if the document says it. -/
def GoP (s : List UInt8) (e : Ending) (w' : World) : Prop :=
  ∃ a cap, e = .returned (.tuple #[.slice a (gps s).1.length cap, .int .i64 (gps s).2]) ∧ Chs w' a (gps s).1

theorem RunA.rd {ls : List (List UInt8)} {A k : Nat} {l : List Uk} (h : RunA ls A k (l, 0, 0)) (hp : k < ls.length → Lib.hasPrefix (ls.getD k []) [64, 64] = false) : rdm ([], 0, 0) (ls.drop A) 0 = (k - A, (l, 0, 0)) :=
  h.stop fun hk => by unfold ust; rw [if_pos ⟨rfl, rfl⟩, starts_at (hp hk)]; rfl

/-- A reading of hunks that ends in a fault. -/
theorem Grn.flaw {ls : List (List UInt8)} {k j : Nat} {p : List Ch} {st : Us} (h : Grn ls k p) (hk : k + 1 < ls.length) (hr : RunA ls (k + 2) j st)
    (hf : (¬ (st.2.1 = 0 ∧ st.2.2 = 0) ∧ (j < ls.length → ust st (ls.getD j []) = none)) ∨ ((st.2.1 = 0 ∧ st.2.2 = 0) ∧ j < ls.length ∧ Lib.hasPrefix (ls.getD j []) [64, 64] = true ∧ hdo (ls.getD j []) = none)) : gRd ls.length ls = none := by
  rcases hf with ⟨h1, h2⟩ | ⟨h1, h2, h3, h4⟩
  · exact h.open hk (hr.stop h2) h1
  · obtain ⟨l, b, a⟩ := st
    simp only at h1
    obtain ⟨rfl, rfl⟩ := h1
    have hs := hr.stop (fun _ => by unfold ust; rw [if_pos ⟨rfl, rfl⟩, h4]; rfl)
    have hj := hr.1
    exact h.at hk hs (by omega) (by rw [show k + 2 + (j - (k + 2)) = j by omega]; exact h3)

set_option maxRecDepth 100000 in
set_option maxHeartbeats 4000000 in
theorem refPOf (s : ByteArray) (w : World) (hs : s.size ≤ maxLen) :
    Calls Tryz.prog 9 #[.string s] w fun e w' => GoP s.data.toList e w' ∧ Below w.heap.size w w' := by
  unfold maxLen at hs
  by_cases hl : 400000 < s.size
  · unfold GoP
    rw [gps_long (by rw [← Lib.size_eq]; exact hl)]
    go_enter Tryz.func9, Tryz.ntmps9
    go_wp2
    go_ret2
    exact ⟨⟨none, 0, rfl, Chs.nil _ _⟩, Below.refl _ _⟩
  have hp := partsOf s w (by omega)
  obtain ⟨i0, hi0, hz0, hz1, hz2⟩ := info_parts Tryz.infoChange
  have HL : Hid (¬ 400000 < s.data.toList.length) := by show ¬ 400000 < s.data.toList.length; rw [← Lib.size_eq]; exact hl
  have HTX : Hid (∀ x ∈ (parts 10 s.data.toList).1, x.length ≤ 400000) := fun x hx => by
    have h1 := parts_mem (List.mem_append_left [(parts 10 s.data.toList).2] hx)
    have h2 := HL.out
    omega
  have PT : Hid ((parts 10 s.data.toList).2 ≠ [] → gps s.data.toList = ([], 5)) := gps_tail
  have PN : Hid (gRd (parts 10 s.data.toList).1.length (parts 10 s.data.toList).1 = none → gps s.data.toList = ([], 5)) := gps_none
  have PS : Hid (∀ p, (parts 10 s.data.toList).2 = [] → gRd (parts 10 s.data.toList).1.length (parts 10 s.data.toList).1 = some p → gps s.data.toList = if (kf p).2 = 0 then (p, 0) else ([], (kf p).2)) := fun p h1 h2 => gps_some HL.out h1 h2
  have HBD : Hid (∀ p, gRd (parts 10 s.data.toList).1.length (parts 10 s.data.toList).1 = some p → p.length ≤ 400000 ∧ ∀ c ∈ p, c.2.2.length ≤ 400000 ∧ ∀ x ∈ c.2.2, x.2.2.length ≤ 400000 ∧ ∀ m ∈ x.2.2, m.2.size ≤ 400000) := fun p hp => by
    have hle : (parts 10 s.data.toList).1.length ≤ 400000 := by
      rw [parts_count]
      have := List.count_le_length (a := (10 : UInt8)) (l := s.data.toList)
      have := HL.out
      omega
    obtain ⟨b1, b2⟩ := lnp_bounds (M := s.data.toList.length) (gRd_lines _ _ _ hp).1 (fun x hx => parts_mem (List.mem_append_left _ hx))
    have hl := HL.out
    exact ⟨by omega, fun c hc => ⟨by have := (b2 c hc).1; omega, fun x hx => ⟨by have := ((b2 c hc).2 x hx).1; omega, fun m hm => by have := ((b2 c hc).2 x hx).2 m hm; omega⟩⟩⟩
  obtain ⟨B, hB⟩ : ∃ B, w.heap.size = B := ⟨_, rfl⟩
  have HB : Hid (w.heap.size = B) := hB
  rw [hB] at hp ⊢
  obtain ⟨P, hP⟩ : ∃ P : Ending → World → Prop, GoP s.data.toList = P := ⟨_, rfl⟩
  have PF : Hid (∀ w', gps s.data.toList = ([], 5) → P (.returned (.tuple #[.slice none 0 0, .int .i64 5])) w') := fun w' h => by rw [← hP]; unfold GoP; rw [h]; exact ⟨none, 0, rfl, Chs.nil _ _⟩
  have PK : Hid (∀ w' f, gps s.data.toList = ([], f) → P (.returned (.tuple #[.slice none 0 0, .int .i64 f])) w') := fun w' f h => by rw [← hP]; unfold GoP; rw [h]; exact ⟨none, 0, rfl, Chs.nil _ _⟩
  have PG : Hid (∀ a c p w', gps s.data.toList = (p, 0) → Chs w' a p → P (.returned (.tuple #[.slice a p.length c, .int .i64 0])) w') := fun a c p w' h h2 => by rw [← hP]; unfold GoP; rw [h]; exact ⟨a, c, rfl, h2⟩
  rw [hP]
  clear hB hP
  go_enter Tryz.func9, Tryz.ntmps9
  go_wp2_with (go_at_call 23; refine hp.mono ?_)
  rintro e w1 ⟨g, cap, ps, rfl, hpc, hps, hb, hst⟩
  obtain ⟨n, x, hn, hx, hxl, hpt, hpl, hns⟩ := pieces_of hps
  have hc : w1.cell? ⟨g, n, none⟩ = some (.string x) := by
    obtain ⟨b, off, e, hc⟩ := hst n (by omega)
    simp at e
    obtain ⟨rfl, rfl⟩ := e
    rw [Nat.zero_add, hx] at hc
    exact hc
  obtain ⟨ls, hls⟩ : ∃ ls, (parts 10 s.data.toList).1 = ls := ⟨_, rfl⟩
  have HLL : Hid (ls.length = n) := by show ls.length = n; rw [← hls, ← hpt, bts_length]; exact hpl
  obtain ⟨qs, hqs⟩ : ∃ qs, ps.take n = qs := ⟨_, rfl⟩
  have hst2 := hst.upto n
  rw [hqs] at hpt hpl hst2
  have HQ : Hid (Strs w1 (some ⟨g, 0, none⟩) qs) := hst2
  have HQL : Hid (qs.length = n) := hpl
  have HQB : Hid (bts qs = ls) := by show bts qs = ls; rw [hpt, hls]
  have HQS : Hid (∀ y ∈ qs, y.size ≤ 400000) := fun y hy => by
    have h1 := HTX.out y.data.toList (by rw [← hpt]; exact List.mem_map.2 ⟨y, hy, rfl⟩)
    rw [← Lib.size_eq] at h1; exact h1
  have HAT : Hid (∀ i, i < n → w1.cell? ⟨g, i, none⟩ = some (.string (qs.getD i ByteArray.empty)) ∧ (qs.getD i ByteArray.empty).data.toList = ls.getD i [] ∧ (qs.getD i ByteArray.empty).size ≤ 400000) := fun i hi => by
    have hi' : i < qs.length := by rw [hpl]; exact hi
    obtain ⟨b, off, e, hc⟩ := hst2 i hi'
    simp only [Option.some.injEq, Addr.mk.injEq, and_true] at e
    obtain ⟨rfl, rfl⟩ := e
    rw [Nat.zero_add] at hc
    refine ⟨hc, ?_, HQS.out _ ?_⟩
    · rw [← HQB.out]; unfold bts; simp [hi']
    · have e : qs.getD i ByteArray.empty = qs[i] := by simp [hi']
      rw [e]; exact List.getElem_mem _
  rw [hls] at PN PS HBD
  rw [← hxl] at PT PS
  have hxz : x.size = x.data.toList.length := Lib.size_eq x
  have HXE : Hid (x.data.toList = [] ↔ x.size = 0) := ⟨fun e => by rw [e, List.length_nil] at hxz; exact hxz, fun e => List.length_eq_zero_iff.1 (by omega)⟩
  have HB1 : Hid (Below B w w1) := hb
  have hBw1 : B ≤ w1.heap.size := by have := hb.size; have := HB.out; omega
  have hn4 : n ≤ 400000 := by omega
  rw [hn] at hpc ⊢
  clear hps hx hxl hn hst hst2 hpt hpl hls hp hb hqs hxz
  by_cases hx0 : 0 < (x.size : Int)
  · have HE : Hid (gps s.data.toList = ([], 5)) := PT.out (fun h => by have := HXE.out.1 h; omega)
    clear PN PS PT PG PK
    go_wp2
    go_ret2
    exact ⟨PF.out _ HE.out, HB1.out⟩
  have HXN : Hid (x.data.toList = []) := HXE.out.2 (by omega)
  have hxz0 : x.size = 0 := by omega
  clear hx0
  obtain ⟨R, hR⟩ : ∃ R, w1.heap.size = R := ⟨_, rfl⟩
  have HR : Hid (w1.heap.size = R) := hR
  have hBR : B ≤ R := by omega
  clear PT hR HXE
  go_wp2
  go_loopw [6, 7] (fun v i wr => ∃ (k : Nat) (p : List Ch), k ≤ n ∧ i = .int .i64 k ∧ Grn ls k p ∧ DOwn wr R v p ∧ Below R w1 wr ∧ p.length ≤ k) (fun _ i _ => n - (intOf i).toNat)
  case atStart => exact ⟨0, [], Nat.zero_le _, rfl, Grn.zero ls, DOwn.zero _ _, Below.refl _ _, Nat.le_refl _⟩
  case round =>
    obtain ⟨k, p, hk, rfl, hgr, hdo, hbl, hpk⟩ := hrel
    have HGR : Hid (Grn ls k p) := hgr
    have HDO : Hid (DOwn wr R u6 p) := hdo
    have HBL : Hid (Below R w1 wr) := hbl
    have HBW : Hid (Below B w wr) := HB1.out.trans (hbl.mono hBR)
    have hRw : R ≤ wr.heap.size := by have := hbl.size; have := HR.out; omega
    obtain ⟨va, vn, vc, rfl⟩ := hdo.slc
    clear hgr hdo hbl
    by_cases hlt : k < n
    case' neg =>
      obtain rfl : k = n := by omega
      have hall : gRd ls.length ls = some p := by
        have h1 := HGR.out
        rw [← HLL.out] at h1
        exact h1.all
      have hpe := PS.out p HXN.out hall
      obtain ⟨b1, b2⟩ := HBD.out p hall
      obtain ⟨a', cap', e', hch, _⟩ := HDO.out.chs
      simp only [Value.slice.injEq] at e'
      obtain ⟨rfl, rfl, rfl⟩ := e'
      have hrf := patchFault va p vc wr hch (by unfold maxLen; omega) (fun c hc => by have := (b2 c hc).1; unfold maxLen; omega) (fun c hc x hx => by have := ((b2 c hc).2 x hx).1; unfold maxLen; omega) (fun c hc x hx m hm => by have := ((b2 c hc).2 x hx).2 m hm; unfold maxLen; omega)
      have HCH : Hid (Chs wr va p) := hch
      obtain ⟨q0, hq0⟩ : ∃ q, (kf p).1 = q := ⟨_, rfl⟩
      obtain ⟨m, hm⟩ : ∃ m, p.length = m := ⟨_, rfl⟩
      have HM : Hid (p.length = m) := hm
      have HPG := fun w' (h : gps s.data.toList = (p, 0)) (h2 : Chs w' va p) => PG.out va vc p w' h h2
      rw [hm] at HPG hrf
      rw [hq0] at hrf
      rw [hm]
      have hBw : B ≤ wr.heap.size := by omega
      clear hall b1 b2 hch hq0 hm PG PS PN PF
      by_cases hf0 : (kf p).2 = 0
      · rw [if_pos hf0] at hpe
        have HE : Hid (gps s.data.toList = (p, 0)) := hpe
        rw [hf0] at hrf
        clear hpe hf0
        go_wp2_with (go_at_call 5; refine hrf.mono ?_)
        rintro e w2 ⟨rfl, hb2⟩
        have HC2 : Hid (Chs w2 va p) := HCH.out.below hb2
        have hb2 := HBW.out.trans (hb2.mono hBw)
        clear hrf
        go_wp2
        go_ret2
        exact ⟨HPG _ HE.out HC2.out, hb2⟩
      · rw [if_neg hf0] at hpe
        obtain ⟨f, hff⟩ : ∃ f, (kf p).2 = f := ⟨_, rfl⟩
        rw [hff] at hrf hpe hf0
        have HE : Hid (gps s.data.toList = ([], f)) := hpe
        have hfz : (f == 0) = false := by simpa using hf0
        clear hpe hf0 hff
        go_wp2_with (go_at_call 5; refine hrf.mono ?_)
        rintro e w2 ⟨rfl, hb2⟩
        have hb2 := HBW.out.trans (hb2.mono hBw)
        clear hrf
        go_wp2
        go_ret2
        exact ⟨PK.out _ f HE.out, hb2⟩
    by_cases hl2 : k + 1 < n
    case' neg =>
      have HE : Hid (gps s.data.toList = ([], 5)) := PN.out (HGR.out.short (by have := HLL.out; omega))
      have h1 : (n : Int) ≤ (k : Int) + 1 := by omega
      clear PN PS PG PK
      go_wp2
      go_ret2
      exact ⟨PF.out _ HE.out, HBW.out⟩
    obtain ⟨hca, hda, hsa⟩ := HAT.out k hlt
    obtain ⟨hcb, hdb, hsb⟩ := HAT.out (k + 1) hl2
    replace hca := cell_later (by rw [HR.out]; exact HBL.out) hca
    replace hcb := cell_later (by rw [HR.out]; exact HBL.out) hcb
    obtain ⟨ya, hya⟩ : ∃ y, qs.getD k ByteArray.empty = y := ⟨_, rfl⟩
    obtain ⟨yb, hyb⟩ : ∃ y, qs.getD (k + 1) ByteArray.empty = y := ⟨_, rfl⟩
    rw [hya] at hca hda hsa
    rw [hyb] at hcb hdb hsb
    have hsta := fun w => starts ya ⟨#[45, 45, 45, 32, 97, 47]⟩ w
    have hstb := fun w => starts yb ⟨#[43, 43, 43, 32, 98, 47]⟩ w
    rw [show (ByteArray.mk #[45, 45, 45, 32, 97, 47]).data.toList = gA from rfl, hda] at hsta
    rw [show (ByteArray.mk #[43, 43, 43, 32, 98, 47]).data.toList = gB from rfl, hdb] at hstb
    have hxa := drop_extract ya
    have hxb := drop_extract yb
    rw [hda] at hxa
    rw [hdb] at hxb
    have hta : ya.toList = ls.getD k [] := by rw [Lib.toList_data]; exact hda
    have htb : yb.toList = ls.getD (k + 1) [] := by rw [Lib.toList_data]; exact hdb
    have h6a : Lib.hasPrefix (ls.getD k []) gA = true → (6 : Int) ≤ ya.size := fun h => by
      have := pre_six rfl h
      rw [← hda, ← Lib.size_eq] at this; omega
    have h6b : Lib.hasPrefix (ls.getD (k + 1) []) gB = true → (6 : Int) ≤ yb.size := fun h => by
      have := pre_six rfl h
      rw [← hdb, ← Lib.size_eq] at this; omega
    have HGH : Hid (rhd (ls.getD k []) (ls.getD (k + 1) []) = none → gps s.data.toList = ([], 5)) := fun h => PN.out (HGR.out.head (by have := HLL.out; omega) h)
    have HRH : Hid (∀ L1 L2, ls.getD k [] = L1 → ls.getD (k + 1) [] = L2 → rhd (ls.getD k []) (ls.getD (k + 1) []) = rhd L1 L2) := fun L1 L2 h1 h2 => by rw [h1, h2]
    obtain ⟨L1, hL1⟩ : ∃ L, ls.getD k [] = L := ⟨_, rfl⟩
    obtain ⟨L2, hL2⟩ : ∃ L, ls.getD (k + 1) [] = L := ⟨_, rfl⟩
    have HRH2 : Hid (rhd (ls.getD k []) (ls.getD (k + 1) []) = rhd L1 L2) := HRH.out L1 L2 hL1 hL2
    rw [hL1] at hsta hxa hta h6a
    rw [hL2] at hstb hxb htb h6b
    have hl2' : ¬ (n : Int) ≤ (k : Int) + 1 := by omega
    have hl2'' : (k : Int) + 1 < n := by omega
    clear hya hyb hda hdb HRH hL1 hL2
    have hb0 := below_alloc wr (.cells #[.int .i64 1, .string ⟨#[]⟩, .slice none 0 0] 40)
    have HBK : Hid ((wr.alloc (.cells #[.int .i64 1, .string ⟨#[]⟩, .slice none 0 0] 40)).heap[wr.heap.size]? = some (.cells #[.int .i64 1, .string ⟨#[]⟩, .slice none 0 0] 40 (0, 0))) := heap_alloc_new wr _
    have HB0 : Hid (Below wr.heap.size wr (wr.alloc (.cells #[.int .i64 1, .string ⟨#[]⟩, .slice none 0 0] 40))) := hb0
    have HS0 : Hid (wr.heap.size < (wr.alloc (.cells #[.int .i64 1, .string ⟨#[]⟩, .slice none 0 0] 40)).heap.size) := by show wr.heap.size < (wr.alloc (.cells #[.int .i64 1, .string ⟨#[]⟩, .slice none 0 0] 40)).heap.size; simp
    clear hb0
    by_cases hp1 : Lib.hasPrefix L1 gA = true
    · have h6 := h6a hp1
      rw [hp1] at hsta
      have ha1 : (ya.toList == [45, 45, 45, 32, 47, 100, 101, 118, 47, 110, 117, 108, 108]) = false := by
        rw [hta, beq_eq_false_iff_ne]; intro e; rw [e] at hp1; revert hp1; decide
      by_cases hp2 : Lib.hasPrefix L2 gB = true
      · have h7 := h6b hp2
        rw [hp2] at hstb
        by_cases heq : L1.drop 6 = L2.drop 6
        · have hcmp : ((bar (L1.drop 6)).toList == (bar (L2.drop 6)).toList) = true := by rw [heq]; simp
          have HRE : Hid (rhd L1 L2 = some (1, L1.drop 6)) := rhd_edit hp1 hp2 heq
          clear h6a h6b hta htb
          clear heq hp1 hp2
          go_wp2_with (go_at_call 24; first | (with_reducible refine (hsta _).mono ?_; rintro e w' ⟨rfl, hw⟩; rw [hw]; clear hw) | (with_reducible refine (hstb _).mono ?_; rintro e w' ⟨rfl, hw⟩; rw [hw]; clear hw))
          have HHH : Hid (rhd (ls.getD k []) (ls.getD (k + 1) []) = some (1, L1.drop 6)) := by show rhd (ls.getD k []) (ls.getD (k + 1) []) = some (1, L1.drop 6); rw [HRH2.out]; exact HRE.out
          clear hsta hstb HGH HRH2
          go_quiet (fail)
          go_wp2_with fail

          have hb1 : Below wr.heap.size wr ((wr.alloc (.cells #[.int .i64 1, .string ⟨#[]⟩, .slice none 0 0] 40)).drewN nq) := below_drawn HB0.out
          have hblk1 : ((wr.alloc (.cells #[.int .i64 1, .string ⟨#[]⟩, .slice none 0 0] 40)).drewN nq).heap[wr.heap.size]? = some (.cells #[.int .i64 1, .string ⟨#[]⟩, .slice none 0 0] 40 (0, 0)) := blk_below (below_drawn (Below.refl _ _)) HS0.out HBK.out
          generalize (wr.alloc (.cells #[.int .i64 1, .string ⟨#[]⟩, .slice none 0 0] 40)).drewN nq = W0 at hb1 hblk1 ⊢
          have hblk3 := blk_set (i := 1) hblk1 (.string (bar (L1.drop 6)))
          have hb3 : Below wr.heap.size wr (W0.setCell ⟨wr.heap.size, 1, none⟩ (.string (bar (L1.drop 6)))) := hb1.setCell (p := ⟨wr.heap.size, 1, none⟩) (Nat.le_refl _) _
          simp at hblk3
          clear hb1 hblk1
          generalize W0.setCell ⟨wr.heap.size, 1, none⟩ (.string (bar (L1.drop 6))) = W at hb3 hblk3 ⊢
          obtain ⟨X, hX⟩ : ∃ X, bar (L1.drop 6) = X := ⟨_, rfl⟩
          have HNX : Hid (∀ j l, rdm ([], 0, 0) (ls.drop (k + 2)) 0 = (j, (l, 0, 0)) → Grn ls (k + 2 + j) (p ++ [(1, X, l)])) := fun j l h => by have := HGR.out.next (by rw [HLL.out]; exact hl2) HHH.out h; rw [hX] at this; exact this
          rw [hX] at hblk3
          try rw [hX]
          clear hX HHH
          have hCW : wr.heap.size < W.heap.size := by
            by_cases e : wr.heap.size < W.heap.size
            · exact e
            · rw [Array.getElem?_eq_none (by omega)] at hblk3; cases hblk3
          have HBLK : Hid (W.heap[wr.heap.size]? = some (.cells #[.int .i64 1, .string X, .slice none 0 0] 40 (0, 0))) := hblk3
          have HBLW : Hid (Below R w1 W) := HBL.out.trans (hb3.mono hRw)
          have HBW3 : Hid (Below wr.heap.size wr W) := hb3
          have hrd := refRead (some ⟨g, 0, none⟩) qs cap (k + 2) W (HQ.out.below (by rw [HR.out]; exact HBLW.out)) (by rw [HQL.out]; omega) (by rw [HQL.out]; omega) HQS.out
          rw [HQB.out, HQL.out, show ((k + 2 : Nat) : Int) = (k : Int) + 2 by omega] at hrd
          clear hca hcb hxa hxb hb3 hblk3 HAT HBK HB0 HS0
          go_wp2_with (go_at_call 25; refine hrd.mono ?_)
          rintro e w2 ⟨⟨v, j, ok, st, rfl, hra, hok, hno⟩, hb2⟩
          have HB2 : Hid (Below wr.heap.size wr w2) := HBW3.out.trans (hb2.mono (Nat.le_of_lt hCW))
          clear hrd
          cases ok with
          | false =>
            have HE : Hid (gps s.data.toList = ([], 5)) := PN.out (HGR.out.flaw (by rw [HLL.out]; exact hl2) hra (hno rfl).2)
            have hbe := HBW.out.trans (HB2.out.mono (by have := HB.out; have := HBW.out.size; omega))
            clear hra hok hno PS PG PK PN HBD
            go_wp2
            go_ret2
            exact ⟨PF.out _ HE.out, hbe⟩
          | true =>
            obtain ⟨e1, e2, hcl, hpx⟩ := hok rfl
            obtain ⟨l, b2, a2⟩ := st
            simp only at e1 e2 hcl
            subst e1 e2
            have hj1 : k + 2 ≤ j := hra.1
            have hj2 : j ≤ n := by have := hra.2.1; rw [HLL.out] at this; exact this
            have hgn := HNX.out _ _ (hra.rd hpx)
            rw [show k + 2 + (j - (k + 2)) = j by omega] at hgn
            have HGN : Hid (Grn ls j (p ++ [(1, X, l)])) := hgn
            obtain ⟨ah, ch, rfl, _, hlc⟩ := hcl.lie
            have hblk4 := blk_below hb2 hCW HBLK.out
            have hC2 : wr.heap.size < w2.heap.size := Nat.lt_of_lt_of_le hCW hb2.size
            have hf2 := Lib.frozen_of_heap hblk4 2
            have c2 := Lib.cell_of_heap hblk4 2
            simp at c2
            have hblk5 := blk_set (i := 2) hblk4 (.slice ah l.length ch)
            simp at hblk5
            have q0 := Lib.cell_of_heap hblk5 0
            have q1 := Lib.cell_of_heap hblk5 1
            have q2 := Lib.cell_of_heap hblk5 2
            simp at q0 q1 q2
            have hb5 : Below wr.heap.size wr (w2.setCell ⟨wr.heap.size, 2, none⟩ (.slice ah l.length ch)) := HB2.out.setCell (p := ⟨wr.heap.size, 2, none⟩) (Nat.le_refl _) _
            have hcl5 := hcl.gr (gr_put w2 wr.heap.size 2 (.slice ah l.length ch)) (fun r hr => by have := Option.some.inj hr; omega)
            have hs5 : (w2.setCell ⟨wr.heap.size, 2, none⟩ (.slice ah l.length ch)).heap.size = w2.heap.size := by simp
            have HCL5 : Hid (Rcl (w2.setCell ⟨wr.heap.size, 2, none⟩ (.slice ah l.length ch)) W.heap.size (.slice ah l.length ch) l) := hcl5
            have hba := below_alloc (w2.setCell ⟨wr.heap.size, 2, none⟩ (.slice ah l.length ch)) (.cells #[.int .i64 1, .string X, .slice ah l.length ch] 40)
            have hdo := (HDO.out.below hb5).below hba
            obtain ⟨xs, hown, hcv⟩ := hdo
            have HCV := hcv
            have HCLs : Hid (∀ W', Gr ((w2.setCell ⟨wr.heap.size, 2, none⟩ (.slice ah l.length ch)).alloc (.cells #[.int .i64 1, .string X, .slice ah l.length ch] 40)) W' (Value.slice va vn vc).ownBlock → Hks W' ah l) := fun W' hW => by
              have h1 : Rcl W' W.heap.size (.slice ah l.length ch) l := (HCL5.out.below hba).gr hW (fun r hr => by
                obtain ⟨xs0, ho0, _⟩ := HDO.out
                have := (ho0.lt r hr).2
                omega)
              obtain ⟨a', c', e', hk', _⟩ := h1.lie
              simp only [Value.slice.injEq] at e'
              rw [e'.1]; exact hk'
            have HB3 : Hid (Below R w1 ((w2.setCell ⟨wr.heap.size, 2, none⟩ (.slice ah l.length ch)).alloc (.cells #[.int .i64 1, .string X, .slice ah l.length ch] 40))) := HBL.out.trans ((hb5.mono hRw).alloc (by rw [hs5]; omega) _)
            have hc3 := cell_three_new (w2.setCell ⟨wr.heap.size, 2, none⟩ (.slice ah l.length ch)) (.int .i64 1) (.string X) (.slice ah l.length ch) 40
            rw [hs5] at hc3
            clear hra hok hno hb2 PN PS PG PF PK hcl hgn hcv hblk4 hblk5 hb5 hcl5 hba hpx HBD HNX
            go_wp2_with (at_builtin; refine wpList_append_own_at _ rfl _ _ 22 rfl R 40 i0 (.agg #[.int .i64 0, .string ByteArray.empty, .slice none 0 0]) 3 48 Tryz.underlying22 hi0 hz0 hz1 hz2 rfl (by decide) _ _ _ rfl hown ⟨w2.heap.size, 0, none⟩ 1 1 [.int .i64 1, .string X, .slice ah l.length ch] rfl rfl hc3 (fun x hx => by simp at hx; rcases hx with rfl | rfl | rfl <;> rfl) (by unfold maxLen; omega) (by omega) (by simp; omega) ?_; intro v' w6 hown6 hgrow6 hnil6 hblk6)
            go_roundw
            case rel =>
              exact ⟨j, p ++ [(1, X, l)], hj2, rfl, HGN.out, DOwn.snoc hown HCV hown6 hgrow6 hblk6 hlc HCLs.out, HB3.out.grown hgrow6 (by simp; omega) (fun j hj => (hown.lt j hj).1), by simp; omega⟩
            case measure => simp [intOf]; omega
        · have hcmp : ((bar (L1.drop 6)).toList == (bar (L2.drop 6)).toList) = false := by
            rw [beq_eq_false_iff_ne, Lib.toList_data, Lib.toList_data, bar_data, bar_data]; exact heq
          have hb1 : (yb.toList == [43, 43, 43, 32, 47, 100, 101, 118, 47, 110, 117, 108, 108]) = false := by
            rw [htb, beq_eq_false_iff_ne]; intro e; rw [e] at hp2; revert hp2; decide
          have HRE : Hid (rhd L1 L2 = none) := rhd_apart hp1 hp2 heq
          clear h6a h6b hta htb
          clear heq hp1 hp2
          go_wp2_with (go_at_call 24; first | (with_reducible refine (hsta _).mono ?_; rintro e w' ⟨rfl, hw⟩; rw [hw]; clear hw) | (with_reducible refine (hstb _).mono ?_; rintro e w' ⟨rfl, hw⟩; rw [hw]; clear hw))
          have HE : Hid (gps s.data.toList = ([], 5)) := HGH.out (by rw [HRH2.out]; exact HRE.out)
          clear hsta hstb HGH HRH2 HBD HAT PS PG PK PN
          go_quiet (fail)
          go_wp2_with fail

          have hb1 : Below wr.heap.size wr ((wr.alloc (.cells #[.int .i64 1, .string ⟨#[]⟩, .slice none 0 0] 40)).drewN nq) := below_drawn HB0.out
          have hblk1 : ((wr.alloc (.cells #[.int .i64 1, .string ⟨#[]⟩, .slice none 0 0] 40)).drewN nq).heap[wr.heap.size]? = some (.cells #[.int .i64 1, .string ⟨#[]⟩, .slice none 0 0] 40 (0, 0)) := blk_below (below_drawn (Below.refl _ _)) HS0.out HBK.out
          generalize (wr.alloc (.cells #[.int .i64 1, .string ⟨#[]⟩, .slice none 0 0] 40)).drewN nq = W0 at hb1 hblk1 ⊢
          have HB2 : Hid (Below B w W0) := HBW.out.trans (hb1.mono (by have := HB.out; have := HBW.out.size; omega))
          clear hb1 hblk1
          go_ret2
          exact ⟨PF.out _ HE.out, HB2.out⟩
      · have hp2' : Lib.hasPrefix L2 gB = false := by simpa using hp2
        rw [hp2'] at hstb
        by_cases heq : L2 = gBn
        · have hb1 : (yb.toList == [43, 43, 43, 32, 47, 100, 101, 118, 47, 110, 117, 108, 108]) = true := by rw [htb, heq]; rfl
          have HRE : Hid (rhd L1 L2 = some (3, L1.drop 6)) := rhd_wipe hp1 hp2 heq
          clear h6a h6b hta htb
          clear heq hp1 hp2 hp2'
          go_wp2_with (go_at_call 24; first | (with_reducible refine (hsta _).mono ?_; rintro e w' ⟨rfl, hw⟩; rw [hw]; clear hw) | (with_reducible refine (hstb _).mono ?_; rintro e w' ⟨rfl, hw⟩; rw [hw]; clear hw))
          have HHH : Hid (rhd (ls.getD k []) (ls.getD (k + 1) []) = some (3, L1.drop 6)) := by show rhd (ls.getD k []) (ls.getD (k + 1) []) = some (3, L1.drop 6); rw [HRH2.out]; exact HRE.out
          clear hsta hstb HGH HRH2
          go_quiet (fail)
          go_wp2_with fail

          have hb1 : Below wr.heap.size wr ((wr.alloc (.cells #[.int .i64 1, .string ⟨#[]⟩, .slice none 0 0] 40)).drewN nq) := below_drawn HB0.out
          have hblk1 : ((wr.alloc (.cells #[.int .i64 1, .string ⟨#[]⟩, .slice none 0 0] 40)).drewN nq).heap[wr.heap.size]? = some (.cells #[.int .i64 1, .string ⟨#[]⟩, .slice none 0 0] 40 (0, 0)) := blk_below (below_drawn (Below.refl _ _)) HS0.out HBK.out
          generalize (wr.alloc (.cells #[.int .i64 1, .string ⟨#[]⟩, .slice none 0 0] 40)).drewN nq = W0 at hb1 hblk1 ⊢
          have hblk2 := blk_set (i := 0) hblk1 (.int .i64 3)
          have hb2 : Below wr.heap.size wr (W0.setCell ⟨wr.heap.size, 0, none⟩ (.int .i64 3)) := hb1.setCell (p := ⟨wr.heap.size, 0, none⟩) (Nat.le_refl _) _
          simp at hblk2
          clear hb1 hblk1
          generalize W0.setCell ⟨wr.heap.size, 0, none⟩ (.int .i64 3) = W1 at hb2 hblk2 ⊢
          have hblk3 := blk_set (i := 1) hblk2 (.string (bar (L1.drop 6)))
          have hb3 : Below wr.heap.size wr (W1.setCell ⟨wr.heap.size, 1, none⟩ (.string (bar (L1.drop 6)))) := hb2.setCell (p := ⟨wr.heap.size, 1, none⟩) (Nat.le_refl _) _
          simp at hblk3
          clear hb2 hblk2
          generalize W1.setCell ⟨wr.heap.size, 1, none⟩ (.string (bar (L1.drop 6))) = W at hb3 hblk3 ⊢
          obtain ⟨X, hX⟩ : ∃ X, bar (L1.drop 6) = X := ⟨_, rfl⟩
          have HNX : Hid (∀ j l, rdm ([], 0, 0) (ls.drop (k + 2)) 0 = (j, (l, 0, 0)) → Grn ls (k + 2 + j) (p ++ [(3, X, l)])) := fun j l h => by have := HGR.out.next (by rw [HLL.out]; exact hl2) HHH.out h; rw [hX] at this; exact this
          rw [hX] at hblk3
          try rw [hX]
          clear hX HHH
          have hCW : wr.heap.size < W.heap.size := by
            by_cases e : wr.heap.size < W.heap.size
            · exact e
            · rw [Array.getElem?_eq_none (by omega)] at hblk3; cases hblk3
          have HBLK : Hid (W.heap[wr.heap.size]? = some (.cells #[.int .i64 3, .string X, .slice none 0 0] 40 (0, 0))) := hblk3
          have HBLW : Hid (Below R w1 W) := HBL.out.trans (hb3.mono hRw)
          have HBW3 : Hid (Below wr.heap.size wr W) := hb3
          have hrd := refRead (some ⟨g, 0, none⟩) qs cap (k + 2) W (HQ.out.below (by rw [HR.out]; exact HBLW.out)) (by rw [HQL.out]; omega) (by rw [HQL.out]; omega) HQS.out
          rw [HQB.out, HQL.out, show ((k + 2 : Nat) : Int) = (k : Int) + 2 by omega] at hrd
          clear hca hcb hxa hxb hb3 hblk3 HAT HBK HB0 HS0
          go_wp2_with (go_at_call 25; refine hrd.mono ?_)
          rintro e w2 ⟨⟨v, j, ok, st, rfl, hra, hok, hno⟩, hb2⟩
          have HB2 : Hid (Below wr.heap.size wr w2) := HBW3.out.trans (hb2.mono (Nat.le_of_lt hCW))
          clear hrd
          cases ok with
          | false =>
            have HE : Hid (gps s.data.toList = ([], 5)) := PN.out (HGR.out.flaw (by rw [HLL.out]; exact hl2) hra (hno rfl).2)
            have hbe := HBW.out.trans (HB2.out.mono (by have := HB.out; have := HBW.out.size; omega))
            clear hra hok hno PS PG PK PN HBD
            go_wp2
            go_ret2
            exact ⟨PF.out _ HE.out, hbe⟩
          | true =>
            obtain ⟨e1, e2, hcl, hpx⟩ := hok rfl
            obtain ⟨l, b2, a2⟩ := st
            simp only at e1 e2 hcl
            subst e1 e2
            have hj1 : k + 2 ≤ j := hra.1
            have hj2 : j ≤ n := by have := hra.2.1; rw [HLL.out] at this; exact this
            have hgn := HNX.out _ _ (hra.rd hpx)
            rw [show k + 2 + (j - (k + 2)) = j by omega] at hgn
            have HGN : Hid (Grn ls j (p ++ [(3, X, l)])) := hgn
            obtain ⟨ah, ch, rfl, _, hlc⟩ := hcl.lie
            have hblk4 := blk_below hb2 hCW HBLK.out
            have hC2 : wr.heap.size < w2.heap.size := Nat.lt_of_lt_of_le hCW hb2.size
            have hf2 := Lib.frozen_of_heap hblk4 2
            have c2 := Lib.cell_of_heap hblk4 2
            simp at c2
            have hblk5 := blk_set (i := 2) hblk4 (.slice ah l.length ch)
            simp at hblk5
            have q0 := Lib.cell_of_heap hblk5 0
            have q1 := Lib.cell_of_heap hblk5 1
            have q2 := Lib.cell_of_heap hblk5 2
            simp at q0 q1 q2
            have hb5 : Below wr.heap.size wr (w2.setCell ⟨wr.heap.size, 2, none⟩ (.slice ah l.length ch)) := HB2.out.setCell (p := ⟨wr.heap.size, 2, none⟩) (Nat.le_refl _) _
            have hcl5 := hcl.gr (gr_put w2 wr.heap.size 2 (.slice ah l.length ch)) (fun r hr => by have := Option.some.inj hr; omega)
            have hs5 : (w2.setCell ⟨wr.heap.size, 2, none⟩ (.slice ah l.length ch)).heap.size = w2.heap.size := by simp
            have HCL5 : Hid (Rcl (w2.setCell ⟨wr.heap.size, 2, none⟩ (.slice ah l.length ch)) W.heap.size (.slice ah l.length ch) l) := hcl5
            have hba := below_alloc (w2.setCell ⟨wr.heap.size, 2, none⟩ (.slice ah l.length ch)) (.cells #[.int .i64 3, .string X, .slice ah l.length ch] 40)
            have hdo := (HDO.out.below hb5).below hba
            obtain ⟨xs, hown, hcv⟩ := hdo
            have HCV := hcv
            have HCLs : Hid (∀ W', Gr ((w2.setCell ⟨wr.heap.size, 2, none⟩ (.slice ah l.length ch)).alloc (.cells #[.int .i64 3, .string X, .slice ah l.length ch] 40)) W' (Value.slice va vn vc).ownBlock → Hks W' ah l) := fun W' hW => by
              have h1 : Rcl W' W.heap.size (.slice ah l.length ch) l := (HCL5.out.below hba).gr hW (fun r hr => by
                obtain ⟨xs0, ho0, _⟩ := HDO.out
                have := (ho0.lt r hr).2
                omega)
              obtain ⟨a', c', e', hk', _⟩ := h1.lie
              simp only [Value.slice.injEq] at e'
              rw [e'.1]; exact hk'
            have HB3 : Hid (Below R w1 ((w2.setCell ⟨wr.heap.size, 2, none⟩ (.slice ah l.length ch)).alloc (.cells #[.int .i64 3, .string X, .slice ah l.length ch] 40))) := HBL.out.trans ((hb5.mono hRw).alloc (by rw [hs5]; omega) _)
            have hc3 := cell_three_new (w2.setCell ⟨wr.heap.size, 2, none⟩ (.slice ah l.length ch)) (.int .i64 3) (.string X) (.slice ah l.length ch) 40
            rw [hs5] at hc3
            clear hra hok hno hb2 PN PS PG PF PK hcl hgn hcv hblk4 hblk5 hb5 hcl5 hba hpx HBD HNX
            go_wp2_with (at_builtin; refine wpList_append_own_at _ rfl _ _ 22 rfl R 40 i0 (.agg #[.int .i64 0, .string ByteArray.empty, .slice none 0 0]) 3 48 Tryz.underlying22 hi0 hz0 hz1 hz2 rfl (by decide) _ _ _ rfl hown ⟨w2.heap.size, 0, none⟩ 1 1 [.int .i64 3, .string X, .slice ah l.length ch] rfl rfl hc3 (fun x hx => by simp at hx; rcases hx with rfl | rfl | rfl <;> rfl) (by unfold maxLen; omega) (by omega) (by simp; omega) ?_; intro v' w6 hown6 hgrow6 hnil6 hblk6)
            go_roundw
            case rel =>
              exact ⟨j, p ++ [(3, X, l)], hj2, rfl, HGN.out, DOwn.snoc hown HCV hown6 hgrow6 hblk6 hlc HCLs.out, HB3.out.grown hgrow6 (by simp; omega) (fun j hj => (hown.lt j hj).1), by simp; omega⟩
            case measure => simp [intOf]; omega
        · have hb1 : (yb.toList == [43, 43, 43, 32, 47, 100, 101, 118, 47, 110, 117, 108, 108]) = false := by rw [htb, beq_eq_false_iff_ne]; exact heq
          have HRE : Hid (rhd L1 L2 = none) := rhd_other hp1 hp2 heq
          clear h6a h6b hta htb
          clear heq hp1 hp2 hp2'
          go_wp2_with (go_at_call 24; first | (with_reducible refine (hsta _).mono ?_; rintro e w' ⟨rfl, hw⟩; rw [hw]; clear hw) | (with_reducible refine (hstb _).mono ?_; rintro e w' ⟨rfl, hw⟩; rw [hw]; clear hw))
          have HE : Hid (gps s.data.toList = ([], 5)) := HGH.out (by rw [HRH2.out]; exact HRE.out)
          clear hsta hstb HGH HRH2 HBD HAT PS PG PK PN
          go_quiet (fail)
          go_wp2_with fail

          have hb1 : Below wr.heap.size wr ((wr.alloc (.cells #[.int .i64 1, .string ⟨#[]⟩, .slice none 0 0] 40)).drewN nq) := below_drawn HB0.out
          have hblk1 : ((wr.alloc (.cells #[.int .i64 1, .string ⟨#[]⟩, .slice none 0 0] 40)).drewN nq).heap[wr.heap.size]? = some (.cells #[.int .i64 1, .string ⟨#[]⟩, .slice none 0 0] 40 (0, 0)) := blk_below (below_drawn (Below.refl _ _)) HS0.out HBK.out
          generalize (wr.alloc (.cells #[.int .i64 1, .string ⟨#[]⟩, .slice none 0 0] 40)).drewN nq = W0 at hb1 hblk1 ⊢
          have HB2 : Hid (Below B w W0) := HBW.out.trans (hb1.mono (by have := HB.out; have := HBW.out.size; omega))
          clear hb1 hblk1
          go_ret2
          exact ⟨PF.out _ HE.out, HB2.out⟩
    · have hp1' : Lib.hasPrefix L1 gA = false := by simpa using hp1
      rw [hp1'] at hsta
      by_cases hp2 : Lib.hasPrefix L2 gB = true
      · have h7 := h6b hp2
        rw [hp2] at hstb
        by_cases heq : L1 = gAn
        · have ha1 : (ya.toList == [45, 45, 45, 32, 47, 100, 101, 118, 47, 110, 117, 108, 108]) = true := by rw [hta, heq]; rfl
          have HRE : Hid (rhd L1 L2 = some (2, L2.drop 6)) := rhd_make hp1 hp2 heq
          clear h6a h6b hta htb
          clear heq hp1 hp2 hp1'
          go_wp2_with (go_at_call 24; first | (with_reducible refine (hsta _).mono ?_; rintro e w' ⟨rfl, hw⟩; rw [hw]; clear hw) | (with_reducible refine (hstb _).mono ?_; rintro e w' ⟨rfl, hw⟩; rw [hw]; clear hw))
          have HHH : Hid (rhd (ls.getD k []) (ls.getD (k + 1) []) = some (2, L2.drop 6)) := by show rhd (ls.getD k []) (ls.getD (k + 1) []) = some (2, L2.drop 6); rw [HRH2.out]; exact HRE.out
          clear hsta hstb HGH HRH2
          go_quiet (fail)
          go_wp2_with fail

          have hb1 : Below wr.heap.size wr ((wr.alloc (.cells #[.int .i64 1, .string ⟨#[]⟩, .slice none 0 0] 40)).drewN nq) := below_drawn HB0.out
          have hblk1 : ((wr.alloc (.cells #[.int .i64 1, .string ⟨#[]⟩, .slice none 0 0] 40)).drewN nq).heap[wr.heap.size]? = some (.cells #[.int .i64 1, .string ⟨#[]⟩, .slice none 0 0] 40 (0, 0)) := blk_below (below_drawn (Below.refl _ _)) HS0.out HBK.out
          generalize (wr.alloc (.cells #[.int .i64 1, .string ⟨#[]⟩, .slice none 0 0] 40)).drewN nq = W0 at hb1 hblk1 ⊢
          have hblk2 := blk_set (i := 0) hblk1 (.int .i64 2)
          have hb2 : Below wr.heap.size wr (W0.setCell ⟨wr.heap.size, 0, none⟩ (.int .i64 2)) := hb1.setCell (p := ⟨wr.heap.size, 0, none⟩) (Nat.le_refl _) _
          simp at hblk2
          clear hb1 hblk1
          generalize W0.setCell ⟨wr.heap.size, 0, none⟩ (.int .i64 2) = W1 at hb2 hblk2 ⊢
          have hblk3 := blk_set (i := 1) hblk2 (.string (bar (L2.drop 6)))
          have hb3 : Below wr.heap.size wr (W1.setCell ⟨wr.heap.size, 1, none⟩ (.string (bar (L2.drop 6)))) := hb2.setCell (p := ⟨wr.heap.size, 1, none⟩) (Nat.le_refl _) _
          simp at hblk3
          clear hb2 hblk2
          generalize W1.setCell ⟨wr.heap.size, 1, none⟩ (.string (bar (L2.drop 6))) = W at hb3 hblk3 ⊢
          obtain ⟨X, hX⟩ : ∃ X, bar (L2.drop 6) = X := ⟨_, rfl⟩
          have HNX : Hid (∀ j l, rdm ([], 0, 0) (ls.drop (k + 2)) 0 = (j, (l, 0, 0)) → Grn ls (k + 2 + j) (p ++ [(2, X, l)])) := fun j l h => by have := HGR.out.next (by rw [HLL.out]; exact hl2) HHH.out h; rw [hX] at this; exact this
          rw [hX] at hblk3
          try rw [hX]
          clear hX HHH
          have hCW : wr.heap.size < W.heap.size := by
            by_cases e : wr.heap.size < W.heap.size
            · exact e
            · rw [Array.getElem?_eq_none (by omega)] at hblk3; cases hblk3
          have HBLK : Hid (W.heap[wr.heap.size]? = some (.cells #[.int .i64 2, .string X, .slice none 0 0] 40 (0, 0))) := hblk3
          have HBLW : Hid (Below R w1 W) := HBL.out.trans (hb3.mono hRw)
          have HBW3 : Hid (Below wr.heap.size wr W) := hb3
          have hrd := refRead (some ⟨g, 0, none⟩) qs cap (k + 2) W (HQ.out.below (by rw [HR.out]; exact HBLW.out)) (by rw [HQL.out]; omega) (by rw [HQL.out]; omega) HQS.out
          rw [HQB.out, HQL.out, show ((k + 2 : Nat) : Int) = (k : Int) + 2 by omega] at hrd
          clear hca hcb hxa hxb hb3 hblk3 HAT HBK HB0 HS0
          go_wp2_with (go_at_call 25; refine hrd.mono ?_)
          rintro e w2 ⟨⟨v, j, ok, st, rfl, hra, hok, hno⟩, hb2⟩
          have HB2 : Hid (Below wr.heap.size wr w2) := HBW3.out.trans (hb2.mono (Nat.le_of_lt hCW))
          clear hrd
          cases ok with
          | false =>
            have HE : Hid (gps s.data.toList = ([], 5)) := PN.out (HGR.out.flaw (by rw [HLL.out]; exact hl2) hra (hno rfl).2)
            have hbe := HBW.out.trans (HB2.out.mono (by have := HB.out; have := HBW.out.size; omega))
            clear hra hok hno PS PG PK PN HBD
            go_wp2
            go_ret2
            exact ⟨PF.out _ HE.out, hbe⟩
          | true =>
            obtain ⟨e1, e2, hcl, hpx⟩ := hok rfl
            obtain ⟨l, b2, a2⟩ := st
            simp only at e1 e2 hcl
            subst e1 e2
            have hj1 : k + 2 ≤ j := hra.1
            have hj2 : j ≤ n := by have := hra.2.1; rw [HLL.out] at this; exact this
            have hgn := HNX.out _ _ (hra.rd hpx)
            rw [show k + 2 + (j - (k + 2)) = j by omega] at hgn
            have HGN : Hid (Grn ls j (p ++ [(2, X, l)])) := hgn
            obtain ⟨ah, ch, rfl, _, hlc⟩ := hcl.lie
            have hblk4 := blk_below hb2 hCW HBLK.out
            have hC2 : wr.heap.size < w2.heap.size := Nat.lt_of_lt_of_le hCW hb2.size
            have hf2 := Lib.frozen_of_heap hblk4 2
            have c2 := Lib.cell_of_heap hblk4 2
            simp at c2
            have hblk5 := blk_set (i := 2) hblk4 (.slice ah l.length ch)
            simp at hblk5
            have q0 := Lib.cell_of_heap hblk5 0
            have q1 := Lib.cell_of_heap hblk5 1
            have q2 := Lib.cell_of_heap hblk5 2
            simp at q0 q1 q2
            have hb5 : Below wr.heap.size wr (w2.setCell ⟨wr.heap.size, 2, none⟩ (.slice ah l.length ch)) := HB2.out.setCell (p := ⟨wr.heap.size, 2, none⟩) (Nat.le_refl _) _
            have hcl5 := hcl.gr (gr_put w2 wr.heap.size 2 (.slice ah l.length ch)) (fun r hr => by have := Option.some.inj hr; omega)
            have hs5 : (w2.setCell ⟨wr.heap.size, 2, none⟩ (.slice ah l.length ch)).heap.size = w2.heap.size := by simp
            have HCL5 : Hid (Rcl (w2.setCell ⟨wr.heap.size, 2, none⟩ (.slice ah l.length ch)) W.heap.size (.slice ah l.length ch) l) := hcl5
            have hba := below_alloc (w2.setCell ⟨wr.heap.size, 2, none⟩ (.slice ah l.length ch)) (.cells #[.int .i64 2, .string X, .slice ah l.length ch] 40)
            have hdo := (HDO.out.below hb5).below hba
            obtain ⟨xs, hown, hcv⟩ := hdo
            have HCV := hcv
            have HCLs : Hid (∀ W', Gr ((w2.setCell ⟨wr.heap.size, 2, none⟩ (.slice ah l.length ch)).alloc (.cells #[.int .i64 2, .string X, .slice ah l.length ch] 40)) W' (Value.slice va vn vc).ownBlock → Hks W' ah l) := fun W' hW => by
              have h1 : Rcl W' W.heap.size (.slice ah l.length ch) l := (HCL5.out.below hba).gr hW (fun r hr => by
                obtain ⟨xs0, ho0, _⟩ := HDO.out
                have := (ho0.lt r hr).2
                omega)
              obtain ⟨a', c', e', hk', _⟩ := h1.lie
              simp only [Value.slice.injEq] at e'
              rw [e'.1]; exact hk'
            have HB3 : Hid (Below R w1 ((w2.setCell ⟨wr.heap.size, 2, none⟩ (.slice ah l.length ch)).alloc (.cells #[.int .i64 2, .string X, .slice ah l.length ch] 40))) := HBL.out.trans ((hb5.mono hRw).alloc (by rw [hs5]; omega) _)
            have hc3 := cell_three_new (w2.setCell ⟨wr.heap.size, 2, none⟩ (.slice ah l.length ch)) (.int .i64 2) (.string X) (.slice ah l.length ch) 40
            rw [hs5] at hc3
            clear hra hok hno hb2 PN PS PG PF PK hcl hgn hcv hblk4 hblk5 hb5 hcl5 hba hpx HBD HNX
            go_wp2_with (at_builtin; refine wpList_append_own_at _ rfl _ _ 22 rfl R 40 i0 (.agg #[.int .i64 0, .string ByteArray.empty, .slice none 0 0]) 3 48 Tryz.underlying22 hi0 hz0 hz1 hz2 rfl (by decide) _ _ _ rfl hown ⟨w2.heap.size, 0, none⟩ 1 1 [.int .i64 2, .string X, .slice ah l.length ch] rfl rfl hc3 (fun x hx => by simp at hx; rcases hx with rfl | rfl | rfl <;> rfl) (by unfold maxLen; omega) (by omega) (by simp; omega) ?_; intro v' w6 hown6 hgrow6 hnil6 hblk6)
            go_roundw
            case rel =>
              exact ⟨j, p ++ [(2, X, l)], hj2, rfl, HGN.out, DOwn.snoc hown HCV hown6 hgrow6 hblk6 hlc HCLs.out, HB3.out.grown hgrow6 (by simp; omega) (fun j hj => (hown.lt j hj).1), by simp; omega⟩
            case measure => simp [intOf]; omega
        · have ha1 : (ya.toList == [45, 45, 45, 32, 47, 100, 101, 118, 47, 110, 117, 108, 108]) = false := by rw [hta, beq_eq_false_iff_ne]; exact heq
          have HRE : Hid (rhd L1 L2 = none) := rhd_not hp1 (fun h => heq h.2)
          clear h6a h6b hta htb
          clear heq hp1 hp2 hp1'
          go_wp2_with (go_at_call 24; first | (with_reducible refine (hsta _).mono ?_; rintro e w' ⟨rfl, hw⟩; rw [hw]; clear hw) | (with_reducible refine (hstb _).mono ?_; rintro e w' ⟨rfl, hw⟩; rw [hw]; clear hw))
          have HE : Hid (gps s.data.toList = ([], 5)) := HGH.out (by rw [HRH2.out]; exact HRE.out)
          clear hsta hstb HGH HRH2 HBD HAT PS PG PK PN
          go_quiet (fail)
          go_wp2_with fail

          have hb1 : Below wr.heap.size wr ((wr.alloc (.cells #[.int .i64 1, .string ⟨#[]⟩, .slice none 0 0] 40)).drewN nq) := below_drawn HB0.out
          have hblk1 : ((wr.alloc (.cells #[.int .i64 1, .string ⟨#[]⟩, .slice none 0 0] 40)).drewN nq).heap[wr.heap.size]? = some (.cells #[.int .i64 1, .string ⟨#[]⟩, .slice none 0 0] 40 (0, 0)) := blk_below (below_drawn (Below.refl _ _)) HS0.out HBK.out
          generalize (wr.alloc (.cells #[.int .i64 1, .string ⟨#[]⟩, .slice none 0 0] 40)).drewN nq = W0 at hb1 hblk1 ⊢
          have HB2 : Hid (Below B w W0) := HBW.out.trans (hb1.mono (by have := HB.out; have := HBW.out.size; omega))
          clear hb1 hblk1
          go_ret2
          exact ⟨PF.out _ HE.out, HB2.out⟩
      · have hp2' : Lib.hasPrefix L2 gB = false := by simpa using hp2
        rw [hp2'] at hstb
        have HRE : Hid (rhd L1 L2 = none) := rhd_not hp1 (fun h => hp2 h.1)
        clear h6a h6b hta htb hp1 hp2 hp1' hp2'
        cases ha1 : (ya.toList == [45, 45, 45, 32, 47, 100, 101, 118, 47, 110, 117, 108, 108])
        · go_wp2_with (go_at_call 24; first | (with_reducible refine (hsta _).mono ?_; rintro e w' ⟨rfl, hw⟩; rw [hw]; clear hw) | (with_reducible refine (hstb _).mono ?_; rintro e w' ⟨rfl, hw⟩; rw [hw]; clear hw))
          have HE : Hid (gps s.data.toList = ([], 5)) := HGH.out (by rw [HRH2.out]; exact HRE.out)
          clear hsta hstb HGH HRH2 HBD HAT PS PG PK PN
          go_quiet (fail)
          go_wp2_with fail
          
          have hb1 : Below wr.heap.size wr ((wr.alloc (.cells #[.int .i64 1, .string ⟨#[]⟩, .slice none 0 0] 40)).drewN nq) := below_drawn HB0.out
          have hblk1 : ((wr.alloc (.cells #[.int .i64 1, .string ⟨#[]⟩, .slice none 0 0] 40)).drewN nq).heap[wr.heap.size]? = some (.cells #[.int .i64 1, .string ⟨#[]⟩, .slice none 0 0] 40 (0, 0)) := blk_below (below_drawn (Below.refl _ _)) HS0.out HBK.out
          generalize (wr.alloc (.cells #[.int .i64 1, .string ⟨#[]⟩, .slice none 0 0] 40)).drewN nq = W0 at hb1 hblk1 ⊢
          have HB2 : Hid (Below B w W0) := HBW.out.trans (hb1.mono (by have := HB.out; have := HBW.out.size; omega))
          clear hb1 hblk1
          go_ret2
          exact ⟨PF.out _ HE.out, HB2.out⟩
        · go_wp2_with (go_at_call 24; first | (with_reducible refine (hsta _).mono ?_; rintro e w' ⟨rfl, hw⟩; rw [hw]; clear hw) | (with_reducible refine (hstb _).mono ?_; rintro e w' ⟨rfl, hw⟩; rw [hw]; clear hw))
          have HE : Hid (gps s.data.toList = ([], 5)) := HGH.out (by rw [HRH2.out]; exact HRE.out)
          clear hsta hstb HGH HRH2 HBD HAT PS PG PK PN
          go_quiet (fail)
          go_wp2_with fail
          
          have hb1 : Below wr.heap.size wr ((wr.alloc (.cells #[.int .i64 1, .string ⟨#[]⟩, .slice none 0 0] 40)).drewN nq) := below_drawn HB0.out
          have hblk1 : ((wr.alloc (.cells #[.int .i64 1, .string ⟨#[]⟩, .slice none 0 0] 40)).drewN nq).heap[wr.heap.size]? = some (.cells #[.int .i64 1, .string ⟨#[]⟩, .slice none 0 0] 40 (0, 0)) := blk_below (below_drawn (Below.refl _ _)) HS0.out HBK.out
          generalize (wr.alloc (.cells #[.int .i64 1, .string ⟨#[]⟩, .slice none 0 0] 40)).drewN nq = W0 at hb1 hblk1 ⊢
          have HB2 : Hid (Below B w W0) := HBW.out.trans (hb1.mono (by have := HB.out; have := HBW.out.size; omega))
          clear hb1 hblk1
          go_ret2
          exact ⟨PF.out _ HE.out, HB2.out⟩

end Go.Proofs.YtjgdicghmkfohadGreatDoor
