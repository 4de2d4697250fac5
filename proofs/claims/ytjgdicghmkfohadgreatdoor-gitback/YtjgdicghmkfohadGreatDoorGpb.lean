/-
  Walks of git.read and git.Parse: a text as a patch.
-/
import Derived.Test.YtjgdicghmkfohadGreatDoorGpa
import Derived.Test.YtjgdicghmkfohadGreatDoorPck

namespace Go.Proofs.YtjgdicghmkfohadGreatDoor
open Go.RowKit Dist

/-- How many a slice has. -/
def slen : Value → Nat
  | .slice _ n _ => n
  | _ => 0

/-- What git.read answers. -/
def GrP (s : List UInt8) (B : Nat) (e : Ending) (w' : World) : Prop :=
  (e = .returned (.tuple #[.slice none 0 0, .bool false]) ∧ gps s = ([], 5)) ∨
  (∃ (v : Value) (p : List Ch), e = .returned (.tuple #[v, .bool true]) ∧ (parts 10 s).2 = [] ∧ gRd (parts 10 s).1.length (parts 10 s).1 = some p ∧ DOwn w' B v p)

theorem getD_drop (ls : List (List UInt8)) (k i : Nat) : (ls.drop k).getD i [] = ls.getD (k + i) [] := by
  simp [List.getElem?_drop]

theorem DOwn.up {w : World} {B B' : Nat} {v : Value} {l : List Ch} (h : DOwn w B v l) (hB : B' ≤ B) : DOwn w B' v l := by
  obtain ⟨xs, h1, h2⟩ := h
  exact ⟨xs, Joins.ownsRow_le h1 hB, h2⟩

theorem DOwn.slc {w : World} {B : Nat} {v : Value} {l : List Ch} (h : DOwn w B v l) : ∃ a n c, v = .slice a n c := by
  obtain ⟨xs, h1, _⟩ := h
  exact own_slc h1

set_option maxRecDepth 100000 in
set_option maxHeartbeats 2000000 in
theorem gitRead (s : ByteArray) (w : World) (hg : Gs w) (hsz : s.size ≤ 400000) :
    Calls Tryz.prog 26 #[.string s] w fun e w' => GrP s.data.toList w.heap.size e w' ∧ Below w.heap.size w w' := by
  have hsp := splitAll s w hsz
  obtain ⟨i0, hi0, hz0, hz1, hz2⟩ := info_parts Tryz.infoChange
  have hlong : s.data.toList.length ≤ 400000 := by rw [← Lib.size_eq]; omega
  have HTX : Hid (∀ x ∈ (parts 10 s.data.toList).1, x.length ≤ 400000) := fun x hx => by
    have h1 := parts_mem (List.mem_append_left [(parts 10 s.data.toList).2] hx)
    omega
  have PT : Hid ((parts 10 s.data.toList).2 ≠ [] → gps s.data.toList = ([], 5)) := gps_tail
  have PN : Hid (gRd (parts 10 s.data.toList).1.length (parts 10 s.data.toList).1 = none → gps s.data.toList = ([], 5)) := gps_none
  have HG : Hid (Gs w) := hg
  obtain ⟨B, hB⟩ : ∃ B, w.heap.size = B := ⟨_, rfl⟩
  have HB : Hid (w.heap.size = B) := hB
  rw [hB] at hsp ⊢
  obtain ⟨P, hP⟩ : ∃ P : Ending → World → Prop, GrP s.data.toList B = P := ⟨_, rfl⟩
  have PF : Hid (∀ w', gps s.data.toList = ([], 5) → P (.returned (.tuple #[.slice none 0 0, .bool false])) w') := fun w' h => by rw [← hP]; exact .inl ⟨rfl, h⟩
  have PG : Hid (∀ v p w', (parts 10 s.data.toList).2 = [] → gRd (parts 10 s.data.toList).1.length (parts 10 s.data.toList).1 = some p → DOwn w' B v p → P (.returned (.tuple #[v, .bool true])) w') := fun v p w' h1 h2 h3 => by rw [← hP]; exact .inr ⟨v, p, rfl, h1, h2, h3⟩
  rw [hP]
  clear hB hP hg hlong
  go_enter Tryz.func26, Tryz.ntmps26
  go_wp2_with (go_at_call 38; refine hsp.mono ?_)
  rintro e w1 ⟨ps, rfl, hps, hb, hst⟩
  obtain ⟨n, x, hn, hx, hxl, hpt, hpl, hns⟩ := pieces_of hps
  have hc : w1.cell? ⟨B, n, none⟩ = some (.string x) := by
    obtain ⟨b, off, e, hc⟩ := hst n (by omega)
    simp at e
    obtain ⟨rfl, rfl⟩ := e
    rw [Nat.zero_add, hx] at hc
    exact hc
  obtain ⟨ls, hls⟩ : ∃ ls, (parts 10 s.data.toList).1 = ls := ⟨_, rfl⟩
  have HLL : Hid (ls.length = n) := by show ls.length = n; rw [← hls, ← hpt, bts_length]; exact hpl
  obtain ⟨qs, hqs⟩ : ∃ qs, ps.take n = qs := ⟨_, rfl⟩
  have hst2 := hst.upto n
  rw [hqs] at hpt hpl hst2
  have HQ : Hid (Strs w1 (some ⟨B, 0, none⟩) qs) := hst2
  have HQL : Hid (qs.length = n) := hpl
  have HQB : Hid (bts qs = ls) := by show bts qs = ls; rw [hpt, hls]
  have HQS : Hid (∀ y ∈ qs, y.size ≤ 400000) := fun y hy => by
    have h1 := HTX.out y.data.toList (by rw [← hpt]; exact List.mem_map.2 ⟨y, hy, rfl⟩)
    rw [← Lib.size_eq] at h1; exact h1
  rw [hls] at PN PG
  rw [← hxl] at PT PG
  have HXD : Hid (x.data.toList = x.toList) := (Lib.toList_data x).symm
  have HB1 : Hid (Below B w w1) := hb
  have hBw1 : B ≤ w1.heap.size := by have := hb.size; have := HB.out; omega
  have hn4 : n ≤ 400000 := by omega
  rw [hn]
  clear hps hx hxl hn hst hst2 hpt hpl hls hsp hb hqs
  cases hx0 : x.toList.isEmpty with
  | false =>
    have HE : Hid (gps s.data.toList = ([], 5)) := PT.out (fun h => by rw [HXD.out] at h; rw [h] at hx0; cases hx0)
    clear PN PG PT
    go_wp2
    go_ret2
    exact ⟨PF.out _ HE.out, HB1.out⟩
  | true =>
    have HXE : Hid (x.data.toList = []) := by show x.data.toList = []; rw [HXD.out]; simpa using hx0
    obtain ⟨R, hR⟩ : ∃ R, w1.heap.size = R := ⟨_, rfl⟩
    have HR : Hid (w1.heap.size = R) := hR
    have hBR : B ≤ R := by omega
    clear PT hR
    go_wp2
    go_loopw [6, 7] (fun v u wr => ∃ (k : Nat) (p : List Ch), k ≤ n ∧ u = .slice (some ⟨B, k, none⟩) (n - k) (n - k + 1) ∧ Grn ls k p ∧ DOwn wr R v p ∧ Below R w1 wr ∧ p.length ≤ k) (fun _ u _ => slen u)
    case atStart => exact ⟨0, [], Nat.zero_le _, rfl, Grn.zero ls, DOwn.zero _ _, Below.refl _ _, Nat.le_refl _⟩
    case round =>
      obtain ⟨k, p, hk, rfl, hgr, hdo, hbl, hpk⟩ := hrel
      have HGR : Hid (Grn ls k p) := hgr
      have HDO : Hid (DOwn wr R u6 p) := hdo
      have HBL : Hid (Below R w1 wr) := hbl
      have HBW : Hid (Below B w wr) := HB1.out.trans (hbl.mono hBR)
      have hRw : R ≤ wr.heap.size := by have := hbl.size; have := HR.out; omega
      obtain ⟨va, vn, vc, rfl⟩ := hdo.slc
      clear hgr hdo hbl
      by_cases hlt : k < n
      · obtain ⟨m, hm⟩ : ∃ m, n - k = m := ⟨_, rfl⟩
        have hm0 : (0 : Int) < m := by omega
        have HM : Hid (n - k = m) := hm
        have hsr := (HQ.out.below (w' := wr) (by rw [HR.out]; exact HBL.out)).from k
        rw [Nat.zero_add] at hsr
        have hrc := readChange B k (qs.drop k) wr hsr (HG.out.below (by rw [HB.out]; exact HBW.out)) (by rw [List.length_drop, HQL.out]; omega) (fun y hy => HQS.out y (List.mem_of_mem_drop hy))
        have ebt : bts (qs.drop k) = ls.drop k := by rw [← HQB.out]; unfold bts; rw [List.map_drop]
        rw [ebt, List.length_drop, HQL.out, hm] at hrc
        rw [hm]
        clear hsr ebt hm
        go_wp2_with (go_at_call 39; refine hrc.mono ?_)
        rintro e w2 ⟨⟨wh, x, ya, yn, yc, j, ok, rfl, hno, hyes⟩, hb2⟩
        have HB2 : Hid (Below B w w2) := HBW.out.trans (hb2.mono (by omega))
        have hRw2 : R ≤ w2.heap.size := Nat.le_trans hRw hb2.size
        clear hrc
        cases ok with
        | false =>
          have HE : Hid (gps s.data.toList = ([], 5)) := by
            refine PN.out ?_
            have hll := HLL.out
            have hmm := HM.out
            rcases hno rfl with h | ⟨h0, h | ⟨i, st, h1, h2⟩⟩
            · rw [List.length_drop] at h
              exact HGR.out.short (by omega)
            · rw [List.length_drop] at h0
              rw [getD_drop, getD_drop, Nat.add_zero] at h
              exact HGR.out.head (by omega) h
            · rw [List.length_drop] at h0
              rw [List.drop_drop] at h1
              exact HGR.out.open (by omega) h1 h2
          have hb3 := HB2.out.alloc (o := .cells #[.int .i64 wh, .string (bar x), .slice ya yn yc] 40) (by omega)
          clear hno hyes hb2 PN PG
          go_wp2
          go_ret2
          exact ⟨PF.out _ HE.out, hb3⟩
        | true =>
          obtain ⟨h0, hh, i, l, rfl, hil, hrm, hcl⟩ := hyes rfl
          rw [List.length_drop] at h0 hil
          rw [getD_drop, getD_drop, Nat.add_zero] at hh
          rw [List.drop_drop] at hrm
          have hll := HLL.out
          have hmm := HM.out
          have HGN : Hid (Grn ls (k + 2 + i) (p ++ [(wh, bar x, l)])) := HGR.out.next (by omega) hh hrm
          have him : 2 + i ≤ m := by omega
          have hsl := fun w => run_lines_from B k m (2 + i) him w (2 + (i : Int)) (by omega)
          obtain ⟨ah, ch, hyv, _, hlc⟩ := hcl.lie
          simp only [Value.slice.injEq] at hyv
          obtain ⟨rfl, rfl, rfl⟩ := hyv
          have HCL : Hid (Rcl w2 wr.heap.size (.slice ya l.length yc) l) := hcl
          have hdo2 := HDO.out.below hb2
          have hba := below_alloc w2 (.cells #[.int .i64 wh, .string (bar x), .slice ya l.length yc] 40)
          have hba2 := hba.trans ((below_alloc (w2.alloc (.cells #[.int .i64 wh, .string (bar x), .slice ya l.length yc] 40)) (.cells #[.int .i64 wh, .string (bar x), .slice ya l.length yc] 40)).mono hba.size)
          have hdo3 := hdo2.below hba2
          obtain ⟨xs, hown, hcv⟩ := hdo3
          have HCV := hcv
          have HCLs : Hid (∀ W, Gr ((w2.alloc (.cells #[.int .i64 wh, .string (bar x), .slice ya l.length yc] 40)).alloc (.cells #[.int .i64 wh, .string (bar x), .slice ya l.length yc] 40)) W (Value.slice va vn vc).ownBlock → Hks W ya l) := fun W hW => by
            have h1 : Rcl W wr.heap.size (.slice ya l.length yc) l := (HCL.out.below hba2).gr hW (fun r hr => by
              obtain ⟨xs0, ho0, _⟩ := HDO.out
              exact (ho0.lt r hr).2)
            obtain ⟨a', c', e', hk', _⟩ := h1.lie
            simp only [Value.slice.injEq] at e'
            rw [e'.1]; exact hk'
          have hpl : p.length ≤ 400000 := by omega
          have HB3 : Hid (Below R w1 ((w2.alloc (.cells #[.int .i64 wh, .string (bar x), .slice ya l.length yc] 40)).alloc (.cells #[.int .i64 wh, .string (bar x), .slice ya l.length yc] 40))) := ((HBL.out.trans (hb2.mono hRw)).alloc hRw2 _).alloc (by simp; omega) _
          have hsz2 : (w2.alloc (.cells #[.int .i64 wh, .string (bar x), .slice ya l.length yc] 40)).heap.size = w2.heap.size + 1 := by simp
          clear hno hyes hb2 PN PF hcl hdo2 hba hba2 hcv hh hrm hll hmm
          go_wp2_with (at_builtin; refine wpList_append_own_at _ rfl _ _ 22 rfl R 40 i0 (.agg #[.int .i64 0, .string ByteArray.empty, .slice none 0 0]) 3 48 Tryz.underlying22 hi0 hz0 hz1 hz2 rfl (by decide) _ _ _ rfl hown ⟨w2.heap.size + 1, 0, none⟩ 1 1 [.int .i64 wh, .string (bar x), .slice ya l.length yc] rfl rfl (by have := cell_three_new (w2.alloc (.cells #[.int .i64 wh, .string (bar x), .slice ya l.length yc] 40)) (.int .i64 wh) (.string (bar x)) (.slice ya l.length yc) 40; rw [hsz2] at this; exact this) (fun x hx => by simp at hx; rcases hx with rfl | rfl | rfl <;> rfl) (by unfold maxLen; omega) (by omega) (by simp; omega) ?_; intro v' w6 hown6 hgrow6 hnil6 hblk6)
          go_roundw
          case rel =>
            have hmm := HM.out
            refine ⟨k + 2 + i, p ++ [(wh, bar x, l)], by omega, ?_, HGN.out, DOwn.snoc hown HCV hown6 hgrow6 hblk6 hlc HCLs.out, HB3.out.grown hgrow6 (by simp; omega) (fun j hj => (hown.lt j hj).1), by simp; omega⟩
            rw [show n - (k + 2 + i) = m - (2 + i) by omega, show k + 2 + i = k + (2 + i) by omega]
          case measure => simp only [slen]; omega
      · obtain rfl : k = n := by omega
        have HALL : Hid (gRd ls.length ls = some p) := by
          have h1 := HGR.out
          rw [← HLL.out] at h1
          exact h1.all
        rw [Nat.sub_self]
        clear PN PF
        go_wp2
        go_ret2
        exact ⟨PG.out _ p _ HXE.out HALL.out (HDO.out.up hBR), HBW.out⟩

theorem gps_small {s : List UInt8} : (gps s).1.length ≤ 16 ∧ ∀ c ∈ (gps s).1, c.2.2.length ≤ 60 ∧ ∀ h ∈ c.2.2, h.2.2.length ≤ 120 := by
  by_cases h : (gps s).2 = 0
  · have hk := (gpr_gps (s := s) (p := (gps s).1) (by rw [← h])).2
    obtain ⟨h1, h2⟩ := kf_rd hk
    exact ⟨h1, fun c hc => ⟨(hf_zero (h2 c hc).2.2).1, fun x hx => (sf_zero (hf_rd (h2 c hc).2.2 x hx).2.2).1⟩⟩
  · have e : (gps s).1 = [] := by
      by_cases h0 : 400000 < s.length
      · rw [gps_long h0]
      by_cases h1 : (parts 10 s).2 = []
      · cases hg : gRd (parts 10 s).1.length (parts 10 s).1 with
        | none => rw [gps_none hg]
        | some q =>
          rw [gps_some h0 h1 hg] at h ⊢
          split
          · rename_i hk; rw [if_pos hk] at h; exact absurd rfl h
          · rfl
      · rw [gps_tail h1]
    rw [e]
    exact ⟨Nat.zero_le _, fun c hc => by cases hc⟩

set_option maxRecDepth 100000 in
set_option maxHeartbeats 1000000 in
theorem gparse (s : ByteArray) (w : World) (hg : Gs w) (hs : s.size ≤ maxLen) :
    Calls Tryz.prog 10 #[.string s] w fun e w' => ∃ a cap, e = .returned (.tuple #[.slice a (gps s.data.toList).1.length cap, errV (gps s.data.toList).2]) ∧ Chs w' a (gps s.data.toList).1 ∧ Below w.heap.size w w' := by
  unfold maxLen at hs
  by_cases hl : 400000 < s.size
  · rw [gps_long (by rw [← Lib.size_eq]; exact hl)]
    clear hg
    go_enter Tryz.func10, Tryz.ntmps10
    go_wp2
    go_ret2
    exact ⟨none, 0, rfl, Chs.nil _ _, Below.refl _ _⟩
  have hrd := gitRead s w hg (by omega)
  have HL : Hid (¬ 400000 < s.data.toList.length) := by show ¬ 400000 < s.data.toList.length; rw [← Lib.size_eq]; exact hl
  have HS : Hid (∀ p, (parts 10 s.data.toList).2 = [] → gRd (parts 10 s.data.toList).1.length (parts 10 s.data.toList).1 = some p → gps s.data.toList = if (kf p).2 = 0 then (p, 0) else ([], (kf p).2)) := fun p h1 h2 => gps_some HL.out h1 h2
  have HBD : Hid (∀ p, gRd (parts 10 s.data.toList).1.length (parts 10 s.data.toList).1 = some p → p.length ≤ 400000 ∧ ∀ c ∈ p, c.2.2.length ≤ 400000 ∧ ∀ x ∈ c.2.2, x.2.2.length ≤ 400000) := fun p hp => by
    have hle : (parts 10 s.data.toList).1.length ≤ 400000 := by
      rw [parts_count]
      have := List.count_le_length (a := (10 : UInt8)) (l := s.data.toList)
      have := HL.out
      omega
    obtain ⟨b1, b2⟩ := lnp_bounds (M := s.data.toList.length) (gRd_lines _ _ _ hp).1 (fun x hx => parts_mem (List.mem_append_left _ hx))
    exact ⟨by omega, fun c hc => ⟨by have := (b2 c hc).1; omega, fun x hx => by have := ((b2 c hc).2 x hx).1; omega⟩⟩
  unfold GrP at hrd
  obtain ⟨P, hP⟩ : ∃ P, gps s.data.toList = P := ⟨_, rfl⟩
  rw [hP] at hrd HS
  rw [hP]
  obtain ⟨B, hB⟩ : ∃ B, w.heap.size = B := ⟨_, rfl⟩
  have HB : Hid (w.heap.size = B) := hB
  rw [hB] at hrd ⊢
  clear hP hg hB
  go_enter Tryz.func10, Tryz.ntmps10
  go_wp2_with (go_at_call 26; refine hrd.mono ?_)
  rintro e w1 ⟨⟨rfl, hp⟩ | ⟨v, p, rfl, ht, hgp, hdo⟩, hb1⟩
  · have HE : Hid (P = ([], 5)) := hp
    clear hrd hp
    go_wp2
    go_ret2
    rw [HE.out]
    exact ⟨none, 0, rfl, Chs.nil _ _, hb1⟩
  · have hpe := HS.out p ht hgp
    obtain ⟨b1, b2⟩ := HBD.out p hgp
    obtain ⟨a, cap, rfl, hch, _⟩ := hdo.chs
    have hck := patchCheck a p cap w1 hch (by unfold maxLen; omega) (fun c hc => by have := (b2 c hc).1; unfold maxLen; omega) (fun c hc x hx => by have := (b2 c hc).2 x hx; unfold maxLen; omega)
    have HCH : Hid (Chs w1 a p) := hch
    obtain ⟨n, hn⟩ : ∃ n, p.length = n := ⟨_, rfl⟩
    have HN : Hid (p.length = n) := hn
    obtain ⟨q0, hq0⟩ : ∃ q, (kf p).1 = q := ⟨_, rfl⟩
    rw [hn, hq0] at hck
    rw [hn]
    have hBw1 : B ≤ w1.heap.size := by have := hb1.size; have := HB.out; omega
    clear hrd ht hgp hdo hch hn hq0 b1 b2
    by_cases hf0 : (kf p).2 = 0
    · rw [if_pos hf0] at hpe
      have HE : Hid (P = (p, 0)) := hpe
      rw [hf0, errV_zero] at hck
      clear hpe hf0
      go_wp2_with (go_at_call 17; refine hck.mono ?_)
      rintro e w2 ⟨rfl, hb2⟩
      have HC2 : Hid (Chs w2 a p) := HCH.out.below hb2
      have hb2 := hb1.trans (hb2.mono hBw1)
      clear hck hb1
      go_wp2
      go_ret2
      rw [HE.out]
      exact ⟨a, cap, by rw [HN.out]; rfl, HC2.out, hb2⟩
    · rw [if_neg hf0] at hpe
      have HE : Hid (P = ([], (kf p).2)) := hpe
      have HF : Hid ((kf p).2 ≠ 0) := hf0
      rw [errV_not hf0] at hck
      obtain ⟨f0, hf0'⟩ : ∃ q, (kf p).2 = q := ⟨_, rfl⟩
      rw [hf0'] at hck HE HF
      clear hpe hf0 hf0'
      go_wp2_with (go_at_call 17; refine hck.mono ?_)
      rintro e w2 ⟨rfl, hb2⟩
      have hb2 := hb1.trans (hb2.mono hBw1)
      clear hck hb1
      go_wp2
      go_ret2
      rw [HE.out]
      dsimp only
      rw [errV_not HF.out]
      exact ⟨none, 0, rfl, Chs.nil _ _, hb2⟩

end Go.Proofs.YtjgdicghmkfohadGreatDoor
