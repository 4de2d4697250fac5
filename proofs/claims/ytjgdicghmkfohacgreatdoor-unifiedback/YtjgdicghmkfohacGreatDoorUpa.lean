/-
  Walks of the reader's take and of unified.Read: lines read one by one, as far as they go.
-/
import Derived.Test.YtjgdicghmkfohacGreatDoorUrm
import Derived.Test.YtjgdicghmkfohacGreatDoorUspl
import Derived.Test.YtjgdicghmkfohacGreatDoorUmr

namespace Go.Proofs.YtjgdicghmkfohacGreatDoor
open Go.RowKit Dist

theorem ust_head {st : Us} {s : List UInt8} (h1 : st.2.1 = 0) (h2 : st.2.2 = 0) : ust st s = (hdo s).map fun h => (st.1 ++ [((h.1 : Int), (h.2.2.1 : Int), [])], h.2.1, h.2.2.2) := by
  unfold ust; rw [if_pos ⟨h1, h2⟩]
theorem ust_empty {st : Us} (h : ¬ (st.2.1 = 0 ∧ st.2.2 = 0)) : ust st [] = none := by
  unfold ust; rw [if_neg h]
theorem ust_some {st : Us} {c : UInt8} {t : List UInt8} (h : ¬ (st.2.1 = 0 ∧ st.2.2 = 0)) : ust st (c :: t) = (wnt c st.2.1 st.2.2).map fun p => (psh st.1 ((c.toNat : Int), bar t), p.1, p.2) := by
  unfold ust; rw [if_neg h]
theorem hdo_no {s : List UInt8} (h : hfit s = false) : hdo s = none := by unfold hdo; rw [if_neg (by rw [h]; decide)]

set_option maxRecDepth 100000 in
set_option maxHeartbeats 1000000 in
theorem takeAny (B r k : Nat) (st : Us) (s : ByteArray) (w : World) (hst : Rst w B r st) (hok : Okr st k) (hk : k ≤ 400000) (hg : Gs w) (hBw : B ≤ w.heap.size) (hsz : s.size ≤ 400000) :
    Calls Tryz.prog 63 #[.pointer (some ⟨r, 0, none⟩), .string s] w fun e w' => e = .returned (.bool (ust st s.data.toList).isSome) ∧ Below B w w' ∧ Rst w' B r ((ust st s.data.toList).getD st) := by
  obtain ⟨l, b, a⟩ := st
  obtain ⟨o1, o2, o3, o4, o5⟩ := hok
  simp only at o1 o2 o3 o4 o5
  have hwh : ∃ v, Rsb w r v b a := ⟨hst.2.choose, hst.2.choose_spec.1⟩
  obtain ⟨v, hrb⟩ := hwh
  have hw := isWhole r v b a w hrb
  by_cases hz : b = 0 ∧ a = 0
  · obtain ⟨rfl, rfl⟩ := hz
    rw [show decide (0 = 0 ∧ 0 = 0) = true by simp] at hw
    have hth : Calls Tryz.prog 96 #[.pointer (some ⟨r, 0, none⟩), .string s] w fun e w' => e = .returned (.bool (ust (l, 0, 0) s.data.toList).isSome) ∧ Below B w w' ∧ Rst w' B r ((ust (l, 0, 0) s.data.toList).getD (l, 0, 0)) := by
      rw [ust_head rfl rfl]
      cases hd : hdo s.data.toList with
      | none => exact (takeHead_flaw r s w hg hsz hd).mono fun e w' ⟨h1, h2⟩ => ⟨h1, h2.mono hBw, hst.below h2⟩
      | some x =>
        obtain ⟨o, n, p, m⟩ := x
        exact (takeHead_good B r l 0 0 o n p m s w hst hg hBw (by omega) hsz hd).mono fun e w' ⟨h1, h2, h3⟩ => ⟨h1, h2, h3⟩
    obtain ⟨U, hU⟩ : ∃ U, ust (l, 0, 0) s.data.toList = U := ⟨_, rfl⟩
    rw [hU] at hth
    rw [hU]
    clear hU hst hg o1 o2 o3 o4 o5 hrb
    go_enter Tryz.func63, Tryz.ntmps63
    go_wp2_with (go_at_call 64; refine hw.mono ?_; rintro e w' ⟨rfl, hw'⟩; rw [hw'])
    go_wp2_with (go_at_call 96; refine hth.mono ?_)
    rintro e w1 ⟨rfl, hb1, hs1⟩
    have HS1 : Hid (Rst w1 B r (U.getD (l, 0, 0))) := hs1
    clear hth hs1
    go_wp2
    go_ret
    exact ⟨rfl, hb1, HS1.out⟩
  · rw [show decide (b = 0 ∧ a = 0) = false by simpa using hz] at hw
    have htm : Calls Tryz.prog 97 #[.pointer (some ⟨r, 0, none⟩), .string s] w fun e w' => e = .returned (.bool (ust (l, b, a) s.data.toList).isSome) ∧ Below B w w' ∧ Rst w' B r ((ust (l, b, a) s.data.toList).getD (l, b, a)) := by
      cases hs : s.data.toList with
      | nil =>
        rw [ust_empty hz]
        exact (takeMark_empty w.heap.size r s w hs).mono fun e w' ⟨h1, h2⟩ => ⟨h1, h2.mono hBw, hst.below h2⟩
      | cons c t =>
        rw [ust_some hz]
        cases hq : wnt c b a with
        | none => exact (takeMark_flaw r b a v s c t w hrb hs hq).mono fun e w' ⟨h1, h2⟩ => ⟨by rw [h1]; simp, h2.mono hBw, hst.below h2⟩
        | some x =>
          obtain ⟨b', a'⟩ := x
          rcases List.eq_nil_or_concat l with e | ⟨l0, x, e⟩
          · exact absurd (o1 e) hz
          rw [List.concat_eq_append] at e
          subst e
          obtain ⟨hBr, v2, h1, _, h3⟩ := hst
          have hx := o5 x (by simp)
          have hl := o4
          rw [List.length_append, List.length_singleton] at hl
          refine (takeMark_good B r l0 x.1 x.2.1 x.2.2 b a b' a' v2 s c t w h1 (h3 l0 x rfl) hBr hBw (by omega) (by omega) hsz o2 o3 hs hq).mono fun e w' ⟨g1, g2, g3⟩ => ⟨by rw [g1]; simp, g2, ?_⟩
          simp only [Option.map_some, Option.getD_some, psh_snoc]
          exact g3
    obtain ⟨U, hU⟩ : ∃ U, ust (l, b, a) s.data.toList = U := ⟨_, rfl⟩
    rw [hU] at htm
    rw [hU]
    clear hU hst hg o1 o2 o3 o4 o5 hz hrb
    go_enter Tryz.func63, Tryz.ntmps63
    go_wp2_with (go_at_call 64; refine hw.mono ?_; rintro e w' ⟨rfl, hw'⟩; rw [hw'])
    go_wp2_with (go_at_call 97; refine htm.mono ?_)
    rintro e w1 ⟨rfl, hb1, hs1⟩
    have HS1 : Hid (Rst w1 B r (U.getD (l, b, a))) := hs1
    clear htm hs1
    go_wp2
    go_ret
    exact ⟨rfl, hb1, HS1.out⟩

theorem joinC_mem {c : UInt8} {l : List (List UInt8)} {x : List UInt8} (h : x ∈ l) : x.length ≤ (joinC c l).length := by
  induction l with
  | nil => simp at h
  | cons y r ih =>
    rw [joinC, List.length_append, List.length_cons]
    rcases List.mem_cons.1 h with rfl | h
    · omega
    · have := ih h; omega

theorem parts_mem {s x : List UInt8} (h : x ∈ (parts 10 s).1 ++ [(parts 10 s).2]) : x.length ≤ s.length := by
  have hj := congrArg List.length (parts_join 10 s)
  rw [List.length_append] at hj
  rcases List.mem_append.1 h with h | h
  · have := joinC_mem (c := 10) h; omega
  · simp only [List.mem_singleton] at h; subst h; omega

theorem Strs.upto {w : World} {a : Option Addr} {ps : List ByteArray} (h : Strs w a ps) (k : Nat) : Strs w a (ps.take k) := by
  intro i hi
  rw [List.length_take] at hi
  obtain ⟨b, off, rfl, hc⟩ := h i (by omega)
  refine ⟨b, off, rfl, ?_⟩
  have h1 : i < k := by omega
  have e : (ps.take k).getD i ByteArray.empty = ps.getD i ByteArray.empty := by simp [h1]
  rw [e]; exact hc

theorem pieces_of {ps : List ByteArray} {s : ByteArray} (h : bts ps = (parts 10 s.data.toList).1 ++ [(parts 10 s.data.toList).2]) :
    ∃ n x, ps.length = n + 1 ∧ ps.getD n ByteArray.empty = x ∧ x.data.toList = (parts 10 s.data.toList).2 ∧ bts (ps.take n) = (parts 10 s.data.toList).1 ∧ (ps.take n).length = n ∧ n ≤ s.size := by
  have hl := congrArg List.length h
  rw [bts_length, List.length_append, List.length_singleton] at hl
  have hn : (parts 10 s.data.toList).1.length < ps.length := by omega
  refine ⟨(parts 10 s.data.toList).1.length, _, hl, rfl, ?_, ?_, ?_, ?_⟩
  · have e : ps.getD (parts 10 s.data.toList).1.length ByteArray.empty = ps[(parts 10 s.data.toList).1.length] := by simp [hn]
    rw [e]
    have h1 : (bts ps)[(parts 10 s.data.toList).1.length]? = some (parts 10 s.data.toList).2 := by rw [h]; simp
    unfold bts at h1
    rw [List.getElem?_map, List.getElem?_eq_getElem hn] at h1
    simpa using h1
  · have e : bts (ps.take (parts 10 s.data.toList).1.length) = (bts ps).take (parts 10 s.data.toList).1.length := by unfold bts; rw [List.map_take]
    rw [e, h, List.take_left']; rfl
  · rw [List.length_take]; omega
  · rw [Lib.size_eq]
    have h1 := joinC_len 10 (parts 10 s.data.toList).1
    have h2 := congrArg List.length (parts_join 10 s.data.toList)
    rw [List.length_append] at h2
    omega

/-- What unified.Read answers. -/
def RdP (ls : List (List UInt8)) (B : Nat) (e : Ending) (w' : World) : Prop :=
  ∃ (v : Value) (k : Nat) (st : Us), e = .returned (.tuple #[v, .int .i64 k, .bool (decide (st.2.1 = 0 ∧ st.2.2 = 0))]) ∧ Run ls k st ∧ (k < ls.length → ust st (ls.getD k []) = none) ∧ Rcl w' B v st.1

set_option maxRecDepth 100000 in
set_option maxHeartbeats 1000000 in
theorem readAny (a : Option Addr) (ps : List ByteArray) (ca : Nat) (w : World) (ha : Strs w a ps) (hg : Gs w) (hn0 : ps.length ≤ 400000) (hsz : ∀ x ∈ ps, x.size ≤ 400000) :
    Calls Tryz.prog 35 #[.slice a ps.length ca] w fun e w' => RdP (bts ps) w.heap.size e w' ∧ Below w.heap.size w w' := by
  obtain ⟨n, hn⟩ : ∃ n, ps.length = n := ⟨_, rfl⟩
  have HN : Hid (ps.length = n) := hn
  obtain ⟨ls, hls⟩ : ∃ ls, bts ps = ls := ⟨_, rfl⟩
  have HLS : Hid (bts ps = ls) := hls
  have HLN : Hid (ls.length = n) := by show ls.length = n; rw [← hls, bts_length, hn]
  have HA : Hid (Strs w a ps) := ha
  have HSZ : Hid (∀ x ∈ ps, x.size ≤ 400000) := hsz
  have HG : Hid (Gs w) := hg
  obtain ⟨R, hR⟩ : ∃ R, w.heap.size = R := ⟨_, rfl⟩
  have HR : Hid (w.heap.size = R) := hR
  rw [hn] at hn0 ⊢
  rw [hls, hR]
  clear hn hls ha hsz hg hR
  go_enter Tryz.func35, Tryz.ntmps35
  go_wp2
  rw [HR.out]
  go_loopw [3] (fun i wr => ∃ (k : Nat) (st : Us), k ≤ n ∧ i = .int .i64 k ∧ Run ls k st ∧ Rst wr R R st ∧ Below R w wr) (fun i _ => n - (intOf i).toNat)
  case atStart =>
    refine ⟨0, ([], 0, 0), Nat.zero_le _, rfl, Run.zero ls, ⟨Nat.le_refl _, .slice none 0 0, ?_, Rcl.zero _ _, fun hs h e => by simp at e⟩, ?_⟩
    · have := heap_alloc_new w (.cells #[.slice none 0 0, .int .i64 0, .int .i64 0] 116)
      rw [HR.out] at this
      exact this
    · exact (Below.refl _ _).alloc (by rw [HR.out]; exact Nat.le_refl _) _
  case round =>
    obtain ⟨k, st, hk, rfl, hrun, hrst, hbl⟩ := hrel
    have HRUN : Hid (Run ls k st) := hrun
    by_cases hlt : k < n
    · have ha := HA.out
      have hx0 : k < ps.length := by rw [HN.out]; exact hlt
      obtain ⟨b, off, rfl, hc⟩ := ha k hx0
      have hb' : Below w.heap.size w wr := by rw [HR.out]; exact hbl
      replace hc := cell_later hb' hc
      have hRw : R ≤ wr.heap.size := by have := hbl.size; have := HR.out; omega
      have hxd : (ps.getD k ByteArray.empty).data.toList = ls.getD k [] := by
        rw [← HLS.out]
        unfold bts
        simp [hx0]
      have hxs : (ps.getD k ByteArray.empty).size ≤ 400000 := HSZ.out _ (by
        have e : ps.getD k ByteArray.empty = ps[k] := by simp [hx0]
        rw [e]; exact List.getElem_mem _)
      obtain ⟨x, hx⟩ : ∃ x, ps.getD k ByteArray.empty = x := ⟨_, rfl⟩
      rw [hx] at hc hxd hxs
      have htk := takeAny R R k st x wr hrst hrun.ok (by omega) (HG.out.below hb') hRw hxs
      rw [hxd] at htk
      clear hx hx0 hrun hrst hb' hxd ha hRw
      cases hu : ust st (ls.getD k []) with
      | none =>
        have HU : Hid (ust st (ls.getD k []) = none) := hu
        rw [hu] at htk
        clear hu
        have htk' := htk.mono (R' := fun e w' => e = .returned (.bool false) ∧ Below R wr w' ∧ Rst w' R R st) fun e w' ⟨h1, h2, h3⟩ => ⟨h1, h2, h3⟩
        clear htk
        go_wp2_with (go_at_call 63; refine htk'.mono ?_)
        rintro e w2 ⟨rfl, hb2, hr2⟩
        have hb2 := hbl.trans hb2
        obtain ⟨l, b2, a2⟩ := st
        obtain ⟨v, hv⟩ : ∃ v, Rsb w2 R v b2 a2 ∧ Rcl w2 R v l := ⟨hr2.2.choose, hr2.2.choose_spec.1, hr2.2.choose_spec.2.1⟩
        have HV : Hid (Rcl w2 R v l) := hv.2
        obtain ⟨k0, _⟩ := hv.1.cells
        have HRS : Hid (Rsb w2 R v b2 a2) := hv.1
        clear hr2 hv htk' hbl
        go_wp2
        go_quiet ((go_at_call 64; exact Calls.quiet_of_same (isWhole R v b2 a2 _ HRS.out)))
        go_wp2
        go_ret3
        exact ⟨⟨v, k, _, rfl, HRUN.out, fun _ => HU.out, HV.out.below (below_drawn (Below.refl _ _))⟩, below_drawn hb2⟩
      | some st' =>
        have HR2 : Hid (Run ls (k + 1) st') := HRUN.out.next (by rw [HLN.out]; exact hlt) hu
        rw [hu] at htk
        have htk' := htk.mono (R' := fun e w' => e = .returned (.bool true) ∧ Below R wr w' ∧ Rst w' R R st') fun e w' ⟨h1, h2, h3⟩ => ⟨h1, h2, h3⟩
        clear hu htk
        go_wp2_with (go_at_call 63; refine htk'.mono ?_)
        rintro e w2 ⟨rfl, hb2, hr2⟩
        have HRR : Hid (Rst w2 R R st') := hr2
        have hb2 := hbl.trans hb2
        clear htk' hr2 hbl
        go_wp2
        go_roundw
        case rel => exact ⟨k + 1, st', by omega, by go_num, HR2.out, HRR.out, hb2⟩
        case measure => simp [intOf]; omega
    · obtain rfl : k = n := by omega
      obtain ⟨l, b2, a2⟩ := st
      obtain ⟨v, hv⟩ : ∃ v, Rsb wr R v b2 a2 ∧ Rcl wr R v l := ⟨hrst.2.choose, hrst.2.choose_spec.1, hrst.2.choose_spec.2.1⟩
      have HV : Hid (Rcl wr R v l) := hv.2
      have HRS : Hid (Rsb wr R v b2 a2) := hv.1
      obtain ⟨k0, _⟩ := hv.1.cells
      clear hrst hv hrun hk
      go_wp2
      go_quiet ((go_at_call 64; exact Calls.quiet_of_same (isWhole R v b2 a2 _ HRS.out)))
      go_wp2
      go_ret3
      exact ⟨⟨v, k, _, rfl, HRUN.out, fun h => by rw [HLN.out] at h; omega, HV.out.below (below_drawn (Below.refl _ _))⟩, below_drawn hbl⟩

end Go.Proofs.YtjgdicghmkfohacGreatDoor
