/-
  Walks of the reader's take and of unified.read: a text's lines, read one by one.
-/
import Derived.Test.YtkelcjfblekhpacGreatDoorUrm
import Derived.Test.YtkelcjfblekhpacGreatDoorUspl

namespace Go.Proofs.YtkelcjfblekhpacGreatDoor
open Go.RowKit Dist

theorem ust_head {st : Us} {s : List UInt8} (h1 : st.2.1 = 0) (h2 : st.2.2 = 0) : ust st s = (hdo s).map fun h => (st.1 ++ [((h.1 : Int), (h.2.2.1 : Int), [])], h.2.1, h.2.2.2) := by
  unfold ust; rw [if_pos ⟨h1, h2⟩]
theorem ust_empty {st : Us} (h : ¬ (st.2.1 = 0 ∧ st.2.2 = 0)) : ust st [] = none := by
  unfold ust; rw [if_neg h]
theorem ust_some {st : Us} {c : UInt8} {t : List UInt8} (h : ¬ (st.2.1 = 0 ∧ st.2.2 = 0)) : ust st (c :: t) = (wnt c st.2.1 st.2.2).map fun p => (psh st.1 ((c.toNat : Int), bar t), p.1, p.2) := by
  unfold ust; rw [if_neg h]
theorem hdo_no {s : List UInt8} (h : hfit s = false) : hdo s = none := by unfold hdo; rw [if_neg (by rw [h]; decide)]

set_option maxRecDepth 100000 in
set_option maxHeartbeats 1000000 in
theorem takeAny (B r k : Nat) (st : Us) (s : ByteArray) (w : World) (hst : Rst w B r st) (hok : Okr st k) (hk : k ≤ 400000) (hg : Gs w) (hGB : GB B) (hBw : B ≤ w.heap.size) (hsz : s.size ≤ 400000) :
    Calls Tryz.prog 39 #[.pointer (some ⟨r, 0, none⟩), .string s] w fun e w' => e = .returned (.bool (ust st s.data.toList).isSome) ∧ Below B w w' ∧ ∀ st', ust st s.data.toList = some st' → Rst w' B r st' := by
  obtain ⟨l, b, a⟩ := st
  obtain ⟨o1, o2, o3, o4, o5⟩ := hok
  simp only at o1 o2 o3 o4 o5
  have hwh : ∃ v, Rsb w r v b a := ⟨hst.2.choose, hst.2.choose_spec.1⟩
  obtain ⟨v, hrb⟩ := hwh
  have hw := isWhole r v b a w hrb
  clear hrb
  by_cases hz : b = 0 ∧ a = 0
  · obtain ⟨rfl, rfl⟩ := hz
    rw [show decide (0 = 0 ∧ 0 = 0) = true by simp] at hw
    have hth : Calls Tryz.prog 58 #[.pointer (some ⟨r, 0, none⟩), .string s] w fun e w' => e = .returned (.bool (ust (l, 0, 0) s.data.toList).isSome) ∧ Below B w w' ∧ ∀ st', ust (l, 0, 0) s.data.toList = some st' → Rst w' B r st' := by
      rw [ust_head rfl rfl, Option.isSome_map]
      by_cases hf : hfit s.data.toList = true
      · refine (takeHead_yes B r l 0 0 s w hst hg hGB hBw (by omega) hsz hf).mono fun e w' ⟨h1, h2, h3⟩ => ⟨h1, h2, fun st' h => ?_⟩
        obtain ⟨⟨o, n, p, m⟩, hx, rfl⟩ := Option.map_eq_some_iff.1 h
        exact h3 o n p m hx
      · have hf : hfit s.data.toList = false := by simpa using hf
        rw [hdo_no hf]
        exact (takeHead_no B r s w hg hsz hf).mono fun e w' ⟨h1, h2⟩ => ⟨h1, h2, fun st' h => by cases h⟩
    obtain ⟨U, hU⟩ : ∃ U, ust (l, 0, 0) s.data.toList = U := ⟨_, rfl⟩
    rw [hU] at hth
    rw [hU]
    clear hU hst hg hGB o1 o2 o3 o4 o5
    go_enter Tryz.func39, Tryz.ntmps39
    go_wp2_with (go_at_call 40; refine hw.mono ?_; rintro e w' ⟨rfl, hw'⟩; rw [hw'])
    go_wp2_with (go_at_call 58; refine hth.mono ?_)
    rintro e w1 ⟨rfl, hb1, hs1⟩
    have HS1 : Hid (∀ st', U = some st' → Rst w1 B r st') := hs1
    clear hth hs1
    go_wp2
    go_ret
    exact ⟨rfl, hb1, HS1.out⟩
  · rw [show decide (b = 0 ∧ a = 0) = false by simpa using hz] at hw
    have htm : Calls Tryz.prog 59 #[.pointer (some ⟨r, 0, none⟩), .string s] w fun e w' => e = .returned (.bool (ust (l, b, a) s.data.toList).isSome) ∧ Below B w w' ∧ ∀ st', ust (l, b, a) s.data.toList = some st' → Rst w' B r st' := by
      cases hs : s.data.toList with
      | nil =>
        rw [ust_empty hz]
        exact (takeMark_empty B r s w hs).mono fun e w' ⟨h1, h2⟩ => ⟨h1, h2, fun st' h => by cases h⟩
      | cons c t =>
        rw [ust_some hz, Option.isSome_map]
        rcases List.eq_nil_or_concat l with e | ⟨l0, x, e⟩
        · exact absurd (o1 e) hz
        rw [List.concat_eq_append] at e
        subst e
        obtain ⟨hBr, v, h1, _, h3⟩ := hst
        have hx := o5 x (by simp)
        have hl := o4
        rw [List.length_append, List.length_singleton] at hl
        refine (takeMark_some B r l0 x.1 x.2.1 x.2.2 b a v s c t w h1 (h3 l0 x rfl) hBr hBw (by omega) (by omega) hsz o2 o3 hs).mono fun e w' ⟨g1, g2, g3⟩ => ⟨g1, g2, fun st' h => ?_⟩
        obtain ⟨⟨b', a'⟩, hx, rfl⟩ := Option.map_eq_some_iff.1 h
        simp only [psh_snoc]
        exact g3 b' a' hx
    obtain ⟨U, hU⟩ : ∃ U, ust (l, b, a) s.data.toList = U := ⟨_, rfl⟩
    rw [hU] at htm
    rw [hU]
    clear hU hst hg hGB o1 o2 o3 o4 o5 hz
    go_enter Tryz.func39, Tryz.ntmps39
    go_wp2_with (go_at_call 40; refine hw.mono ?_; rintro e w' ⟨rfl, hw'⟩; rw [hw'])
    go_wp2_with (go_at_call 59; refine htm.mono ?_)
    rintro e w1 ⟨rfl, hb1, hs1⟩
    have HS1 : Hid (∀ st', U = some st' → Rst w1 B r st') := hs1
    clear htm hs1
    go_wp2
    go_ret
    exact ⟨rfl, hb1, HS1.out⟩

theorem joinC_mem {c : UInt8} {l : List (List UInt8)} {x : List UInt8} (h : x ∈ l) : x.length ≤ (joinC c l).length := by
  induction l with
  | nil => simp at h
  | cons y r ih =>
    rw [joinC, List.length_append, List.length_cons]
    rcases List.mem_cons.1 h with rfl | h
    · omega
    · have := ih h; omega

theorem parts_mem {s x : List UInt8} (h : x ∈ (parts 10 s).1 ++ [(parts 10 s).2]) : x.length ≤ s.length := by
  have hj := congrArg List.length (parts_join 10 s)
  rw [List.length_append] at hj
  rcases List.mem_append.1 h with h | h
  · have := joinC_mem (c := 10) h; omega
  · simp only [List.mem_singleton] at h; subst h; omega

theorem ret_tie {v : Value} {a c : Int} {x : Value} (h : a = c) : Ending.returned (.tuple #[v, .int .i64 a, x]) = .returned (.tuple #[v, .int .i64 c, x]) := by rw [h]

set_option maxRecDepth 100000 in
set_option maxHeartbeats 1000000 in
theorem readAny (s : ByteArray) (w : World) (hg : Gs w) (hsz : s.size ≤ 400000) :
    Calls Tryz.prog 26 #[.string s] w fun e w' => Below w.heap.size w w' ∧
      ((∃ i : Nat, e = .returned (.tuple #[.slice none 0 0, .int .i64 i, .iface 23 (.int .i64 5)]) ∧ psr s.data.toList = ([], i, 5)) ∨
       (∃ (v : Value) (l : List Uk) (i : Nat), e = .returned (.tuple #[v, .int .i64 0, .nilIface]) ∧ Rcl w' w.heap.size v l ∧ rdl ([], 0, 0) (parts 10 s.data.toList).1 0 = (i, some (l, 0, 0)) ∧ (parts 10 s.data.toList).2 = [] ∧ l.length ≤ 400000 ∧ ∀ h ∈ l, h.2.2.length ≤ 400000)) := by
  have hsp := splitAll s w hsz
  have hlong : ¬ 400000 < s.data.toList.length := by rw [← Lib.size_eq]; omega
  have HPM : Hid (∀ x ∈ (parts 10 s.data.toList).1 ++ [(parts 10 s.data.toList).2], x.length ≤ s.data.toList.length) := fun x hx => parts_mem hx
  have hpl : (parts 10 s.data.toList).1.length ≤ 400000 := by
    rw [parts_count]
    have := List.count_le_length (a := (10 : UInt8)) (l := s.data.toList)
    omega
  have HB1 : Hid (∀ i, rdl ([], 0, 0) (parts 10 s.data.toList).1 0 = (i, none) → psr s.data.toList = ([], i, 5)) := fun i h => psr_bad hlong h
  have HB2 : Hid (∀ i st, rdl ([], 0, 0) (parts 10 s.data.toList).1 0 = (i, some st) → ¬ ((parts 10 s.data.toList).2 = [] ∧ st.2.1 = 0 ∧ st.2.2 = 0) → psr s.data.toList = ([], i, 5)) := fun i st h h2 => psr_open hlong h h2
  rw [← Lib.size_eq] at HPM
  obtain ⟨P, hP⟩ : ∃ P, psr s.data.toList = P := ⟨_, rfl⟩
  obtain ⟨ls, hls⟩ : ∃ ls, (parts 10 s.data.toList).1 = ls := ⟨_, rfl⟩
  obtain ⟨lz, hlz⟩ : ∃ lz, (parts 10 s.data.toList).2 = lz := ⟨_, rfl⟩
  rw [hls] at hpl HB1
  rw [hls, hlz] at hsp HPM HB2
  rw [hP] at HB1 HB2
  rw [hP, hls, hlz]
  have HG : Hid (Gs w) := hg
  obtain ⟨B, hB⟩ : ∃ B, w.heap.size = B := ⟨_, rfl⟩
  have HB : Hid (w.heap.size = B) := hB
  rw [hB] at hsp ⊢
  clear hP hls hlz hlong hg hB
  go_enter Tryz.func26, Tryz.ntmps26
  go_wp2_with (go_at_call 38; refine hsp.mono ?_)
  rintro e w1 ⟨ps, rfl, hps, hb1, hst⟩
  clear hsp
  have hpn : ps.length = ls.length + 1 := by
    have := congrArg List.length hps
    rwa [bts_length, List.length_append, List.length_singleton] at this
  obtain ⟨n, hn⟩ : ∃ n, ls.length = n := ⟨_, rfl⟩
  have HN : Hid (ls.length = n) := hn
  rw [hn] at hpn hpl
  have HPS : Hid (bts ps = ls ++ [lz]) := hps
  have HPN : Hid (ps.length = n + 1) := hpn
  rw [hpn]
  have HST : Hid (Strs w1 (some ⟨B, 0, none⟩) ps) := hst
  obtain ⟨R, hR⟩ : ∃ R, w1.heap.size = R := ⟨_, rfl⟩
  have hBR : B ≤ R := by have := hb1.size; have := HB.out; omega
  have HR : Hid (w1.heap.size = R) := hR
  have HBW : Hid (Below B w w1) := hb1
  have hGB : GB R := by rw [← hR]; exact (HG.out.below (by rw [HB.out]; exact hb1)).lt
  have HGB : Hid (GB R) := hGB
  have HG1 : Hid (Gs w1) := HG.out.below (by rw [HB.out]; exact hb1)
  clear hn hpn hps hst hb1 hR hGB
  go_wp2
  rw [HR.out]
  go_loopw [19] (fun i wr => ∃ (k : Nat) (st : Us), k ≤ n ∧ i = .int .i64 k ∧ Run ls k st ∧ Rst wr R R st ∧ Below R w1 wr) (fun i _ => n - (intOf i).toNat)
  case atStart =>
    refine ⟨0, ([], 0, 0), Nat.zero_le _, rfl, Run.zero ls, ⟨Nat.le_refl _, .slice none 0 0, ?_, Rcl.zero _ _, fun hs h e => by simp at e⟩, ?_⟩
    · have := heap_alloc_new w1 (.cells #[.slice none 0 0, .int .i64 0, .int .i64 0] 79)
      rw [HR.out] at this
      exact this
    · exact (Below.refl _ _).alloc (by rw [HR.out]; exact Nat.le_refl _) _
  case round =>
    obtain ⟨k, st, hk, rfl, hrun, hrst, hbl⟩ := hrel
    have hb' : Below w1.heap.size w1 wr := by rw [HR.out]; exact hbl
    have hRw : R ≤ wr.heap.size := by have := hbl.size; have := HR.out; omega
    have HRUN : Hid (Run ls k st) := hrun
    have HOK : Hid (Okr st k) := hrun.ok
    have HRST : Hid (Rst wr R R st) := hrst
    have HBL : Hid (Below B w wr) := HBW.out.trans (hbl.mono hBR)
    have HG2 : Hid (Gs wr) := HG1.out.below hb'
    have hx0 : k < ps.length := by rw [HPN.out]; omega
    obtain ⟨b', off', ea, hc⟩ := HST.out k hx0
    simp only [Option.some.injEq, Addr.mk.injEq, and_true] at ea
    obtain ⟨rfl, rfl⟩ := ea
    rw [Nat.zero_add] at hc
    replace hc := cell_later hb' hc
    have hxd : (ps.getD k ByteArray.empty).data.toList = (ls ++ [lz]).getD k [] := by
      rw [← HPS.out]
      unfold bts
      simp [hx0]
    have hxs : (ps.getD k ByteArray.empty).size ≤ 400000 := by
      have h1 := HPM.out (ps.getD k ByteArray.empty).data.toList (by
        rw [← HPS.out]
        unfold bts
        refine List.mem_map.2 ⟨_, ?_, rfl⟩
        have e : ps.getD k ByteArray.empty = ps[k] := by simp [hx0]
        rw [e]; exact List.getElem_mem _)
      rw [Lib.size_eq]; omega
    obtain ⟨x, hx⟩ : ∃ x, ps.getD k ByteArray.empty = x := ⟨_, rfl⟩
    rw [hx] at hc hxd hxs
    clear hx hx0 hrun hrst hb'
    by_cases hlt : k < n
    · have e1 : (ls ++ [lz]).getD k [] = ls.getD k [] := by
        have := HN.out
        simp [List.getElem?_append, show k < ls.length by omega]
      rw [e1] at hxd
      clear e1
      have htk := takeAny R R k st x wr HRST.out HOK.out (by omega) HG2.out HGB.out hRw hxs
      rw [hxd] at htk
      cases hu : ust st (ls.getD k []) with
      | none =>
        have HE : Hid (P = ([], k, 5)) := HB1.out k (HRUN.out.bad (by rw [HN.out]; exact hlt) hu)
        rw [hu] at htk
        clear hu hxd hbl
        go_wp2_with (go_at_call 39; refine htk.mono ?_; rintro e w2 ⟨rfl, hb2, _⟩)
        go_ret3
        exact ⟨HBL.out.trans (hb2.mono hBR), .inl ⟨k, rfl, HE.out⟩⟩
      | some st' =>
        have HR2 : Hid (Run ls (k + 1) st') := HRUN.out.next (by rw [HN.out]; exact hlt) hu
        rw [hu] at htk
        have htk' := htk.mono (R' := fun e w' => e = .returned (.bool true) ∧ Below R wr w' ∧ Rst w' R R st') fun e w' ⟨h1, h2, h3⟩ => ⟨h1, h2, h3 st' rfl⟩
        clear hu hxd htk
        go_wp2_with (go_at_call 39; refine htk'.mono ?_)
        rintro e w2 ⟨rfl, hb2, hr2⟩
        have HRR : Hid (Rst w2 R R st') := hr2
        have hb2 := hbl.trans hb2
        clear htk' hr2
        go_wp2
        go_roundw
        case rel => exact ⟨k + 1, st', by omega, by go_num, HR2.out, HRR.out, hb2⟩
        case measure => simp [intOf]; omega
    · obtain rfl : k = n := by omega
      have e1 : (ls ++ [lz]).getD k [] = lz := by
        have := HN.out
        simp [← this]
      rw [e1] at hxd
      have HALL : Hid (rdl ([], 0, 0) ls 0 = (k, some st)) := by
        have h1 := HRUN.out
        rw [← HN.out] at h1
        show rdl ([], 0, 0) ls 0 = (k, some st)
        rw [← HN.out]; exact h1.all
      clear e1 hk
      by_cases hz : lz = []
      · have he : x.toList.isEmpty = true := by rw [Lib.toList_data, hxd, hz]; rfl
        have HZ : Hid (lz = []) := hz
        obtain ⟨l, b, a⟩ := st
        obtain ⟨v, hv⟩ : ∃ v, Rsb wr R v b a ∧ Rcl wr R v l := ⟨HRST.out.2.choose, HRST.out.2.choose_spec.1, HRST.out.2.choose_spec.2.1⟩
        have hw := isWhole R v b a wr hv.1
        have HV : Hid (Rcl wr R v l) := hv.2
        obtain ⟨k0, _⟩ := hv.1.cells
        clear hxd hz hv
        by_cases hba : b = 0 ∧ a = 0
        · obtain ⟨rfl, rfl⟩ := hba
          rw [show decide (0 = 0 ∧ 0 = 0) = true by simp] at hw
          go_wp2_with (go_at_call 40; refine hw.mono ?_; rintro e w' ⟨rfl, hw'⟩; rw [hw'])
          go_ret3
          refine ⟨HBL.out, .inr ⟨v, l, k, rfl, ?_, HALL.out, HZ.out, Nat.le_trans HOK.out.2.2.2.1 hpl, fun h hh => ?_⟩⟩
          · obtain ⟨xs, h1, h2⟩ := HV.out
            exact ⟨xs, Joins.ownsRow_le h1 hBR, h2.1, fun i hi => by
              obtain ⟨vm, a1, a2, a3, a4, a5⟩ := h2.2 i hi
              exact ⟨vm, a1, a2, a3, Joins.ownsRow_le a4 hBR, a5⟩⟩
          · have := (HOK.out.2.2.2.2 h hh).2.2.2.2; omega
        · rw [show decide (b = 0 ∧ a = 0) = false by simpa using hba] at hw
          have HE : Hid (P = ([], k, 5)) := HB2.out k _ HALL.out (fun h => hba h.2)
          clear hba
          go_wp2_with (go_at_call 40; refine hw.mono ?_; rintro e w' ⟨rfl, hw'⟩; rw [hw'])
          go_ret3
          exact ⟨HBL.out, .inl ⟨k, rfl, HE.out⟩⟩
      · have he : x.toList.isEmpty = false := by
          rw [Lib.toList_data, hxd]
          cases lz with
          | nil => exact absurd rfl hz
          | cons _ _ => rfl
        have HE : Hid (P = ([], k, 5)) := HB2.out k _ HALL.out (fun h => hz h.1)
        clear hxd hz
        go_wp2
        go_ret3
        exact ⟨HBL.out, .inl ⟨k, rfl, HE.out⟩⟩

end Go.Proofs.YtkelcjfblekhpacGreatDoor
