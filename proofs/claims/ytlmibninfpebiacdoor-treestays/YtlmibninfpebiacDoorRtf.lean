/-
  Walks of the document's TreeFault, Place, DropOf and of the comparison of two trees.
-/
import Derived.Test.YtlmibninfpebiacDoorCcf
import Derived.Test.YtlmibninfpebiacDoorRef3
import Derived.Deep.RegionWith

namespace Go.Proofs.YtlmibninfpebiacDoor
open Go.RowKit

theorem ret_tii {a c b d : Int} (h : a = c) (h2 : b = d) : Ending.returned (.tuple #[.int .i64 a, .int .i64 b]) = .returned (.tuple #[.int .i64 c, .int .i64 d]) := by rw [h, h2]

set_option maxRecDepth 100000 in
set_option maxHeartbeats 2000000 in
theorem treeFault (a : Option Addr) (l : List Fl) (ca : Nat) (w : World) (ha : Fls w a l) (hm : l.length ≤ maxLen) (hms : ∀ x ∈ l, x.2.length ≤ maxLen) (hts : ∀ x ∈ l, ∀ s ∈ x.2, s.size ≤ maxLen) :
    Calls Tryd.prog 5 #[.slice a l.length ca] w fun e w' => e = .returned (.tuple #[.int .i64 (tf l).1, .int .i64 (tf l).2]) ∧ Below w.heap.size w w' := by
  unfold maxLen at hm
  obtain ⟨n, hn⟩ : ∃ n, l.length = n := ⟨_, rfl⟩
  rw [hn] at hm ⊢
  by_cases hbig : 8 < (n : Int)
  · have he : Hid (tf l = (0, 3)) := tf_big (by rw [hn]; omega)
    clear hn ha hms hts
    go_enter Tryd.func5, Tryd.ntmps5
    go_wp2
    go_ret2
    refine ⟨?_, Below.refl _ _⟩
    rw [he.out]; rfl
  · have HN : Hid (l.length = n) := hn
    have HL : Hid (l.length ≤ 8) := by show l.length ≤ 8; omega
    have HA : Hid (Fls w a l) := ha
    have HM : Hid (∀ x ∈ l, x.2.length ≤ maxLen) := hms
    have HT : Hid (∀ x ∈ l, ∀ s ∈ x.2, s.size ≤ maxLen) := hts
    clear hn ha hms hts
    obtain ⟨B, hB⟩ : ∃ B, w.heap.size = B := ⟨_, rfl⟩
    have HB : Hid (w.heap.size = B) := hB
    rw [hB]
    clear hB
    go_enter Tryd.func5, Tryd.ntmps5
    go_wp2
    go_loopw [4] (fun i w1 => ∃ k : Nat, k ≤ n ∧ i = .int .i64 k ∧ Below B w w1 ∧ ∀ j : Nat, j < k → fAt l j = 0) (fun i _ => n - (intOf i).toNat)
    case atStart => exact ⟨0, Nat.zero_le _, rfl, Below.refl _ _, by simp⟩
    case round =>
      obtain ⟨k, hk, rfl, hbl, hall⟩ := hrel
      have HALL : Hid (∀ j : Nat, j < k → fAt l j = 0) := hall
      clear hall
      by_cases hlt : k < n
      · have ha := HA.out
        have hkl : k < l.length := by rw [HN.out]; exact hlt
        obtain ⟨b, off, rfl⟩ := ha.addr hkl
        obtain ⟨am, cm, hc1, hc2, hst, _⟩ := ha.at hkl
        have hb' : Below w.heap.size w wr := by rw [HB.out]; exact hbl
        replace hc1 := cell_later hb' hc1
        replace hc2 := cell_later hb' hc2
        replace hst := hst.below hb'
        have hml := HM.out _ (mem_getDf hkl)
        have htl := HT.out _ (mem_getDf hkl)
        have HFA : Hid (fAt l k ≠ 0 → tf l = (k, fAt l k)) := tf_at HL.out k HALL.out hkl
        have F1 : Hid (fOne (l.getD k fz) ≠ 0 → fAt l k = fOne (l.getD k fz)) := fAt_one
        have F2 : Hid (fOne (l.getD k fz) = 0 → 0 < k → bl (l.getD (k - 1) fz).1 (l.getD k fz).1 = false → fAt l k = 2) := fAt_falls
        have F3 : Hid (fOne (l.getD k fz) = 0 → (0 < k → bl (l.getD (k - 1) fz).1 (l.getD k fz).1 = true) → fAt l k = 0) := fAt_ok
        obtain ⟨p, hp⟩ : ∃ p, (l.getD k fz).1 = p := ⟨_, rfl⟩
        obtain ⟨ss, hss⟩ : ∃ ss, (l.getD k fz).2 = ss := ⟨_, rfl⟩
        rw [getD_eta2 l k hp hss] at F1 F2 F3
        rw [hp] at hc1
        rw [hss] at hc2 hst hml htl
        have hpf := pathFault p wr
        have hlf := linesFault am ss cm wr hst hml htl
        have O1 : Hid (pf p.data.toList ≠ 0 → fOne (p, ss) = pf p.data.toList) := fun h => fOne_path (x := (p, ss)) h
        have O2 : Hid (pf p.data.toList = 0 → fOne (p, ss) = lsf (bts ss)) := fun h => fOne_lines (x := (p, ss)) h
        obtain ⟨q, hq⟩ : ∃ q, ss.length = q := ⟨_, rfl⟩
        rw [hq] at hc2 hlf
        clear hst hml htl hq hp hss
        obtain ⟨f1, hf1⟩ : ∃ f, pf p.data.toList = f := ⟨_, rfl⟩
        obtain ⟨f2, hf2⟩ : ∃ f, lsf (bts ss) = f := ⟨_, rfl⟩
        rw [hf1] at hpf O1 O2
        rw [hf2] at hlf O2
        clear hf1 hf2
        by_cases h1 : f1 = 0
        · subst h1
          by_cases h2 : f2 = 0
          · subst h2
            have H1 : Hid (fOne (p, ss) = 0) := O2.out rfl
            clear O1 O2 F1
            by_cases hk0 : 0 < (k : Int)
            · obtain ⟨m, rfl⟩ : ∃ m, k = m + 1 := ⟨k - 1, by omega⟩
              obtain ⟨am2, cm2, hd1, _, _, _⟩ := ha.at (i := m) (by omega)
              replace hd1 := cell_later hb' hd1
              rw [Nat.add_sub_cancel] at F2 F3
              obtain ⟨p2, hp2⟩ : ∃ p2, (l.getD m fz).1 = p2 := ⟨_, rfl⟩
              rw [hp2] at hd1 F2 F3
              have hwm : IntKind.i64.wrap (m : Int) = m := by rw [IntKind.wrap_i64]; omega
              have hmn : m < n := by omega
              have hle := bl_le p p2
              clear ha hp2 hkl hk0 hb'
              go_wp2_with (first | (go_at_call 8; refine hpf.mono ?_; rintro e w' ⟨rfl, hw⟩; rw [hw]; clear hw w') | (go_at_call 15; refine hlf.mono ?_; rintro e w' ⟨rfl, hw⟩; rw [hw]; clear hw w'))
              by_cases h3 : bl p2 p = true
              · have HG : Hid (fAt l (m + 1) = 0) := F3.out H1.out (fun _ => h3)
                rw [h3] at hle
                obtain ⟨l1, l2⟩ : Op.bytesLess p.toList p2.toList = false ∧ (p.toList == p2.toList) = false := by simpa using hle
                clear hle h3 F2 F3
                go_quiet (fail)
                go_wp2
                go_roundw
                case rel => exact ⟨m + 1 + 1, by omega, by go_num, below_drawn hbl, fun j hj => by
                  by_cases e : j = m + 1
                  · rw [e]; exact HG.out
                  · exact HALL.out j (by omega)⟩
                case measure => simp [intOf]; omega
              · have h3 : bl p2 p = false := by simpa using h3
                have HG : Hid (fAt l (m + 1) = 2) := F2.out H1.out (by omega) h3
                clear F2 F3
                by_cases l1 : Op.bytesLess p.toList p2.toList = true
                · clear hle h3
                  go_quiet (fail)
                  go_wp2
                  go_ret2
                  refine ⟨?_, below_drawn hbl⟩
                  rw [HFA.out (by rw [HG.out]; decide), HG.out]; rfl
                · have l1 : Op.bytesLess p.toList p2.toList = false := by simpa using l1
                  have l2 : (p.toList == p2.toList) = true := by rw [l1, h3] at hle; simpa using hle
                  clear hle h3
                  go_quiet (fail)
                  go_wp2
                  go_ret2
                  refine ⟨?_, below_drawn hbl⟩
                  rw [HFA.out (by rw [HG.out]; decide), HG.out]; rfl
            · have HG : Hid (fAt l k = 0) := F3.out H1.out (fun h => by omega)
              have hkd : decide (0 < k) = false := decide_eq_false (by omega)
              clear ha hkl hb' F2 F3
              go_wp2_with (first | (go_at_call 8; refine hpf.mono ?_; rintro e w' ⟨rfl, hw⟩; rw [hw]; clear hw w') | (go_at_call 15; refine hlf.mono ?_; rintro e w' ⟨rfl, hw⟩; rw [hw]; clear hw w'))
              go_quiet (fail)
              go_wp2
              go_roundw
              case rel => exact ⟨k + 1, by omega, by go_num, below_drawn hbl, fun j hj => by
                by_cases e : j = k
                · rw [e]; exact HG.out
                · exact HALL.out j (by omega)⟩
              case measure => simp [intOf]; omega
          · have HG : Hid (fAt l k = f2) := by show fAt l k = f2; rw [F1.out (by rw [O2.out rfl]; exact h2), O2.out rfl]
            have H2 : Hid (f2 ≠ 0) := h2
            have hz : (f2 == 0) = false := by simpa using h2
            have hz' : (f2 != 0) = true := by simpa using h2
            clear ha hkl hb' F1 F2 F3 O1 O2 h2
            go_wp2_with (first | (go_at_call 8; refine hpf.mono ?_; rintro e w' ⟨rfl, hw⟩; rw [hw]; clear hw w') | (go_at_call 15; refine hlf.mono ?_; rintro e w' ⟨rfl, hw⟩; rw [hw]; clear hw w'))
            go_quiet (fail)
            go_wp2
            go_ret2
            refine ⟨?_, below_drawn hbl⟩
            rw [HFA.out (by rw [HG.out]; exact H2.out), HG.out]; rfl
        · have HG : Hid (fAt l k = f1) := by show fAt l k = f1; rw [F1.out (by rw [O1.out h1]; exact h1), O1.out h1]
          have H1 : Hid (f1 ≠ 0) := h1
          have hz : (f1 == 0) = false := by simpa using h1
          have hz' : (f1 != 0) = true := by simpa using h1
          clear ha hkl hb' F1 F2 F3 O1 O2 h1 hlf
          go_wp2_with (go_at_call 8; refine hpf.mono ?_; rintro e w' ⟨rfl, hw⟩; rw [hw]; clear hw w')
          go_quiet (fail)
          go_wp2
          go_ret2
          refine ⟨?_, below_drawn hbl⟩
          rw [HFA.out (by rw [HG.out]; exact H1.out), HG.out]; rfl
      · go_wp2
        go_ret2
        refine ⟨?_, hbl⟩
        rw [tf_ok HL.out fun j hj => HALL.out j (by have := HN.out; omega)]; rfl

set_option maxHeartbeats 1000000 in
theorem placeRef (a : Option Addr) (l : List Fl) (ca : Nat) (p : ByteArray) (w : World) (ha : Fls w a l) (hm : l.length ≤ maxLen) :
    Calls Tryd.prog 9 #[.slice a l.length ca, .string p] w fun e w' => e = .returned (.int .i64 (plc l p)) ∧ w' = w := by
  unfold maxLen at hm
  obtain ⟨n, hn⟩ : ∃ n, l.length = n := ⟨_, rfl⟩
  rw [hn] at hm ⊢
  have HN : Hid (l.length = n) := hn
  have HA : Hid (Fls w a l) := ha
  clear hn ha
  go_enter Tryd.func9, Tryd.ntmps9
  go_wp2
  go_loop [5] (fun i => ∃ k : Nat, k ≤ n ∧ i = .int .i64 k ∧ ∀ j : Nat, j < k → (l.getD j fz).1 ≠ p) (fun i => n - (intOf i).toNat)
  case atStart => exact ⟨0, Nat.zero_le _, rfl, by simp⟩
  case round =>
    obtain ⟨k, hk, rfl, hall⟩ := hrel
    have HALL : Hid (∀ j : Nat, j < k → (l.getD j fz).1 ≠ p) := hall
    clear hall
    by_cases hlt : k < n
    · have ha := HA.out
      have hkl : k < l.length := by rw [HN.out]; exact hlt
      obtain ⟨b, off, rfl⟩ := ha.addr hkl
      obtain ⟨am, cm, hc1, _⟩ := ha.at hkl
      have HP : Hid ((l.getD k fz).1 = p → plc l p = k) := plc_at HALL.out hkl
      have hbq := ba_beq (l.getD k fz).1 p
      obtain ⟨x, hx⟩ : ∃ x, (l.getD k fz).1 = x := ⟨_, rfl⟩
      rw [hx] at hc1 HP hbq
      have HX : Hid ((l.getD k fz).1 = x) := hx
      clear ha hkl hx
      by_cases he : x = p
      · have HG : Hid (plc l p = k) := HP.out he
        rw [decide_eq_true he] at hbq
        clear he HP
        go_wp2
        go_ret
        exact ⟨ret_i HG.out.symm, rfl⟩
      · have HE : Hid (x ≠ p) := he
        rw [decide_eq_false he] at hbq
        clear he HP
        go_wp2
        go_round
        case rel => exact ⟨k + 1, by omega, by go_num, fun j hj => by
          by_cases e : j = k
          · subst e; rw [HX.out]; exact HE.out
          · exact HALL.out j (by omega)⟩
        case measure => simp [intOf]; omega
    · go_wp2
      go_ret
      exact ⟨ret_i (plc_none fun j hj => HALL.out j (by have := HN.out; omega)).symm, rfl⟩

set_option maxRecDepth 100000 in
set_option maxHeartbeats 1000000 in
theorem dropRef (a : Option Addr) (l : List Fl) (ca k : Nat) (w : World) (ha : Fls w a l) (hca : l.length ≤ ca) (hl : l.length ≤ 1000) (hk : k < l.length) :
    Calls Tryd.prog 10 #[.slice a l.length ca, .int .i64 k] w fun e w' => ∃ g c, e = .returned (.slice g (l.take k ++ l.drop (k + 1)).length c) ∧ Fls w' g (l.take k ++ l.drop (k + 1)) ∧ Below w.heap.size w w' := by
  have hs1 := fun w => run_files_to a l.length ca k (by omega) w k rfl
  have hs2 := fun w => run_files_from a l.length ca (k + 1) (by omega) w ((k : Int) + 1) (by omega)
  have HX : Hid (Fls w (fa a ca 0) (l.take k)) := ha.front hca k
  have HY : Hid (Fls w (fa a ca (k + 1)) (l.drop (k + 1))) := ha.rest hca (k + 1)
  have HL1 : Hid ((l.take k).length = k) := by show (l.take k).length = k; rw [List.length_take]; omega
  have HL2 : Hid ((l.drop (k + 1)).length = l.length - (k + 1)) := List.length_drop
  obtain ⟨xs, hxs⟩ : ∃ xs, l.take k = xs := ⟨_, rfl⟩
  obtain ⟨ys, hys⟩ : ∃ ys, l.drop (k + 1) = ys := ⟨_, rfl⟩
  obtain ⟨n, hn⟩ : ∃ n, l.length = n := ⟨_, rfl⟩
  rw [hxs] at HX HL1 ⊢
  rw [hys] at HY HL2 ⊢
  rw [hn] at hs1 hs2 hl hk HL2 ⊢
  have hwr : IntKind.i64.wrap ((k : Int) + 1) = (k : Int) + 1 := by rw [IntKind.wrap_i64]; omega
  clear ha hca hxs hys hn
  go_enter Tryd.func10, Tryd.ntmps10
  go_wp2_with (at_builtin; first
    | (refine append_files rfl _ _ rfl w.heap.size _ _ _ rfl ho1 (fa a ca (k + 1)) ys (n - (k + 1)) (ca - (k + 1)) HL2.out rfl HY.out HB1.out (by omega) hsz ?_; intro v2 w2 ws ho2 hv2 hg2 hat2)
    | (refine append_files rfl _ _ rfl w.heap.size _ _ _ rfl (World.ownsRow_nil _ _ _ _) (fa a ca 0) xs k ca HL1.out rfl HX.out (Below.refl _ _) (by omega) (Nat.le_refl _) ?_; intro v1 w1 us ho1 hv1 hg1 hat1; have HB1 : Hid (Below w.heap.size w w1) := (Below.refl _ _).grown hg1 (Nat.le_refl _) (fun j hj => by cases hj); have hsz := HB1.out.size; have HV1 : Hid (Fvs w us xs) := hv1; clear hg1 hat1 hv1))
  have hb2 : Below w.heap.size w w2 := HB1.out.grown hg2 hsz (fun j hj => (ho1.lt j hj).1)
  have hv := HV1.out.append hv2
  have ho : w2.ownsRow w.heap.size 25 2 v2 (xs ++ ys).length (us ++ ws) := by
    rw [List.length_append, HL1.out, HL2.out]
    have := ho2
    rw [Nat.zero_add] at this
    exact this
  obtain ⟨g, c, rfl, hf, _⟩ := fls_of_own ho (hv.below hb2)
  clear ho hv hv2 hg2 hat2 ho2 ho1 hs1 hs2
  go_ret
  exact ⟨g, c, rfl, hf, hb2⟩

theorem texts_eq (a b : Option Addr) (xs : List ByteArray) (ca cb : Nat) (w : World) (ha : Strs w a xs) (hb : Strs w b xs) (hm : xs.length ≤ maxLen) :
    Calls Tryd.prog 12 #[.slice a xs.length ca, .slice b xs.length cb] w fun e w' => e = .returned (.bool true) ∧ Below w.heap.size w w' := by
  refine (texts_same a b xs xs ca cb w ha hb rfl hm).mono fun e w' ⟨he, n, hw⟩ => ⟨?_, ?_⟩
  · rw [he]; exact ret_b (decide_eq_true rfl)
  · rw [hw]; exact below_drawn (Below.refl _ _)

set_option maxRecDepth 100000 in
set_option maxHeartbeats 2000000 in
theorem trees_eq (a b : Option Addr) (l : List Fl) (ca cb : Nat) (w : World) (ha : Fls w a l) (hb : Fls w b l) (hm : l.length ≤ maxLen) (hms : ∀ x ∈ l, x.2.length ≤ maxLen) :
    Calls Tryd.prog 14 #[.slice a l.length ca, .slice b l.length cb] w fun e w' => e = .returned (.bool true) ∧ Below w.heap.size w w' := by
  unfold maxLen at hm
  obtain ⟨n, hn⟩ : ∃ n, l.length = n := ⟨_, rfl⟩
  rw [hn] at hm ⊢
  have HN : Hid (l.length = n) := hn
  have HA : Hid (Fls w a l) := ha
  have HBB : Hid (Fls w b l) := hb
  have HM : Hid (∀ x ∈ l, x.2.length ≤ maxLen) := hms
  clear hn ha hb hms
  obtain ⟨B, hB⟩ : ∃ B, w.heap.size = B := ⟨_, rfl⟩
  have HB : Hid (w.heap.size = B) := hB
  rw [hB]
  clear hB
  go_enter Tryd.func14, Tryd.ntmps14
  go_wp2
  go_loopw [5] (fun i w1 => ∃ k : Nat, k ≤ n ∧ i = .int .i64 k ∧ Below B w w1) (fun i _ => n - (intOf i).toNat)
  case atStart => exact ⟨0, Nat.zero_le _, rfl, Below.refl _ _⟩
  case round =>
    obtain ⟨k, hk, rfl, hbl⟩ := hrel
    by_cases hlt : k < n
    · have ha := HA.out
      have hb := HBB.out
      have hkl : k < l.length := by rw [HN.out]; exact hlt
      obtain ⟨b1, o1, rfl⟩ := ha.addr hkl
      obtain ⟨b2, o2, rfl⟩ := hb.addr hkl
      obtain ⟨am1, cm1, hc1, hc2, hs1, _⟩ := ha.at hkl
      obtain ⟨am2, cm2, hd1, hd2, hs2, _⟩ := hb.at hkl
      clear ha hb
      have hb' : Below w.heap.size w wr := by rw [HB.out]; exact hbl
      have hdr : Below wr.heap.size wr wr.drew := ⟨rfl, rfl, rfl, Nat.le_refl _, fun _ _ => rfl⟩
      replace hc1 := cell_later hb' hc1
      replace hc2 := cell_later hb' hc2
      replace hd1 := cell_later hb' hd1
      replace hd2 := cell_later hb' hd2
      have hml := HM.out _ (mem_getDf hkl)
      obtain ⟨p, hp⟩ : ∃ p, (l.getD k fz).1 = p := ⟨_, rfl⟩
      obtain ⟨ss, hss⟩ : ∃ ss, (l.getD k fz).2 = ss := ⟨_, rfl⟩
      rw [hp] at hc1 hd1
      rw [hss] at hc2 hd2 hs1 hs2 hml
      have htx := texts_eq am1 am2 ss cm1 cm2 wr.drew ((hs1.below hb').below hdr) ((hs2.below hb').below hdr) hml
      obtain ⟨q, hq⟩ : ∃ q, ss.length = q := ⟨_, rfl⟩
      rw [hq] at hc2 hd2 htx
      have KK : Hid (∀ w2, Below wr.drew.heap.size wr.drew w2 → w2.cell? ⟨b1, o1 + k * 2, none⟩ = some (.string p) ∧ w2.cell? ⟨b2, o2 + k * 2, none⟩ = some (.string p) ∧ Below B w w2) := fun w2 h => by
        have h2 := hdr.trans h
        exact ⟨cell_later h2 hc1, cell_later h2 hd1, hbl.trans (h2.mono (by have := hbl.size; have := HB.out; omega))⟩
      clear hp hss hml hb' hs1 hs2 hq hkl hdr hc1 hd1
      go_wp2
      go_region_with (go_at_call 12; refine htx.mono ?_; rintro e w2 ⟨rfl, hb2⟩)
      all_goals
        obtain ⟨c1, c2, hb3⟩ := KK.out _ hb2
        clear htx hb2 KK hc2 hd2 hbl
        go_wp2
        go_quiet (fail)
        go_wp2
        go_roundw
        case rel => exact ⟨k + 1, by omega, by go_num, below_drawn hb3⟩
        case measure => simp [intOf]; omega
    · go_wp2
      go_ret
      exact ⟨rfl, hbl⟩

end Go.Proofs.YtlmibninfpebiacDoor
