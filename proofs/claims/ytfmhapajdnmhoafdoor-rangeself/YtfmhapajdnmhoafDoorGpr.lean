/-
  Walks of git.head and git.Print: a patch as a text.
-/
import Derived.Test.YtfmhapajdnmhoafDoorGmc
import Derived.Test.YtfmhapajdnmhoafDoorXv
import Derived.Test.YtfmhapajdnmhoafDoorPck
namespace Go.Proofs.YtfmhapajdnmhoafDoor
open Go.RowKit Dist

/-- The two lines of a change. -/
def hAB (wh : Int) (p : ByteArray) : List UInt8 := hA (wh, p, []) ++ [10] ++ (hB (wh, p, []) ++ [10])

theorem hAB_eq (c : Ch) : hA c ++ [10] ++ (hB c ++ [10]) = hAB c.1 c.2.1 := rfl

set_option maxRecDepth 100000 in
set_option maxHeartbeats 1000000 in
theorem gitHead (wh : Int) (p : ByteArray) (a : Option Addr) (n ca : Nat) (w : World) (hp : p.size ≤ 1000) :
    Calls Tryd.prog 29 #[.agg #[.int .i64 wh, .string p, .slice a n ca]] w fun e w' => e = .returned (.string ⟨(hAB wh p).toArray⟩) ∧ Below w.heap.size w w' := by
  have hb0 := below_alloc w (.cells #[.int .i64 wh, .string p, .slice a n ca] 25)
  have HB0 : Hid (Below w.heap.size w (w.alloc (.cells #[.int .i64 wh, .string p, .slice a n ca] 25))) := hb0
  clear hb0
  by_cases h2 : wh = 2
  · have HE : Hid (hAB wh p = gAn ++ [10] ++ (gB ++ p.data.toList ++ [10])) := by
      show hAB wh p = _
      unfold hAB hA hB; simp only; rw [if_pos h2, if_neg (by omega)]
    subst h2
    go_enter Tryd.func29, Tryd.ntmps29
    go_wp2
    go_quiet (fail)
    go_wp2
    go_ret
    refine ⟨?_, below_drawn HB0.out⟩
    rw [HE.out]
    exact ret_s (by simp [gAn, gB])
  · have h2' : (wh == 2) = false := by simpa using h2
    by_cases h3 : wh = 3
    · have HE : Hid (hAB wh p = gA ++ p.data.toList ++ [10] ++ (gBn ++ [10])) := by
        show hAB wh p = _
        unfold hAB hA hB; simp only; rw [if_neg h2, if_pos h3]
      subst h3
      go_enter Tryd.func29, Tryd.ntmps29
      go_wp2
      go_quiet (fail)
      go_wp2
      go_ret
      refine ⟨?_, below_drawn HB0.out⟩
      rw [HE.out]
      exact ret_s (by simp [gA, gBn])
    · have h3' : (wh == 3) = false := by simpa using h3
      have HE : Hid (hAB wh p = gA ++ p.data.toList ++ [10] ++ (gB ++ p.data.toList ++ [10])) := by
        show hAB wh p = _
        unfold hAB hA hB; simp only; rw [if_neg h2, if_neg h3]
      clear h2 h3
      go_enter Tryd.func29, Tryd.ntmps29
      go_wp2
      go_quiet (fail)
      go_wp2
      go_ret
      refine ⟨?_, below_drawn HB0.out⟩
      rw [HE.out]
      exact ret_s (by simp [gA, gB])

set_option maxHeartbeats 400000 in
theorem gprint_bad (a : Option Addr) (l : List Ch) (ca : Nat) (w : World) (ha : Chs w a l) (hm : l.length ≤ maxLen) (hml : ∀ c ∈ l, c.2.2.length ≤ maxLen) (hms : ∀ c ∈ l, ∀ h ∈ c.2.2, h.2.2.length ≤ maxLen) (hf0 : (kf l).2 ≠ 0) :
    Calls Tryd.prog 15 #[.slice a l.length ca] w fun e w' => e = .returned (.tuple #[.string ⟨#[]⟩, .iface 33 (.int .i64 (kf l).2)]) ∧ Below w.heap.size w w' := by
  have hck := patchCheck a l ca w ha hm hml hms
  rw [errV_not hf0] at hck
  obtain ⟨n, hn⟩ : ∃ n, l.length = n := ⟨_, rfl⟩
  obtain ⟨f, hf⟩ : ∃ f, (kf l).2 = f := ⟨_, rfl⟩
  rw [hn, hf] at hck
  rw [hn, hf]
  clear ha hm hml hms hf0 hn hf
  go_enter Tryd.func15, Tryd.ntmps15
  go_wp2_with (go_at_call 26; refine hck.mono ?_)
  rintro e w0 ⟨rfl, hb0⟩
  clear hck
  go_wp2
  go_ret2
  exact ⟨rfl, hb0⟩

theorem tkc (l : List Ch) (k : Nat) (hk : k < l.length) : l.take (k + 1) = l.take k ++ [l.getD k cz] := by
  have e : l.getD k cz = l[k] := by simp [hk]
  rw [e, List.take_succ_eq_append_getElem hk]

theorem gpr_tk (l : List Ch) (k : Nat) (hk : k < l.length) : gpr (l.take (k + 1)) = gpr (l.take k) ++ (hAB (l.getD k cz).1 (l.getD k cz).2.1 ++ prt (l.getD k cz).2.2) := by
  rw [tkc l k hk, gpr_snoc, hAB_eq]

theorem gpr_tk_len {l : List Ch} (h : (kf l).2 = 0) (k : Nat) : (gpr (l.take k)).length ≤ 237120 := by
  obtain ⟨h1, h2⟩ := kf_rd h
  have := gpr_len (p := l.take k) fun c hc => (h2 c (List.mem_of_mem_take hc)).2
  rw [List.length_take] at this
  omega

theorem app_two (a b : List UInt8) : Lib.strCells (ByteArray.mk a.toArray ++ ByteArray.mk b.toArray) = Lib.byteCells (a ++ b) ∧ (ByteArray.mk a.toArray ++ ByteArray.mk b.toArray).size = a.length + b.length := by
  have e : (ByteArray.mk a.toArray ++ ByteArray.mk b.toArray).data.toList = a ++ b := by simp
  refine ⟨by rw [Lib.strCells_eq, e], ?_⟩
  rw [Lib.size_eq, e, List.length_append]

set_option maxRecDepth 100000 in
set_option maxHeartbeats 1000000 in
theorem gprint_ok (a : Option Addr) (l : List Ch) (ca : Nat) (w : World) (ha : Chs w a l) (hf0 : (kf l).2 = 0) :
    Calls Tryd.prog 15 #[.slice a l.length ca] w fun e w' => e = .returned (.tuple #[.string ⟨(gpr l).toArray⟩, .nilIface]) ∧ Below w.heap.size w w' := by
  obtain ⟨hl, hrd⟩ := kf_rd hf0
  have hml : ∀ c ∈ l, c.2.2.length ≤ maxLen := fun c hc => by have := (hf_zero (hrd c hc).2.2).1; unfold maxLen; omega
  have hms : ∀ c ∈ l, ∀ h ∈ c.2.2, h.2.2.length ≤ maxLen := fun c hc h hh => by have := (sf_zero (hf_rd (hrd c hc).2.2 h hh).2.2).1; unfold maxLen; omega
  have hck := patchCheck a l ca w ha (by unfold maxLen; omega) hml hms
  rw [hf0, errV_zero] at hck
  obtain ⟨q0, hq0⟩ : ∃ q, (kf l).1 = q := ⟨_, rfl⟩
  obtain ⟨n, hn⟩ : ∃ n, l.length = n := ⟨_, rfl⟩
  rw [hn, hq0] at hck
  rw [hn] at hl ⊢
  have HN : Hid (l.length = n) := hn
  have HA : Hid (Chs w a l) := ha
  have HR : Hid (∀ c ∈ l, (1 ≤ c.1 ∧ c.1 ≤ 3) ∧ pf c.2.1.data.toList = 0 ∧ (hf c.2.2).2 = 0) := hrd
  have HLen : Hid (∀ k, (gpr (l.take k)).length ≤ 237120) := gpr_tk_len hf0
  have HNX : Hid (∀ k, k < l.length → gpr (l.take (k + 1)) = gpr (l.take k) ++ (hAB (l.getD k cz).1 (l.getD k cz).2.1 ++ prt (l.getD k cz).2.2)) := gpr_tk l
  clear hn ha hrd hf0 hq0 hml hms
  obtain ⟨B, hB⟩ : ∃ B, w.heap.size = B := ⟨_, rfl⟩
  have HB : Hid (w.heap.size = B) := hB
  rw [hB] at hck ⊢
  clear hB
  go_enter Tryd.func15, Tryd.ntmps15
  go_wp2_with (go_at_call 26; refine hck.mono ?_)
  rintro e w0 ⟨rfl, hb0⟩
  obtain ⟨G, hG⟩ : ∃ G, w0.heap.size = G := ⟨_, rfl⟩
  have hBG : B ≤ G := by have := hb0.size; have := HB.out; omega
  have HG : Hid (w0.heap.size = G) := hG
  have HB0 : Hid (Below B w w0) := hb0
  clear hck hb0
  go_wp2
  go_loopw [21] (fun i w1 => ∃ k : Nat, k ≤ n ∧ i = .int .i64 k ∧ Lib.IsBuilder 76 5 G G (Lib.byteCells (gpr (l.take k))) w1 ∧ Below B w w1 ∧ G < w1.heap.size) (fun i _ => n - (intOf i).toNat)
  case atStart =>
    refine ⟨0, Nat.zero_le _, rfl, ?_, ?_, ?_⟩
    · have := Lib.fresh_isBuilder 76 5 w0
      rw [hG] at this
      exact this
    · exact HB0.out.alloc (by rw [hG]; exact hBG) _
    · simp; omega
  case round =>
    obtain ⟨k, hk, rfl, hbd, hbl, hsz⟩ := hrel
    clear HB0 hG
    by_cases hlt : k < n
    · have ha := HA.out
      have hkl : k < l.length := by rw [HN.out]; exact hlt
      obtain ⟨b, off, rfl⟩ := ha.addr hkl
      obtain ⟨ah, ch, hc0, hc1, hc2, hst, _⟩ := ha.at hkl
      clear ha
      have hb' : Below w.heap.size w wr := by rw [HB.out]; exact hbl
      replace hc0 := cell_later hb' hc0
      replace hc1 := cell_later hb' hc1
      replace hc2 := cell_later hb' hc2
      replace hst := hst.below hb'
      obtain ⟨_, r2, r3⟩ := HR.out _ (mem_getDc hkl)
      have hpl := HLen.out k
      have hpl2 := HLen.out (k + 1)
      have hnx := HNX.out k hkl
      rw [hnx, List.length_append, List.length_append] at hpl2
      obtain ⟨wh, hw⟩ : ∃ x, (l.getD k cz).1 = x := ⟨_, rfl⟩
      obtain ⟨p, hp⟩ : ∃ p, (l.getD k cz).2.1 = p := ⟨_, rfl⟩
      obtain ⟨hs, hhs⟩ : ∃ hs, (l.getD k cz).2.2 = hs := ⟨_, rfl⟩
      rw [hw] at hc0 hnx hpl2
      rw [hp] at hc1 hnx r2 hpl2
      rw [hhs] at hc2 hst hnx r3 hpl2
      have hps : p.size ≤ 1000 := by have := (pf_clean r2).2; rw [Lib.size_eq]; omega
      have hb0 := below_alloc wr (.cells #[.int .i64 wh, .string p, .slice ah hs.length ch] 25)
      have hpr := print_ok ah hs ch _ (hst.below hb0) r3
      obtain ⟨q, hq⟩ : ∃ q, hs.length = q := ⟨_, rfl⟩
      rw [hq] at hc2 hpr hb0
      have hhd := fun w' => gitHead wh p ah q ch w' hps
      obtain ⟨T, hT⟩ : ∃ T, prt hs = T := ⟨_, rfl⟩
      obtain ⟨H, hH⟩ : ∃ H, hAB wh p = H := ⟨_, rfl⟩
      rw [hT] at hpr hnx hpl2
      rw [hH] at hhd hnx hpl2
      obtain ⟨pre, hpre⟩ : ∃ pre, gpr (l.take k) = pre := ⟨_, rfl⟩
      rw [hpre] at hbd hpl hnx hpl2
      have HNX2 : Hid (gpr (l.take (k + 1)) = pre ++ (H ++ T)) := hnx
      have HBD : Hid (Lib.IsBuilder 76 5 G G (Lib.byteCells pre) wr) := hbd
      have HB0 : Hid (Below wr.heap.size wr (wr.alloc (.cells #[.int .i64 wh, .string p, .slice ah q ch] 25))) := hb0
      clear hpre hT hH hq hw hp hhs hnx r2 r3 hst hb' hkl hb0 hbd hps
      go_wp2_with (go_at_call 27; refine hpr.mono ?_)
      rintro e w1 ⟨rfl, hb1⟩
      obtain ⟨d0, d1, d2⟩ := cells_later hb1
      have hb1 := HB0.out.trans (hb1.mono HB0.out.size)
      have HB1 : Hid (Below wr.heap.size wr w1) := hb1
      have hhd := hhd w1
      clear hpr HB0 hb1 hc0 hc1 hc2
      go_wp2_with (go_at_call 29; refine hhd.mono ?_)
      rintro e w2 ⟨rfl, hb2⟩
      have hb2 := HB1.out.trans (hb2.mono HB1.out.size)
      have hbd2 := builder_below HBD.out hb2
      have hs2 := hb2.size
      have hws := writeStringK G G _ (ByteArray.mk H.toArray ++ ByteArray.mk T.toArray) w2 hbd2 (by rw [(app_two H T).2, Lib.byteCells_length]; omega) (by omega)
      rw [(app_two H T).1, ← Lib.byteCells_append] at hws
      have HB2 : Hid (Below B w w2) := hbl.trans (hb2.mono (by have := hbl.size; have := HB.out; omega))
      clear hhd HB1 HBD hbd2 hb2 hbl d0 d1 d2
      go_wp2_with (go_at_call 28; refine hws.mono ?_)
      rintro e w3 ⟨rfl, hbd3, hb3, _⟩
      have hs3 := hb3.size
      have hb3 := HB2.out.trans (hb3.mono hBG)
      clear hws HB2
      go_wp2
      go_roundw
      case rel =>
        refine ⟨k + 1, by omega, by go_num, Or.inr ?_, hb3, by omega⟩
        rw [HNX2.out]; exact hbd3
      case measure => simp [intOf]; omega
    · obtain rfl : k = n := by omega
      have hst := Tryd.Builder_String_any G G _ wr hbd (by omega)
      go_wp2_with (go_at_call 30; refine hst.mono ?_)
      rintro e w1 ⟨rfl, hbe⟩
      go_wp2
      go_ret2
      refine ⟨?_, hbl.trans (hbe.mono hBG)⟩
      rw [List.take_of_length_le (by rw [HN.out]; exact Nat.le_refl _)]; rfl

end Go.Proofs.YtfmhapajdnmhoafDoor
