/-
  Walk of mail.Box.
-/
import Derived.Test.YtppmpofdhkgjmafDoorMpt
import Derived.Test.YtppmpofdhkgjmafDoorJoin

namespace Go.Proofs.YtppmpofdhkgjmafDoor
open Go.RowKit Dist

theorem isb_all {T e : TypeId} {B b : Nat} {bs : List Value} {w w' : World} (h : Lib.IsBuilder T e B b bs w) (hb : Below w.heap.size w w') : Lib.IsBuilder T e B b bs w' := by
  have one : ∀ p, Lib.BuilderAt T e B b p bs w → Lib.BuilderAt T e B b p bs w' := by
    rintro p ⟨hB, v, hv, hr, hne⟩
    have hg : b < w.heap.size := (Array.getElem?_eq_some_iff.1 hv).1
    exact ⟨hB, v, blk_below hb hg hv, own_all hr hb, hne⟩
  exact h.imp (one _) (one _)

set_option maxRecDepth 100000 in
set_option maxHeartbeats 2000000 in
theorem boxMails (a : Option Addr) (l : List Mb) (ca : Nat) (w : World) (ha : Mls w a l) (hm : l.length ≤ maxLen) :
    Calls Tryd.prog 24 #[.slice a l.length ca] w fun e w' => e = .returned (.tuple #[.string (bxT (l.map mlb)), errV (bxf (l.map mlb))]) ∧ Below w.heap.size w w' := by
  have HR : Hid (∀ t v, bxT (l.map mlb) = t → errV (bxf (l.map mlb)) = v → Ending.returned (.tuple #[.string t, v]) = .returned (.tuple #[.string (bxT (l.map mlb)), errV (bxf (l.map mlb))])) := fun t v h1 h2 => by rw [h1, h2]
  unfold maxLen at hm
  obtain ⟨n, hn⟩ : ∃ n, l.length = n := ⟨_, rfl⟩
  have HN : Hid (l.length = n) := hn
  rw [hn] at hm ⊢
  have hbe : ∀ {k : Int}, bxf (l.map mlb) = k → k ≠ 0 → bxT (l.map mlb) = ⟨#[]⟩ := fun h1 h2 => by
    unfold bxT; rw [if_neg (by rw [h1]; exact h2)]
  by_cases h16 : 16 < n
  · have h16' : (16 : Int) < (n : Int) := by omega
    have h3 : bxf (l.map mlb) = 3 := by unfold bxf; rw [if_pos (by rw [List.length_map, hn]; exact h16)]
    have HF := HR.out ⟨#[]⟩ (.iface 33 (.int .i64 3)) (hbe h3 (by omega)) (by rw [h3, errV_not (by omega)])
    replace HF : Hid _ := HF
    clear HR hbe h3 ha hn
    go_enter Tryd.func24, Tryd.ntmps24
    go_wp2
    go_ret2
    exact ⟨HF.out, Below.refl _ _⟩
  · have h16' : ¬ (16 : Int) < (n : Int) := by omega
    have HX : Hid (bxf (l.map mlb) = fsf (l.map mlb)) := by
      show _ = _
      unfold bxf; rw [if_neg (by rw [List.length_map, hn]; exact h16)]
    have HBE : Hid (∀ {k : Int}, bxf (l.map mlb) = k → k ≠ 0 → bxT (l.map mlb) = ⟨#[]⟩) := hbe
    have HA : Hid (Mls w a l) := ha
    obtain ⟨B, hB⟩ : ∃ B, w.heap.size = B := ⟨_, rfl⟩
    have HB : Hid (w.heap.size = B) := hB
    have hfr := Lib.fresh_isBuilder 88 5 w
    rw [hB] at hfr
    clear hn hbe ha h16
    go_enter Tryd.func24, Tryd.ntmps24
    go_wp2
    go_loopw [15] (fun i w1 => ∃ k : Nat, k ≤ n ∧ i = .int .i64 k ∧ Hid (Lib.IsBuilder 88 5 B B (Lib.byteCells (btx ((l.take k).map mlb))) w1) ∧ Hid (Below B w w1) ∧ B ≤ w1.heap.size ∧ Hid (∀ m ∈ l.take k, mlf (mlb m) = 0)) (fun i _ => n - (intOf i).toNat)
    case atStart =>
      refine ⟨0, Nat.zero_le _, rfl, hfr, ?_, ?_, fun m hm => absurd hm (by simp)⟩
      · exact (Below.refl _ _).alloc (by rw [hB]; exact Nat.le_refl _) _
      · simp; omega
    case round =>
      obtain ⟨k, hk, rfl, hbd, hbl, hsz, hall⟩ := hrel
      by_cases hlt : k < n
      · have hlt' : (k : Int) < (n : Int) := by omega
        have hkl : k < l.length := by rw [HN.out]; exact hlt
        have ha := HA.out
        obtain ⟨b1, o1, rfl⟩ := ha.addr hkl
        obtain ⟨am1, cm1, c0, c1, c2, c3, hy1⟩ := (ha.all (by rw [HB.out]; exact hbl.out)).at hkl
        clear ha
        have HNX : Hid (mlf (mlb (l.getD k mz)) = 0 → (∀ m ∈ l.take (k + 1), mlf (mlb m) = 0) ∧ (btx ((l.take (k + 1)).map mlb)) = btx ((l.take k).map mlb) ++ (kB ++ (mtx (mlb (l.getD k mz)) ++ [10])) ∧ (btx ((l.take k).map mlb)).length ≤ 60009 * 16 ∧ (mtx (mlb (l.getD k mz))).length ≤ 60000) := fun h0 => by
          refine ⟨fun m hm => ?_, btx_snoc hkl, ?_, mtx_len (mlf_0.1 h0)⟩
          · rw [take_snoc hkl] at hm
            rcases List.mem_append.1 hm with hm | hm
            · exact hall.out m hm
            · rw [List.mem_singleton] at hm; rw [hm]; exact h0
          · refine Nat.le_trans (btx_len (fun m hm => by obtain ⟨y, hy, rfl⟩ := List.mem_map.1 hm; exact mlf_0.1 (hall.out y hy))) ?_
            rw [List.length_map, List.length_take]
            exact Nat.mul_le_mul_left _ (by omega)
        have HNF : Hid (mlf (mlb (l.getD k mz)) ≠ 0 → bxf (l.map mlb) = mlf (mlb (l.getD k mz))) := fun h => by
          rw [HX.out]; exact fsf_at l k hkl hall.out h
        obtain ⟨pre, hpre⟩ : ∃ pre, btx ((l.take k).map mlb) = pre := ⟨_, rfl⟩
        rw [hpre] at hbd HNX
        obtain ⟨M, hM⟩ : ∃ M, l.getD k mz = M := ⟨_, rfl⟩
        rw [hM] at c0 c1 c2 c3 hy1 HNX HNF
        obtain ⟨f, s, d, x⟩ := M
        simp only at c0 c1 c2 c3 hy1
        have hpm := fun W (h : Below wr.heap.size wr W) => printMail f s d x am1 cm1 W (hy1.all h)
        obtain ⟨E, hE⟩ : ∃ E, mlf (mlb (f, s, d, x)) = E := ⟨_, rfl⟩
        have HT : Hid (E = 0 → (prT (mlb (f, s, d, x))).data.toList = mtx (mlb (f, s, d, x))) := fun h => by
          unfold prT; rw [if_pos (hE.trans h)]
        rw [hE] at HNX HNF
        obtain ⟨T, hT⟩ : ∃ T, prT (mlb (f, s, d, x)) = T := ⟨_, rfl⟩
        rw [hT] at HT
        simp only [hE, hT] at hpm
        obtain ⟨q, hq⟩ : ∃ q, x.length = q := ⟨_, rfl⟩
        have hba := below_alloc wr (.cells #[.string f, .string s, .string d, .slice am1 x.length cm1] 51)
        have hc0 := fun W (h : Below (wr.alloc (.cells #[.string f, .string s, .string d, .slice am1 x.length cm1] 51)).heap.size (wr.alloc (.cells #[.string f, .string s, .string d, .slice am1 x.length cm1] 51)) W) => cells4_later h
        rw [hq] at c3 hba hc0
        simp only [hq] at hpm
        obtain ⟨d0, d1, d2, d3⟩ := hc0 _ (Below.refl _ _)
        have hp1 := hpm _ hba
        have HBA : Hid _ := hba
        clear hpre hM hE hT hq hy1 hpm hkl hba hc0
        by_cases e0 : E = 0
        · rw [e0, errV_zero] at hp1
          obtain ⟨g1, g2, g3, g4⟩ := HNX.out e0
          have hTl := HT.out e0
          rw [← hTl] at g2 g4
          rw [← Lib.size_eq] at g4
          have G1 : Hid _ := g1
          have G2 : Hid _ := g2
          have HQ : Hid ((((⟨#[70, 114, 111, 109, 32, 45, 32, 10]⟩ : ByteArray) ++ T) ++ ⟨#[10]⟩).data.toList = kB ++ (T.data.toList ++ [10])) := by
            show _ = _
            simp only [app_data, List.append_assoc]; rfl
          have hqz : (((⟨#[70, 114, 111, 109, 32, 45, 32, 10]⟩ : ByteArray) ++ T) ++ ⟨#[10]⟩).size ≤ 60009 := by
            rw [Lib.size_eq, HQ.out]
            simp only [kB, List.length_append, List.length_cons, List.length_nil]
            rw [← Lib.size_eq]; omega
          clear g1 g2 hTl HNX HNF HT
          go_wp2_with (go_at_call 19; refine hp1.mono ?_; clear hp1; rintro e w2 ⟨rfl, hb2⟩)
          have h2 := HBA.out.trans (hb2.mono HBA.out.size)
          have hw := writeString B B _ _ w2 (isb_all hbd.out h2) (by rw [Lib.byteCells_length]; exact Nat.le_trans (Nat.add_le_add g3 hqz) (by omega)) (Nat.le_trans hsz h2.size)
          have hb2' : Hid (Below B w w2) := hbl.out.trans (h2.mono hsz)
          have hz2 : B ≤ w2.heap.size := Nat.le_trans hsz h2.size
          clear hb2 h2 g3 g4 hqz
          go_wp2_with (go_at_call 38; refine hw.mono ?_; clear hw; rintro e w3 ⟨rfl, hb3, hbe3⟩)
          go_roundw
          case rel =>
            refine ⟨k + 1, by omega, by go_num, ?_, hb2'.out.trans hbe3, Nat.le_trans hz2 hbe3.size, G1.out⟩
            show Lib.IsBuilder _ _ _ _ _ _
            rw [G2.out]
            refine Or.inr ?_
            rw [Lib.strCells_eq, ← Lib.byteCells_append, HQ.out] at hb3
            exact hb3
          case measure => simp [intOf]; omega
        · rw [errV_not e0] at hp1
          have h3 := HNF.out e0
          have HF := HR.out _ _ (HBE.out h3 e0) (by rw [h3, errV_not e0])
          replace HF : Hid _ := HF
          clear h3 e0 HNX HNF HT
          go_wp2_with (go_at_call 19; refine hp1.mono ?_; clear hp1; rintro e w2 ⟨rfl, hb2⟩)
          go_ret2
          refine ⟨HF.out, ?_⟩
          rw [HB.out]
          have h4 := HBA.out.trans (hb2.mono HBA.out.size)
          exact hbl.out.trans (h4.mono hsz)
      · obtain rfl : k = n := by omega
        have hlt' : ¬ (k : Int) < (k : Int) := by omega
        have h0 : bxf (l.map mlb) = 0 := by
          have := hall.out
          rw [List.take_of_length_le (by rw [HN.out]; exact Nat.le_refl _)] at this
          rw [HX.out]
          exact fsf_0 (fun m hm => by obtain ⟨y, hy, rfl⟩ := List.mem_map.1 hm; exact this y hy)
        have HF := HR.out ⟨(btx ((l.take k).map mlb)).toArray⟩ .nilIface (by rw [List.take_of_length_le (by rw [HN.out]; exact Nat.le_refl _)]; unfold bxT; rw [if_pos h0]) (by rw [h0]; rfl)
        replace HF : Hid _ := HF
        have hst := Tryd.Builder_String_any B B _ wr hbd.out hsz
        obtain ⟨Z, hZ⟩ : ∃ Z : ByteArray, (⟨(btx ((l.take k).map mlb)).toArray⟩ : ByteArray) = Z := ⟨_, rfl⟩
        rw [hZ] at hst HF
        clear h0 hZ hbd
        go_wp2_with (go_at_call 39; refine hst.mono ?_; clear hst; rintro e w1 ⟨rfl, hbe⟩)
        go_ret2
        exact ⟨HF.out, by rw [HB.out]; exact hbl.out.trans hbe⟩

end Go.Proofs.YtppmpofdhkgjmafDoor
