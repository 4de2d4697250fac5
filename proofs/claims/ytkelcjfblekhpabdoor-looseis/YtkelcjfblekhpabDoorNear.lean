/-
  Lines to some of which hunks have been done, as they lie in memory; walks of apply.file's near and replace: how far from where they are wanted old lines stand; so many lines by others.
-/
import Derived.Test.YtkelcjfblekhpabDoorStrict

namespace Go.Proofs.YtkelcjfblekhpabDoor
open Go.RowKit Dist

/-- Lines, where the last hunk that was done ends, how many lines more there are: in one block. -/
def Fil (w : World) (F : Nat) (A : List ByteArray) (E S : Int) : Prop :=
  ∃ a c, w.heap[F]? = some (.cells #[.slice a A.length c, .int .i64 E, .int .i64 S] 68) ∧ Strs w a A ∧ A.length ≤ c ∧ (0 < A.length → (∀ b off sp, a = some ⟨b, off, sp⟩ → b < F) ∨ TypS w a)

theorem Fil.lt {w : World} {F : Nat} {A : List ByteArray} {E S : Int} (h : Fil w F A E S) : F < w.heap.size := by
  obtain ⟨a, c, h1, _⟩ := h
  by_cases e : F < w.heap.size
  · exact e
  · rw [Array.getElem?_eq_none (by omega)] at h1; cases h1

theorem Fil.below {w w' : World} {F : Nat} {A : List ByteArray} {E S : Int} (h : Fil w F A E S) (hb : Below w.heap.size w w') : Fil w' F A E S := by
  have hl := h.lt
  obtain ⟨a, c, h1, h2, h3, h4⟩ := h
  exact ⟨a, c, blk_below hb hl h1, h2.below hb, h3, fun h0 => by
    rcases h4 h0 with h | h
    · exact .inl h
    · exact .inr (h.below hb)⟩

/-- A store into a block that holds no text leaves lines. -/
theorem Strs.other {w : World} {a : Option Addr} {A : List ByteArray} (h : Strs w a A) {F : Nat} {cs : Array Value} {t : TypeId} {fr : Nat × Nat} (hF : w.heap[F]? = some (.cells cs t fr)) (hcs : ∀ (i : Nat) (s : ByteArray), cs[i]? ≠ some (Value.string s)) (i : Nat) (v : Value) : Strs (w.setCell ⟨F, i, none⟩ v) a A := by
  intro j hj
  obtain ⟨b, off, e, hc⟩ := h j hj
  refine ⟨b, off, e, ?_⟩
  rw [World.cell?_setCell_other]
  · exact hc
  · intro e2
    have e3 := congrArg Addr.block e2
    simp only at e3
    subst e3
    rw [Lib.cell_of_heap hF] at hc
    exact hcs _ _ hc

theorem TypS.other {w : World} {a : Option Addr} (h : TypS w a) {F : Nat} {cs : Array Value} {t : TypeId} {fr : Nat × Nat} (hF : w.heap[F]? = some (.cells cs t fr)) (ht : t ≠ 9) (i : Nat) (v : Value) : TypS (w.setCell ⟨F, i, none⟩ v) a := by
  intro b off sp e
  obtain ⟨cs', fr', hc⟩ := h b off sp e
  have hne : F ≠ b := by
    intro e2
    rw [e2, hc] at hF
    simp only [Option.some.injEq, Obj.cells.injEq] at hF
    exact ht hF.2.1.symm
  refine ⟨cs', fr', ?_⟩
  simp only [World.setCell, Array.getElem?_modify]
  rw [if_neg hne]; exact hc

theorem fil_texts (a : Option Addr) (n c : Nat) (E S : Int) : ∀ (i : Nat) (s : ByteArray), (#[Value.slice a n c, .int .i64 E, .int .i64 S])[i]? ≠ some (Value.string s) := by
  intro i s h
  match i, h with
  | 0, h => simp at h
  | 1, h => simp at h
  | 2, h => simp at h
  | i + 3, h => simp at h

theorem run_pair_a (x y : Int) (w : World) : (Instr.index 110 (.agg #[.int .i64 x, .int .i64 y]) (.int .i64 0)).run Tryd.prog w = .ok (.int .i64 x) w := by kernel_rfl
theorem run_pair_b (x y : Int) (w : World) : (Instr.index 110 (.agg #[.int .i64 x, .int .i64 y]) (.int .i64 1)).run Tryd.prog w = .ok (.int .i64 y) w := by kernel_rfl

/-- What near answers. -/
def nrD : Option Int → Int
  | some d => d
  | none => 0
def nrB : Option Int → Bool
  | some _ => true
  | none => false

theorem pB_stB {A o : List ByteArray} {E a : Int} (h0 : 0 ≤ E) (h : E ≤ a) : pB A E o a = stB A a.toNat o := by
  have h1 : ((a.toNat : Nat) : Int) = a := Int.toNat_of_nonneg (by omega)
  have e1 : (a + o.length ≤ A.length) = (a.toNat + o.length ≤ A.length) := by rw [eq_iff_iff]; omega
  rw [Bool.eq_iff_iff, pB_iff, stB_iff, e1]
  exact ⟨fun x => x.2, fun x => ⟨h, x⟩⟩
theorem pB_out {A o : List ByteArray} {E a : Int} (h : ¬ E ≤ a) : pB A E o a = false := by
  rw [Bool.eq_false_iff]; intro e; exact h (pB_iff.1 e).1

set_option maxRecDepth 100000 in
set_option maxHeartbeats 4000000 in
theorem nearS (F : Nat) (A : List ByteArray) (E S : Int) (b : Option Addr) (os : List ByteArray) (cb : Nat) (W : Int) (far : Nat) (w : World) (hF : Fil w F A E S) (hb : Strs w b os) (hE : 0 ≤ E) (hE2 : E ≤ 1000) (hA : A.length ≤ 60) (ho : os.length ≤ 120) (hfar : far ≤ 60) (hW1 : -100000 ≤ W) (hW2 : W ≤ 90000) (r : Option Int) (hr : nrF (fun d => pB A E os (W + d)) (far + 1) 0 = r) :
    Calls Tryd.prog 43 #[.pointer (some ⟨F, 0, none⟩), .slice b os.length cb, .int .i64 W, .int .i64 far] w fun e w' => e = .returned (.tuple #[.int .i64 (nrD r), .bool (nrB r)]) ∧ Below w.heap.size w w' := by
  have hFl := hF.lt
  obtain ⟨a, c, hF1, hF2, hF3, _⟩ := hF
  have HFB : Hid (∀ w', Below w.heap.size w w' → w'.cell? ⟨F, 0, none⟩ = some (.slice a A.length c) ∧ w'.cell? ⟨F, 1, none⟩ = some (.int .i64 E) ∧ Strs w' a A ∧ Strs w' b os) := fun w' h => by
    have k := blk_below h hFl hF1
    exact ⟨by rw [Lib.cell_of_heap k]; rfl, by rw [Lib.cell_of_heap k]; rfl, hF2.below h, hb.below h⟩
  have HST := fun (p : Nat) w (h : Strs w a A) (h' : Strs w b os) (hp : p ≤ 100000) => standsS a b A os c cb p w h h' hF3 (by omega) (by omega) hp
  have HR : Hid (nrF (fun d => pB A E os (W + d)) (far + 1) 0 = r) := hr
  obtain ⟨m, hm⟩ : ∃ m, A.length = m := ⟨_, rfl⟩
  obtain ⟨n, hn⟩ : ∃ n, os.length = n := ⟨_, rfl⟩
  rw [hm] at HFB HST
  rw [hn] at HST
  rw [hn]
  obtain ⟨B, hB⟩ : ∃ B, w.heap.size = B := ⟨_, rfl⟩
  have HB : Hid (w.heap.size = B) := hB
  rw [hB] at HFB ⊢
  clear hF1 hF2 hF3 hb hr hm hn hB hFl hA ho
  go_enter Tryd.func43, Tryd.ntmps43
  go_wp2
  go_loopw [10, 12, 15] (fun _ _ i w1 => ∃ k : Nat, k ≤ far + 1 ∧ i = .int .i64 k ∧ Below B w w1 ∧ ∀ n : Nat, n < k → pB A E os (W + -(n : Int)) = false ∧ pB A E os (W + n) = false) (fun _ _ i _ => far + 1 - (intOf i).toNat)
  case atStart => exact ⟨0, Nat.zero_le _, rfl, Below.refl _ _, fun n hn => absurd hn (Nat.not_lt_zero _)⟩
  case round =>
    obtain ⟨k, hk, rfl, hbl, hall⟩ := hrel
    have HALL : Hid (∀ n : Nat, n < k → pB A E os (W + -(n : Int)) = false ∧ pB A E os (W + n) = false) := hall
    clear hall
    by_cases hlt : k < far + 1
    · have hlt' : (k : Int) < (far : Int) + 1 := by omega
      have HSK : Hid (r = nrF (fun d => pB A E os (W + d)) ((far - k) + 1) k) := by
        show r = _
        rw [← HR.out, nr_skip k (by omega) HALL.out, show far + 1 - k = (far - k) + 1 by omega]
      obtain ⟨B1, hB1⟩ : ∃ B1, wr.heap.size = B1 := ⟨_, rfl⟩
      have HB1 : Hid (wr.heap.size = B1) := hB1
      clear hB1
      go_wp2
      have hzB : B ≤ wr.heap.size := by have := hbl.size; have := HB.out; omega
      go_loopw [12, 22] (fun _ i w1 => Below B w w1 ∧ ((i = .int .i64 0) ∨ (i = .int .i64 1 ∧ pB A E os (W + -(k : Int)) = false) ∨ (i = .int .i64 2 ∧ pB A E os (W + -(k : Int)) = false ∧ pB A E os (W + k) = false))) (fun _ i _ => 2 - (intOf i).toNat)
      case atStart => exact ⟨hbl, .inl rfl⟩
      case round =>
        obtain ⟨hbt, hcase⟩ := hrel
        obtain ⟨f0, f1, sA, sO'⟩ := HFB.out wr hbt
        have hzT : B ≤ wr.heap.size := by have := hbt.size; have := HB.out; omega
        have SA : Hid (Strs wr a A) := sA
        have SO : Hid (Strs wr b os) := sO'
        clear sA sO'
        rcases hcase with rfl | ⟨rfl, h1⟩ | ⟨rfl, h1, h2⟩
        · have hix := fun w => run_pair_a (-(k : Int)) k w
          by_cases hEa : E ≤ W + -(k : Int)
          · obtain ⟨P, hP⟩ := Int.eq_ofNat_of_zero_le (show 0 ≤ W + -(k : Int) by omega)
            have hst := HST P wr SA.out SO.out (by omega)
            have HPB : Hid (pB A E os (W + -(k : Int)) = stB A P os) := by
              show pB A E os (W + -(k : Int)) = stB A P os
              rw [pB_stB hE hEa, hP]; rfl
            rw [← hP] at hst
            clear hP
            by_cases hok : stB A P os = true
            · rw [hok] at hst HPB
              have HRR : Hid (r = some (-(k : Int))) := by
                show r = _
                rw [HSK.out]; exact nr_up HPB.out
              clear hok HPB HSK
              go_wp2_with (go_at_call 22; refine hst.mono ?_; rintro e w2 ⟨rfl, hb2⟩)
              go_ret2
              refine ⟨?_, hbt.trans (hb2.mono hzT)⟩
              rw [HRR.out]; rfl
            · have hok : stB A P os = false := by simpa using hok
              rw [hok] at hst HPB
              clear hok
              go_wp2_with (go_at_call 22; refine hst.mono ?_; rintro e w2 ⟨rfl, hb2⟩)
              go_roundw
              case rel => exact ⟨hbt.trans (hb2.mono hzT), .inr (.inl ⟨rfl, HPB.out⟩)⟩
              case measure => simp [intOf]
          · have hEa' : ¬ (E ≤ W + -(k : Int)) := hEa
            have HPB : Hid (pB A E os (W + -(k : Int)) = false) := pB_out hEa
            clear hEa
            go_wp2
            go_roundw
            case rel => exact ⟨hbt, .inr (.inl ⟨rfl, HPB.out⟩)⟩
            case measure => simp [intOf]
        · have hix := fun w => run_pair_b (-(k : Int)) k w
          have H1 : Hid (pB A E os (W + -(k : Int)) = false) := h1
          clear h1
          by_cases hEa : E ≤ W + (k : Int)
          · obtain ⟨P, hP⟩ := Int.eq_ofNat_of_zero_le (show 0 ≤ W + (k : Int) by omega)
            have hst := HST P wr SA.out SO.out (by omega)
            have HPB : Hid (pB A E os (W + (k : Int)) = stB A P os) := by
              show pB A E os (W + (k : Int)) = stB A P os
              rw [pB_stB hE hEa, hP]; rfl
            rw [← hP] at hst
            clear hP
            by_cases hok : stB A P os = true
            · rw [hok] at hst HPB
              have HRR : Hid (r = some ((k : Int))) := by
                show r = _
                rw [HSK.out]; exact nr_down H1.out HPB.out
              clear hok HPB HSK
              go_wp2_with (go_at_call 22; refine hst.mono ?_; rintro e w2 ⟨rfl, hb2⟩)
              go_ret2
              refine ⟨?_, hbt.trans (hb2.mono hzT)⟩
              rw [HRR.out]; rfl
            · have hok : stB A P os = false := by simpa using hok
              rw [hok] at hst HPB
              clear hok
              go_wp2_with (go_at_call 22; refine hst.mono ?_; rintro e w2 ⟨rfl, hb2⟩)
              go_roundw
              case rel => exact ⟨hbt.trans (hb2.mono hzT), .inr (.inr ⟨rfl, H1.out, HPB.out⟩)⟩
              case measure => simp [intOf]
          · have hEa' : ¬ (E ≤ W + (k : Int)) := hEa
            have HPB : Hid (pB A E os (W + (k : Int)) = false) := pB_out hEa
            clear hEa
            go_wp2
            go_roundw
            case rel => exact ⟨hbt, .inr (.inr ⟨rfl, H1.out, HPB.out⟩)⟩
            case measure => simp [intOf]
        · have H1 : Hid (pB A E os (W + -(k : Int)) = false) := h1
          have H2 : Hid (pB A E os (W + (k : Int)) = false) := h2
          clear h1 h2
          go_wp2
          go_roundw
          case rel => exact ⟨k + 1, by omega, by go_num, hbt, fun n hn => by
            by_cases e : n = k
            · rw [e]; exact ⟨H1.out, H2.out⟩
            · exact HALL.out n (by omega)⟩
          case measure => simp [intOf]; omega
    · have hlt' : ¬ (k : Int) < (far : Int) + 1 := by omega
      have HRR : Hid (r = none) := by
        show r = none
        rw [← HR.out, nr_skip (far + 1) (Nat.le_refl _) (fun n hn => HALL.out n (by omega)), Nat.sub_self]; rfl
      go_wp2
      go_ret2
      refine ⟨?_, hbl⟩
      rw [HRR.out]; rfl

end Go.Proofs.YtkelcjfblekhpabDoor
