/-
  Walk of the document's BytesOf.
-/
import Derived.Test.YtppmpofdhkgjmafDoorDec
import Derived.Test.YtppmpofdhkgjmafDoorRlt
import Derived.Maps.AppendAt

namespace Go.Proofs.YtppmpofdhkgjmafDoor
open Go.RowKit Dist

theorem ltd_cons (c : UInt8) (r : List UInt8) (n m : Nat) (out : List UInt8) : ltd (c :: r) n m out =
    if c = 61 then some out
    else if c = 10 then ltd r n m out
    else if abc.idxOf c = 64 then none
    else if 8 ≤ m + 6 then ltd r ((n * 64 + abc.idxOf c) % 16777216) (m + 6 - 8) (out ++ [UInt8.ofNat ((n * 64 + abc.idxOf c) % 16777216 / 2 ^ (m + 6 - 8))])
    else ltd r ((n * 64 + abc.idxOf c) % 16777216) (m + 6) out := by rw [ltd]
theorem drop_at {s : ByteArray} {i : Nat} (h : i < s.size) : s.data.toList.drop i = s[i] :: s.data.toList.drop (i + 1) := by
  rw [List.drop_eq_getElem_cons (by rw [← Lib.size_eq]; exact h)]
  rfl
theorem ltr_lt_ne {c : UInt8} {k : Nat} (h : k < abc.idxOf c) : ltr k ≠ c := by
  intro e
  have hk : k < 64 := Nat.lt_of_lt_of_le h (idx_le c)
  have := ltr_idx k hk
  rw [e] at this
  omega
theorem ltr_at {c : UInt8} (h : abc.idxOf c < 64) : ltr (abc.idxOf c) = c := by
  unfold ltr
  have hm : c ∈ abc := List.idxOf_lt_length_iff.1 h
  rw [List.getD_eq_getElem?_getD, List.getElem?_eq_getElem (List.idxOf_lt_length_iff.2 hm), Option.getD_some]
  exact List.getElem_idxOf (List.idxOf_lt_length_iff.2 hm)

/-- What BytesOf leaves. -/
def ByPost (w : World) (o : Option (List UInt8)) (e : Ending) (w' : World) : Prop := match o with
  | some x => ∃ a cap, e = .returned (.tuple #[.slice a x.length cap, .int .i64 0]) ∧ Bya w' a x cap ∧ Below w.heap.size w w'
  | none => e = .returned (.tuple #[.slice none 0 0, .int .i64 5]) ∧ Below w.heap.size w w'
/-- The same, and where its bytes lie is new. -/
def ByPostN (w : World) (o : Option (List UInt8)) (e : Ending) (w' : World) : Prop := match o with
  | some x => ∃ a cap, e = .returned (.tuple #[.slice a x.length cap, .int .i64 0]) ∧ Bya w' a x cap ∧ Nw w a ∧ Below w.heap.size w w'
  | none => e = .returned (.tuple #[.slice none 0 0, .int .i64 5]) ∧ Below w.heap.size w w'
theorem byte_cell (V : Nat) : ((UInt8.ofNat V).toNat : Int) = (V : Int) % 256 := by rw [UInt8.toNat_ofNat']; omega

set_option maxRecDepth 100000 in
set_option maxHeartbeats 2000000 in
theorem bytesLoop (s : ByteArray) (hs : s.size ≤ 60000) (w : World) :
    Calls Tryd.prog 14 #[.string s] w fun e w' => ByPostN w (byo s.data.toList) e w' := by
  obtain ⟨i0, hi0, hz0, hz1, hz2⟩ := info_parts Tryd.info5
  have hb60 : ¬ 60000 < s.data.toList.length := by rw [← Lib.size_eq]; omega
  have HBY : Hid (byo s.data.toList = match ltd s.data.toList 0 0 [] with
    | none => none
    | some x => if 40000 < x.length ∨ ltrs x ≠ s.data.toList then none else some x) := by
    show byo s.data.toList = _
    unfold byo
    rw [if_neg hb60]; rfl
  clear hb60
  go_enter Tryd.func14, Tryd.ntmps14
  go_wp2
  go_loopw [4, 5, 6, 7, 8] (fun s4 s5 s6 s7 _ wr => ∃ (i n m : Nat) (out : List UInt8) (ao : Option Addr) (cap : Nat), s7 = .int .i64 i ∧ s5 = .int .i64 n ∧ s6 = .int .i64 m ∧ s4 = .slice ao out.length cap ∧ i ≤ s.size ∧ n < 16777216 ∧ m < 8 ∧ out.length ≤ i ∧
      Hid (ltd (s.data.toList.drop i) n m out = ltd s.data.toList 0 0 []) ∧ Hid (wr.ownsRow w.heap.size 5 1 (.slice ao out.length cap) out.length (u8s out)) ∧ Hid (Below w.heap.size w wr))
    (fun _ _ _ s7 _ _ => s.size - (intOf s7).toNat)
  case atStart => exact ⟨0, 0, 0, [], none, 0, rfl, rfl, rfl, rfl, Nat.zero_le _, by omega, by omega, Nat.zero_le _, rfl, World.ownsRow_nil _ _ _ _, Below.refl _ _⟩
  case round =>
    obtain ⟨i, n, m, out, ao, cap, rfl, rfl, rfl, rfl, hi, hn, hm, hol, HD, HO, HB⟩ := hrel
    by_cases hlt : i < s.size
    · obtain ⟨c, hc⟩ : ∃ c, s[i] = c := ⟨_, rfl⟩
      have hdr := drop_at hlt
      rw [hc] at hdr
      by_cases h61 : c = 61
      · have HL : Hid (ltd s.data.toList 0 0 [] = some out) := by
          show ltd s.data.toList 0 0 [] = some out
          rw [← HD.out, hdr, ltd_cons, if_pos h61]
        have hne1 : ((c.toNat : Int) != 61) = false := by rw [h61]; rfl
        clear hdr h61
        have HNW : Hid (Nw w ao) := new_of_own HO.out
        have hby := bya_of_own HO.out
        obtain ⟨_, hby⟩ := hby
        have HY : Hid (Bya wr ao out cap) := hby
        clear hby
        by_cases h40 : 40000 < out.length
        · have hbn : Hid (byo s.data.toList = none) := by
            show byo s.data.toList = none
            rw [HBY.out, HL.out]
            exact if_pos (.inl h40)
          go_wp2
          go_ret2
          rw [hbn.out]
          exact ⟨rfl, HB.out⟩
        · have hlt40 : ¬ (40000 : Int) < (out.length : Int) := by omega
          have hcl := lettersOf ao out cap wr HY.out (by omega)
          obtain ⟨t, ht⟩ : ∃ t : ByteArray, (⟨(ltrs out).toArray⟩ : ByteArray) = t := ⟨_, rfl⟩
          rw [ht] at hcl
          by_cases hts : t = s
          · have hb1 : (t.toList == s.toList) = true := by rw [hts]; exact beq_self_eq_true _
            have hbn : Hid (byo s.data.toList = some out) := by
              show byo s.data.toList = some out
              rw [HBY.out, HL.out]
              exact if_neg (fun o => o.elim h40 (fun g => g ((text_of _ _).1 (ht.trans hts))))
            clear hts ht h40
            go_wp2_with (go_at_call 11; refine hcl.mono ?_; rintro e w1 ⟨rfl, rfl⟩)
            go_ret2
            rw [hbn.out]
            exact ⟨ao, cap, rfl, HY.out, HNW.out, HB.out⟩
          · have hb1 : (t.toList == s.toList) = false := (Lib.bytes_beq_false_iff t s).2 hts
            have hbn : Hid (byo s.data.toList = none) := by
              show byo s.data.toList = none
              rw [HBY.out, HL.out]
              exact if_pos (.inr (fun g => hts (ht.symm.trans ((text_of _ _).2 g))))
            clear hts ht h40
            go_wp2_with (go_at_call 11; refine hcl.mono ?_; rintro e w1 ⟨rfl, rfl⟩)
            go_ret2
            rw [hbn.out]
            exact ⟨rfl, HB.out⟩
      · by_cases h10 : c = 10
        · have hne1 : ((c.toNat : Int) != 61) = true := by rw [h10]; rfl
          have hne2 : ((c.toNat : Int) == 10) = true := by rw [h10]; rfl
          have HD2 : Hid (ltd (s.data.toList.drop (i + 1)) n m out = ltd s.data.toList 0 0 []) := by
            show ltd (s.data.toList.drop (i + 1)) n m out = _
            rw [← HD.out, hdr, ltd_cons, if_neg h61, if_pos h10]
          clear hdr h61 h10
          go_wp2
          go_roundw
          case rel => exact ⟨i + 1, n, m, out, ao, cap, by simp, rfl, rfl, rfl, by omega, hn, hm, by omega, HD2, HO, HB⟩
          case measure => simp [intOf]; omega
        · have hne1 : ((c.toNat : Int) != 61) = true := bne_iff_ne.2 (fun h => h61 (UInt8.toNat_inj.1 (by have : (61 : UInt8).toNat = 61 := rfl; omega)))
          have hne2 : ((c.toNat : Int) == 10) = false := beq_eq_false_iff_ne.2 (fun h => h10 (UInt8.toNat_inj.1 (by have : (10 : UInt8).toNat = 10 := rfl; omega)))
          have HD2 := HD.out
          rw [hdr, ltd_cons, if_neg h61, if_neg h10] at HD2
          obtain ⟨K, hK⟩ : ∃ K, abc.idxOf c = K := ⟨_, rfl⟩
          have hK64 : K ≤ 64 := hK ▸ idx_le c
          have HKE : Hid (abc.idxOf c = K) := hK
          rw [hK] at HD2
          replace HD2 : Hid (_ = _) := HD2
          clear hdr h61 h10 hK
          go_wp2
          go_loopw [8] (fun s8 ww => ∃ k : Nat, k ≤ K ∧ s8 = .int .i64 k ∧ Hid (ww.ownsRow w.heap.size 5 1 (.slice ao out.length cap) out.length (u8s out)) ∧ Hid (Below w.heap.size w ww)) (fun s8 _ => 64 - (intOf s8).toNat)
          case atStart => exact ⟨0, Nat.zero_le _, rfl, HO, HB⟩
          case round =>
            obtain ⟨k, hk, rfl, HO2, HB2⟩ := hrel
            have HOD : Hid (∀ nq, (wr.drewN nq).ownsRow w.heap.size 5 1 (.slice ao out.length cap) out.length (u8s out)) := fun nq => own_all HO2.out ⟨rfl, rfl, rfl, Nat.le_refl _, fun _ _ => rfl⟩
            have HBD : Hid (∀ nq, Below w.heap.size w (wr.drewN nq)) := fun nq => below_drawn HB2.out
            by_cases hkK : k < K
            · have hk64 : k < 64 := by omega
              have hg := abc_get k hk64
              have hx : ltr k ≠ c := ltr_lt_ne (by rw [HKE.out]; exact hkK)
              obtain ⟨e, he⟩ : ∃ e, ltr k = e := ⟨_, rfl⟩
              rw [he] at hg hx
              have hne3 : ((e.toNat : Int) != (c.toNat : Int)) = true := bne_iff_ne.2 (fun h => hx (UInt8.toNat_inj.1 (by omega)))
              have hgu : decide ((k : Int) < 64) = true := decide_eq_true (by omega)
              clear hx he
              go_wp2
              go_quiet (fail)
              go_wp2
              go_roundw
              case rel => exact ⟨k + 1, hkK, by simp, HOD.out _, HBD.out _⟩
              case measure => simp [intOf]; omega
            · obtain rfl : k = K := by omega
              by_cases h64 : k = 64
              · have hgu : decide ((k : Int) < 64) = false := decide_eq_false (by omega)
                have h642 : ((k : Int) == 64) = true := beq_iff_eq.2 (by omega)
                have hby : byo s.data.toList = none := by
                  have h2 := HD2.out
                  rw [if_pos h64] at h2
                  rw [HBY.out, ← h2]
                replace h64 : Hid (k = 64) := h64
                replace hby : Hid (byo s.data.toList = none) := hby
                go_wp2
                go_quiet (fail)
                go_wp2
                go_ret2
                rw [hby.out]
                exact ⟨rfl, HBD.out _⟩
              · have hk64 : k < 64 := by omega
                have hg := abc_get k hk64
                have hx : ltr k = c := by rw [← HKE.out]; exact ltr_at (by rw [HKE.out]; exact hk64)
                rw [hx] at hg
                have hne3 : ((c.toNat : Int) != (c.toNat : Int)) = false := by simp
                have hgu : decide ((k : Int) < 64) = true := decide_eq_true (by omega)
                have h642 : ((k : Int) == 64) = false := beq_eq_false_iff_ne.2 (by omega)
                have HD3 := HD2.out
                rw [if_neg h64] at HD3
                obtain ⟨V, hV⟩ : ∃ V, (n * 64 + k) % 16777216 = V := ⟨_, rfl⟩
                have hVi : ((n : Int) * 64 + (k : Int)) % 16777216 = (V : Int) := by omega
                have hVl : V < 16777216 := by omega
                rw [hV] at HD3
                clear hx h64 hV HKE HD2
                by_cases h8 : 2 ≤ m
                · obtain ⟨q, rfl⟩ : ∃ q, m = q + 2 := ⟨m - 2, by omega⟩
                  rw [if_pos (by omega), show q + 2 + 6 - 8 = q by omega] at HD3
                  replace HD3 : Hid (_ = _) := HD3
                  go_wp2
                  go_quiet (fail)
                  have HO3 := HOD.out nq
                  have HB3 := HBD.out nq
                  generalize wr.drewN nq = W3 at HO3 HB3 ⊢
                  have hs3 := HB3.size
                  replace HB3 : Hid (Below w.heap.size w W3) := HB3
                  replace HO3 : Hid (W3.ownsRow w.heap.size 5 1 (.slice ao out.length cap) out.length (u8s out)) := HO3
                  clear HOD HBD HO2 HB2 HO HB
                  go_wp2_with (at_builtin; refine wpList_append_own _ rfl _ _ 39 rfl w.heap.size 5 i0 (.int .u8 0) 1 1 Tryd.underlying39 hi0 hz0 hz1 hz2 rfl (by decide) _ _ _ rfl (HO3.out.alloc _) ⟨W3.heap.size, 0, none⟩ 1 1 [.int .u8 ((V : Int) / 2 ^ q % 256)] rfl rfl (cell_one_new _ _ _) (by simp [Value.oneCell']) (by unfold maxLen; omega) (by omega) (by simp; omega) ?_; intro v' W4 hown4 hgr4 _; obtain ⟨g4, cap4, rfl⟩ := ownsRow_succ hown4)
                  have HB4 : Hid (Below w.heap.size w W4) := (HB3.out.alloc hs3 _).grown hgr4 (by simp; omega) (fun k e => (HO3.out.lt k e).1)
                  have hcell : u8s (out ++ [UInt8.ofNat (V / 2 ^ q)]) = u8s out ++ [.int .u8 ((V : Int) / 2 ^ q % 256)] := by
                    rw [u8s_app]
                    show u8s out ++ [Value.int .u8 ((UInt8.ofNat (V / 2 ^ q)).toNat : Int)] = _
                    rw [byte_cell]; simp
                  rw [← hcell] at hown4
                  have hln : (out ++ [UInt8.ofNat (V / 2 ^ q)]).length = out.length + 1 := by simp
                  rw [← hln] at hown4
                  replace hown4 : Hid _ := hown4
                  replace hcell : Hid _ := hcell
                  go_wp2
                  go_roundw
                  case rel => exact ⟨i + 1, V, q, out ++ [UInt8.ofNat (V / 2 ^ q)], some ⟨g4, 0, none⟩, cap4, by simp, rfl, by simp; omega, by simp, by omega, hVl, by omega, by omega, HD3, hown4, HB4⟩
                  case measure => simp [intOf]; omega
                · rw [if_neg (by omega)] at HD3
                  replace HD3 : Hid (_ = _) := HD3
                  go_wp2
                  go_quiet (fail)
                  go_wp2
                  go_roundw
                  case rel => exact ⟨i + 1, V, m + 6, out, ao, cap, by simp, by rw [hVi], by simp, rfl, by omega, hVl, by omega, by omega, HD3, HOD.out _, HBD.out _⟩
                  case measure => simp [intOf]; omega
    · have HL : Hid (ltd s.data.toList 0 0 [] = some out) := by
        show ltd s.data.toList 0 0 [] = some out
        rw [← HD.out, List.drop_of_length_le (by rw [← Lib.size_eq]; omega)]; rfl
      have HNW : Hid (Nw w ao) := new_of_own HO.out
      have hby := bya_of_own HO.out
      obtain ⟨_, hby⟩ := hby
      have HY : Hid (Bya wr ao out cap) := hby
      clear hby
      by_cases h40 : 40000 < out.length
      · have hbn : Hid (byo s.data.toList = none) := by
          show byo s.data.toList = none
          rw [HBY.out, HL.out]
          exact if_pos (.inl h40)
        go_wp2
        go_ret2
        rw [hbn.out]
        exact ⟨rfl, HB.out⟩
      · have hlt40 : ¬ (40000 : Int) < (out.length : Int) := by omega
        have hcl := lettersOf ao out cap wr HY.out (by omega)
        obtain ⟨t, ht⟩ : ∃ t : ByteArray, (⟨(ltrs out).toArray⟩ : ByteArray) = t := ⟨_, rfl⟩
        rw [ht] at hcl
        by_cases hts : t = s
        · have hb1 : (t.toList == s.toList) = true := by rw [hts]; exact beq_self_eq_true _
          have hbn : Hid (byo s.data.toList = some out) := by
            show byo s.data.toList = some out
            rw [HBY.out, HL.out]
            exact if_neg (fun o => o.elim h40 (fun g => g ((text_of _ _).1 (ht.trans hts))))
          clear hts ht h40
          go_wp2_with (go_at_call 11; refine hcl.mono ?_; rintro e w1 ⟨rfl, rfl⟩)
          go_ret2
          rw [hbn.out]
          exact ⟨ao, cap, rfl, HY.out, HNW.out, HB.out⟩
        · have hb1 : (t.toList == s.toList) = false := (Lib.bytes_beq_false_iff t s).2 hts
          have hbn : Hid (byo s.data.toList = none) := by
            show byo s.data.toList = none
            rw [HBY.out, HL.out]
            exact if_pos (.inr (fun g => hts (ht.symm.trans ((text_of _ _).2 g))))
          clear hts ht h40
          go_wp2_with (go_at_call 11; refine hcl.mono ?_; rintro e w1 ⟨rfl, rfl⟩)
          go_ret2
          rw [hbn.out]
          exact ⟨rfl, HB.out⟩

set_option maxHeartbeats 400000 in
theorem bytesOfN (s : ByteArray) (w : World) : Calls Tryd.prog 14 #[.string s] w fun e w' => ByPostN w (byo s.data.toList) e w' := by
  by_cases hs : s.size ≤ 60000
  · exact bytesLoop s hs w
  · have hby : Hid (byo s.data.toList = none) := by
      show byo s.data.toList = none
      unfold byo
      exact if_pos (by rw [← Lib.size_eq]; omega)
    go_enter Tryd.func14, Tryd.ntmps14
    go_wp2
    go_ret2
    rw [hby.out]
    exact ⟨rfl, Below.refl _ _⟩

theorem bytesOf (s : ByteArray) (w : World) : Calls Tryd.prog 14 #[.string s] w fun e w' => ByPost w (byo s.data.toList) e w' := by
  refine (bytesOfN s w).mono fun e w' h => ?_
  cases hx : byo s.data.toList with
  | none => rw [hx] at h; exact h
  | some x =>
    rw [hx] at h
    obtain ⟨a, cap, h1, h2, _, h4⟩ := h
    exact ⟨a, cap, h1, h2, h4⟩

end Go.Proofs.YtppmpofdhkgjmafDoor
