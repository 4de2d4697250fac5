/-
  Walk of the law LineBack: it returns true and writes nothing that was there.
-/
import Derived.Test.YtapebgoddcoijaaDoorPath
namespace Go.Proofs.YtapebgoddcoijaaDoor
open Go.RowKit

theorem concat_data (a b : ByteArray) : (a ++ b).data.toList = a.data.toList ++ b.data.toList := by simp

/-- A path and a name behind it. -/
theorem names_snoc (p q : List UInt8) (h : (47 : UInt8) ∉ q) : names (p ++ 47 :: q) = names p ++ [q] := by
  have hj := parts_join 47 p
  have e : p ++ 47 :: q = joinC 47 ((parts 47 p).1 ++ [(parts 47 p).2]) ++ q := by
    rw [joinC_snoc]
    conv => lhs; rw [← hj]
    simp
  have := parts_of 47 ((parts 47 p).1 ++ [(parts 47 p).2]) q (fun x hx => by
    rcases List.mem_append.1 hx with hx | hx
    · exact parts_free1 47 p x hx
    · rw [List.mem_singleton] at hx; subst hx; exact parts_free2 47 p) h
  unfold names
  rw [e, this]

theorem pf_x (p : List UInt8) (h : pf p = 0) (hl : p.length ≤ 18) : pf (p ++ [47, 120]) = 0 := by
  unfold pf at h ⊢
  rw [if_neg (by omega)] at h
  rw [if_neg (by simp; omega)]
  unfold pn at h ⊢
  rw [names_snoc p [120] (by decide), List.all_append]
  have h' : (names p).all isNm = true := by
    by_cases e : (names p).all isNm = true
    · exact e
    · rw [if_neg e] at h; simp at h
  rw [h', if_pos (by decide)]

theorem pf_slash (p : List UInt8) (hl : p.length ≤ 18) : pf (p ++ [47]) = 5 := by
  unfold pf
  rw [if_neg (by simp; omega)]
  unfold pn
  rw [names_snoc p [] (by decide), List.all_append]
  rw [if_neg]
  simp [isNm]

theorem strs_lit (w : World) : Strs (w.alloc (.cells #[.string ⟨#[97]⟩, .string ⟨#[]⟩] 9)) (some ⟨w.heap.size, 0, none⟩) [⟨#[97]⟩, ⟨#[]⟩] := by
  intro i hi
  refine ⟨_, 0, rfl, ?_⟩
  have hblk := heap_alloc_new w (.cells #[.string ⟨#[97]⟩, .string ⟨#[]⟩] 9)
  rw [Nat.zero_add, Lib.cell_of_heap hblk]
  match i, hi with
  | 0, _ => rfl
  | 1, _ => rfl

theorem join_bad' (a : Option Addr) (ss : List ByteArray) (ca : Nat) (w : World) (ha : Strs w a ss) (hm : ss.length ≤ maxLen) (hf : lsf (bts ss) ≠ 0) :
    Calls Tryd.prog 10 #[.slice a ss.length ca] w fun e w' => e = .returned (.tuple #[.string (str []), .iface 23 (.int .i64 (lsf (bts ss)))]) ∧ Below w.heap.size w w' :=
  (join_bad a ss ca w ha hm hf).mono fun e w' ⟨he, hw⟩ => ⟨he, by rw [hw]; exact Below.refl _ _⟩

theorem split_bad (s : ByteArray) (w : World) (hs : s.size ≤ 140737488355328) (h : splitC s.data.toList ≠ 0) :
    Calls Tryd.prog 12 #[.string s] w fun e w' => e = .returned (.tuple #[.slice none 0 0, .iface 23 (.int .i64 (splitC s.data.toList))]) ∧ Below w.heap.size w w' := by
  by_cases hl : (parts 10 s.data.toList).2 = []
  · have e : splitC s.data.toList = lsf (parts 10 s.data.toList).1 := by unfold splitC; rw [if_pos hl]
    rw [e] at h ⊢
    exact split_lines s w hs hl h
  · have e : splitC s.data.toList = 5 := by unfold splitC; rw [if_neg hl]
    rw [e]
    exact (split_syntax s w hs hl).mono fun e w' ⟨he, hw⟩ => ⟨he, by rw [hw]; exact Below.refl _ _⟩

theorem split_good (s : ByteArray) (w : World) (hs : s.size ≤ 140737488355328) (h : splitC s.data.toList = 0) :
    Calls Tryd.prog 12 #[.string s] w fun e w' => ∃ (b : Nat) (ps : List ByteArray), e = .returned (.tuple #[.slice (some ⟨b, 0, none⟩) ps.length ps.length, .nilIface]) ∧
      bts ps = (parts 10 s.data.toList).1 ∧ Below w.heap.size w w' ∧ Strs w' (some ⟨b, 0, none⟩) ps := by
  unfold splitC at h
  by_cases hl : (parts 10 s.data.toList).2 = []
  · rw [if_pos hl] at h
    exact split_ok s w hs hl h
  · rw [if_neg hl] at h
    simp at h

theorem bts_inj {a b : List ByteArray} (h : bts a = bts b) : a = b := by
  have := congrArg (List.map str) h
  unfold bts at this
  rw [List.map_map, List.map_map] at this
  have e : (str ∘ fun x : ByteArray => x.data.toList) = id := by funext x; exact data_str x
  rw [e, List.map_id, List.map_id] at this
  exact this

/-- Lines that are good, joined: split they are the same. -/
theorem split_joined (ss : List ByteArray) (w : World) (h : lsf (bts ss) = 0) :
    Calls Tryd.prog 12 #[.string (str (joinC 10 (bts ss)))] w fun e w' => ∃ b : Nat, e = .returned (.tuple #[.slice (some ⟨b, 0, none⟩) ss.length ss.length, .nilIface]) ∧
      Below w.heap.size w w' ∧ Strs w' (some ⟨b, 0, none⟩) ss := by
  have ⟨h1, h2⟩ := splitC_join h
  have ⟨h3, h4⟩ := lsf_zero h
  have hj := joinC_small h4
  refine (split_good (str (joinC 10 (bts ss))) w (by rw [str_size]; omega) (by rw [str_data]; exact h2)).mono ?_
  rintro e w' ⟨b, ps, he, hps, hb, hst⟩
  rw [str_data, h1] at hps
  have := bts_inj hps
  subst this
  exact ⟨b, he, hb, hst⟩

/-- A text that is split, joined: it is the same. -/
theorem join_splitted (s : ByteArray) (ps : List ByteArray) (a : Option Addr) (ca : Nat) (w : World) (h : splitC s.data.toList = 0) (hps : bts ps = (parts 10 s.data.toList).1) (hst : Strs w a ps) :
    Calls Tryd.prog 10 #[.slice a ps.length ca] w fun e w' => e = .returned (.tuple #[.string s, .nilIface]) ∧ Below w.heap.size w w' := by
  have ⟨h1, h2⟩ := join_split h
  have hj := join_ok a ps ca w hst (by rw [hps]; exact h2)
  rw [hps, h1, data_str] at hj
  exact hj

theorem joined_lit (w : World) : Calls Tryd.prog 10 #[.slice (some ⟨w.heap.size, 0, none⟩) 2 2] (w.alloc (.cells #[.string ⟨#[97]⟩, .string ⟨#[]⟩] 9)) fun e w' => e = .returned (.tuple #[.string ⟨#[97, 10, 10]⟩, .nilIface]) ∧ Below w.heap.size w w' := by
  refine (join_ok _ _ 2 _ (strs_lit w) (by decide)).mono ?_
  rintro e w' ⟨he, hb⟩
  refine ⟨?_, ((Below.refl _ _).alloc (Nat.le_refl _) _).trans (hb.mono (by simp))⟩
  rw [he]
  rfl

set_option maxRecDepth 100000 in
set_option maxHeartbeats 2000000 in
theorem back_any (a : Option Addr) (ss : List ByteArray) (ca : Nat) (s p : ByteArray) (w : World) (ha : Strs w a ss) (hm : ss.length ≤ maxLen) (hs : s.size ≤ 140737488355328) (hp : p.size ≤ 140737488355328) :
    Calls Tryd.prog 4 #[.slice a ss.length ca, .string s, .string p] w fun e w' => e = .returned (.bool true) ∧ Below w.heap.size w w' := by
  have hJ0 := joined_lit w
  have hcL : lsf (bts ss) = 0 ∨ lsf (bts ss) ≠ 0 := Decidable.em _
  have hcS : splitC s.data.toList = 0 ∨ splitC s.data.toList ≠ 0 := Decidable.em _
  have hcP : pf p.data.toList ≠ 0 ∨ (pf p.data.toList = 0 ∧ ¬ (p.size : Int) ≤ 18) ∨ (pf p.data.toList = 0 ∧ (p.size : Int) ≤ 18) := by
    by_cases h1 : pf p.data.toList = 0
    · by_cases h2 : (p.size : Int) ≤ 18
      · exact Or.inr (Or.inr ⟨h1, h2⟩)
      · exact Or.inr (Or.inl ⟨h1, h2⟩)
    · exact Or.inl h1
  obtain ⟨n, hn⟩ : ∃ n, ss.length = n := ⟨_, rfl⟩
  have HN : Hid (ss.length = n) := hn
  have HCL : Hid (lsf (bts ss) = 0 ∨ lsf (bts ss) ≠ 0) := hcL
  have HCS : Hid (splitC s.data.toList = 0 ∨ splitC s.data.toList ≠ 0) := hcS
  have HCP : Hid (pf p.data.toList ≠ 0 ∨ (pf p.data.toList = 0 ∧ ¬ (p.size : Int) ≤ 18) ∨ (pf p.data.toList = 0 ∧ (p.size : Int) ≤ 18)) := hcP
  have HM : Hid (ss.length ≤ maxLen) := hm
  clear hcL hcS hcP hm
  rw [hn]
  clear hn
  go_enter Tryd.func4, Tryd.ntmps4
  go_wp2_with (go_at_call 10; refine hJ0.mono ?_; clear hJ0; rintro e w1 ⟨rfl, hb1⟩)
  have haw1 := ha.below hb1
  rcases HCL.out with hL | hL
  case' inl =>
    have hj := join_ok a ss ca w1 haw1 hL
    rw [HN.out] at hj
    refine hj.mono ?_
    clear hj
    rintro e w2 ⟨rfl, hb2⟩
    have hb2 := hb1.trans (hb2.mono hb1.size)
    have hsp := split_joined ss w2 hL
    rw [HN.out] at hsp
    obtain ⟨J, hJ⟩ : ∃ J, str (joinC 10 (bts ss)) = J := ⟨_, rfl⟩
    rw [hJ] at hsp ⊢
    clear hJ
    go_wp2_with (go_at_call 12; refine hsp.mono ?_; clear hsp; rintro e w3 ⟨b3, rfl, hb3, hst3⟩)
    have hb3 := hb2.trans (hb3.mono hb2.size)
    have htx := texts_same _ _ ss ss n ca w3 hst3 (ha.below hb3) rfl HM.out
    rw [HN.out, decide_eq_true rfl] at htx
    refine htx.mono ?_
    clear htx hst3
    rintro e w4 ⟨rfl, q, hq⟩
    have hb4 : Below w.heap.size w w4 := by rw [hq]; exact hb3.trans ⟨rfl, rfl, rfl, Nat.le_refl _, fun _ _ => rfl⟩
    clear hq hb3 hb2
    go_wp2_with fail
  case' inr =>
    have hj := join_bad' a ss ca w1 haw1 HM.out hL
    rw [HN.out] at hj
    obtain ⟨f, hf⟩ : ∃ f, lsf (bts ss) = f := ⟨_, rfl⟩
    rw [hf] at hj
    refine hj.mono ?_
    clear hj hf
    rintro e w4 ⟨rfl, hb2⟩
    have hb4 := hb1.trans (hb2.mono hb1.size)
    clear hb2
    go_wp2_with fail
  all_goals
    clear hL haw1 hb1
    rcases HCS.out with hS | hS
    case' inl =>
      refine (split_good s w4 hs hS).mono ?_
      rintro e w5 ⟨b5, ps, rfl, hps, hb5, hst5⟩
      have hb5 := hb4.trans (hb5.mono hb4.size)
      have hj := join_splitted s ps _ ps.length w5 hS hps hst5
      obtain ⟨m, hm⟩ : ∃ m, ps.length = m := ⟨_, rfl⟩
      rw [hm] at hj ⊢
      clear hm hps hst5
      go_wp2_with (go_at_call 10; refine hj.mono ?_; clear hj; rintro e w6 ⟨rfl, hb6⟩)
      have hb6 := hb5.trans (hb6.mono hb5.size)
      clear hb5
    case' inr =>
      obtain ⟨f, hf⟩ : ∃ f, splitC s.data.toList = f := ⟨_, rfl⟩
      have hsp := split_bad s w4 hs hS
      rw [hf] at hsp
      refine hsp.mono ?_
      clear hsp hf
      rintro e w6 ⟨rfl, hb6⟩
      have hb6 := hb4.trans (hb6.mono hb4.size)
      go_wp2_with fail
    all_goals
      clear hb4 hS
      rcases HCP.out with hP | ⟨hP, hP2⟩ | ⟨hP, hP2⟩
      · have hc := path_any p w6
        rw [errV_not hP] at hc
        refine hc.mono ?_
        clear hc hP
        rintro e w7 ⟨rfl, hb7⟩
        go_wp2_with fail
        go_ret
        exact ⟨rfl, hb6.trans (hb7.mono hb6.size)⟩
      · have hc := path_any p w6
        rw [hP, errV_zero] at hc
        refine hc.mono ?_
        clear hc hP
        rintro e w7 ⟨rfl, hb7⟩
        go_wp2_with fail
        go_ret
        exact ⟨rfl, hb6.trans (hb7.mono hb6.size)⟩
      · have hc := path_any p w6
        rw [hP, errV_zero] at hc
        have hl : p.data.toList.length ≤ 18 := by rw [← Lib.size_eq]; omega
        have hx := fun w => path_any (p ++ ⟨#[47, 120]⟩) w
        rw [concat_data, show (ByteArray.mk #[47, 120]).data.toList = [47, 120] from rfl, pf_x _ hP hl, errV_zero] at hx
        have hy := fun w => path_any (p ++ ⟨#[47]⟩) w
        rw [concat_data, show (ByteArray.mk #[47]).data.toList = [47] from rfl, pf_slash _ hl, errV_not (by decide)] at hy
        refine hc.mono ?_
        clear hc hP hl
        rintro e w7 ⟨rfl, hb7⟩
        have hb7 := hb6.trans (hb7.mono hb6.size)
        go_wp2_with (go_at_call 14; refine (hx _).mono ?_; clear hx; rintro e w8 ⟨rfl, hb8⟩)
        have hb8 := hb7.trans (hb8.mono hb7.size)
        refine (hy _).mono ?_
        clear hy
        rintro e w9 ⟨rfl, hb9⟩
        go_wp2_with fail
        go_ret
        exact ⟨rfl, hb8.trans (hb9.mono hb8.size)⟩
end Go.Proofs.YtapebgoddcoijaaDoor
