/-
  Contracts in one form, fault or none: hunk.Turn, hunk.Cut, hunk.Make.
-/
import Derived.Test.YtnkdmgekpajfhaeDoorTurn
import Derived.Test.YtnkdmgekpajfhaeDoorHsame
import Derived.Test.YtnkdmgekpajfhaeDoorXc
namespace Go.Proofs.YtnkdmgekpajfhaeDoor
open Go.RowKit Dist

/-- Hunks turned, or none where there is a fault. -/
def tOfH (l : List (Int × Int × List (Int × ByteArray))) : List (Int × Int × List (Int × ByteArray)) := if (hf l).2 = 0 then trn l else []
/-- Pieces, or none where there is a fault. -/
def cOfH (ms : List (Int × ByteArray)) (n : Int) : List (Int × Int × List (Int × ByteArray)) := if cf ms n = 0 then cut ms n.toNat else []
/-- The fault of Make. -/
def mkf (xs ys : List ByteArray) (n : Int) : Int := if ff xs ys ≠ 0 then ff xs ys else if n < 0 ∨ 1000 < n then 1 else 0

def mOfH (xs ys : List ByteArray) (n : Int) : List (Int × Int × List (Int × ByteArray)) := if mkf xs ys n = 0 then cut (scr xs ys) n.toNat else []

theorem scr_sf {xs ys : List ByteArray} (hf : ff xs ys = 0) : sf (scr xs ys) = 0 := by
  obtain ⟨f1, f2⟩ := ff_zero hf
  have h1 := lsf_len f1
  have h2 := lsf_len f2
  obtain ⟨_, _, _, hl, hm⟩ := scr_ok xs ys
  refine sf_of (by omega) fun m hmem => ⟨(hm m hmem).1, ?_⟩
  rcases (hm m hmem).2 with h | h
  · exact (lsf_zero f1).2 _ (List.mem_map.2 ⟨_, h, rfl⟩)
  · exact (lsf_zero f2).2 _ (List.mem_map.2 ⟨_, h, rfl⟩)

theorem scr_cf {xs ys : List ByteArray} {n : Int} (hf : ff xs ys = 0) : cf (scr xs ys) n = mkf xs ys n := by
  have hs := scr_sf hf
  obtain ⟨f1, f2⟩ := ff_zero hf
  have h1 := lsf_len f1
  have h2 := lsf_len f2
  obtain ⟨o1, o2, _, _, hm⟩ := scr_ok xs ys
  have e1 := ob_less (scr xs ys) fun m h => (hm m h).1
  have e2 := nb_less (scr xs ys) fun m h => (hm m h).1
  rw [o1] at e1
  rw [o2] at e2
  unfold cf mkf
  have n1 : ¬ (sf (scr xs ys) ≠ 0) := fun h => h hs
  have n2 : ¬ (ff xs ys ≠ 0) := fun h => h hf
  have n3 : ¬ (60 < ob (scr xs ys) ∨ 60 < nb (scr xs ys)) := by omega
  rw [if_neg n1, if_neg n2, if_neg n3]

theorem cut_bounds {ms : List (Int × ByteArray)} {n : Int} (h : cf ms n = 0) (k : Nat) : (cut ms k).length ≤ 60 ∧ ∀ x ∈ cut ms k, x.2.2.length ≤ 120 := by
  obtain ⟨h1, _, _, h4, h5⟩ := cf_zero h
  have hg := hf_cut h1 h4 h5 k
  obtain ⟨c1, _, _, _⟩ := cut_holds ms (fun m hm => ((sf_zero h1).2 m hm).1) k
  refine ⟨(hf_zero (by rw [hg])).1, fun x hx => ?_⟩
  obtain ⟨a, b, _, _, e, _⟩ := c1 x hx
  have : x.2.2 = (ms.take b).drop a := by rw [e]; rfl
  rw [this, List.length_drop, List.length_take]
  have := (sf_zero h1).1
  omega

theorem tOfH_small (l : List (Int × Int × List (Int × ByteArray))) : (tOfH l).length ≤ maxLen ∧ ∀ x ∈ tOfH l, x.2.2.length ≤ maxLen := by
  unfold tOfH
  by_cases h : (hf l).2 = 0
  · rw [if_pos h]
    obtain ⟨h1, h2⟩ := hf_zero h
    refine ⟨by unfold maxLen; simp [trn]; omega, fun x hx => ?_⟩
    unfold trn at hx
    obtain ⟨y, hy, rfl⟩ := List.mem_map.1 hx
    obtain ⟨i, hi, rfl⟩ := List.mem_iff_getElem.1 hy
    have h3 := (sf_zero (hOne_zero (hAt_zero (h2 i hi)).1).1).1
    have e : l.getD i (0, 0, []) = l[i] := by simp [hi]
    rw [e] at h3
    show (swm l[i].2.2).length ≤ maxLen
    rw [swm_length]
    unfold maxLen; omega
  · rw [if_neg h]
    exact ⟨Nat.zero_le _, fun x hx => by cases hx⟩

theorem cOfH_small (ms : List (Int × ByteArray)) (n : Int) : (cOfH ms n).length ≤ maxLen ∧ ∀ x ∈ cOfH ms n, x.2.2.length ≤ maxLen := by
  unfold cOfH
  by_cases h : cf ms n = 0
  · rw [if_pos h]
    obtain ⟨h1, h2⟩ := cut_bounds h n.toNat
    exact ⟨by unfold maxLen; omega, fun x hx => by have := h2 x hx; unfold maxLen; omega⟩
  · rw [if_neg h]
    exact ⟨Nat.zero_le _, fun x hx => by cases hx⟩

theorem mOfH_eq {xs ys : List ByteArray} {n : Int} (hf : ff xs ys = 0) : mOfH xs ys n = cOfH (scr xs ys) n := by
  unfold mOfH cOfH
  rw [scr_cf hf]

theorem mOfH_small (xs ys : List ByteArray) (n : Int) : (mOfH xs ys n).length ≤ maxLen ∧ ∀ x ∈ mOfH xs ys n, x.2.2.length ≤ maxLen := by
  by_cases hf : ff xs ys = 0
  · rw [mOfH_eq hf]; exact cOfH_small _ _
  · unfold mOfH mkf
    rw [if_pos hf, if_neg hf]
    exact ⟨Nat.zero_le _, fun x hx => by cases hx⟩

theorem turnAny (a : Option Addr) (l : List (Int × Int × List (Int × ByteArray))) (ca : Nat) (w : World) (ha : Hks w a l) (hm : l.length ≤ maxLen) (hms : ∀ h ∈ l, h.2.2.length ≤ maxLen) :
    Calls Tryd.prog 29 #[.slice a l.length ca] w fun e w' => ∃ a' c', e = .returned (.tuple #[.slice a' (tOfH l).length c', errV (hf l).2]) ∧ Below w.heap.size w w' ∧ Hks w' a' (tOfH l) := by
  unfold tOfH
  by_cases h : (hf l).2 = 0
  · rw [if_pos h, h, errV_zero]
    exact (turn_ok a l ca w ha h).mono fun e w' ⟨B, he, hb, hk⟩ => ⟨_, l.length, by rw [he]; simp [trn], hb, hk⟩
  · rw [if_neg h, errV_not h]
    exact (turn_bad a l ca w ha hm hms h).mono fun e w' ⟨he, hb⟩ => ⟨none, 0, he, hb, Hks.nil _ _⟩

theorem cutAny (a : Option Addr) (ms : List (Int × ByteArray)) (ca : Nat) (n : Int) (w : World) (ha : Mks w a ms) (hm : ms.length ≤ maxLen) (hca : ms.length ≤ ca) :
    Calls Tryd.prog 88 #[.slice a ms.length ca, .int .i64 n] w fun e w' => ∃ a' c', e = .returned (.tuple #[.slice a' (cOfH ms n).length c', errV (cf ms n)]) ∧ Below w.heap.size w w' ∧ Hks w' a' (cOfH ms n) := by
  unfold cOfH
  by_cases h : cf ms n = 0
  · rw [if_pos h, h, errV_zero]
    obtain ⟨N, rfl⟩ := Int.eq_ofNat_of_zero_le (cf_zero h).2.1
    exact (cut_ok a ms ca N w ha hca h).mono fun e w' ⟨v, he, hb, ho⟩ => by
      obtain ⟨a', cap, rfl, hk⟩ := ho.hks
      exact ⟨a', cap, he, hb, hk⟩
  · rw [if_neg h, errV_not h]
    exact (cut_bad a ms ca n w ha hm h).mono fun e w' ⟨he, hb⟩ => ⟨none, 0, he, hb, Hks.nil _ _⟩

set_option maxHeartbeats 400000 in
theorem makeAny (a b : Option Addr) (xs ys : List ByteArray) (ca cb : Nat) (n : Int) (w : World) (ha : Strs w a xs) (hb : Strs w b ys) (h1 : xs.length ≤ maxLen) (h2 : ys.length ≤ maxLen) :
    Calls Tryd.prog 70 #[.slice a xs.length ca, .slice b ys.length cb, .int .i64 n] w fun e w' => ∃ a' c', e = .returned (.tuple #[.slice a' (mOfH xs ys n).length c', errV (mkf xs ys n)]) ∧ Below w.heap.size w w' ∧ Hks w' a' (mOfH xs ys n) := by
  by_cases hf : ff xs ys = 0
  · have hsc := script_cap a b xs ys ca cb w ha hb hf
    rw [mOfH_eq hf, ← scr_cf hf]
    have hsl := (sf_zero (scr_sf hf)).1
    obtain ⟨ks, hks⟩ : ∃ ks, scr xs ys = ks := ⟨_, rfl⟩
    rw [hks] at hsc hsl ⊢
    obtain ⟨m1, hm1⟩ : ∃ m, xs.length = m := ⟨_, rfl⟩
    obtain ⟨m2, hm2⟩ : ∃ m, ys.length = m := ⟨_, rfl⟩
    obtain ⟨m3, hm3⟩ : ∃ m, ks.length = m := ⟨_, rfl⟩
    rw [hm1, hm2, hm3] at hsc
    rw [hm1, hm2]
    have HM3 : Hid (ks.length = m3) := hm3
    have HSL : Hid (ks.length ≤ 120) := hsl
    have HCU := fun a' cap w (h : Mks w a' ks) (hc : m3 ≤ cap) => cutAny a' ks cap n w h (by unfold maxLen; omega) (by rw [hm3]; exact hc)
    rw [hm3] at HCU
    obtain ⟨f, hff⟩ : ∃ f, errV (cf ks n) = f := ⟨_, rfl⟩
    obtain ⟨T, hT⟩ : ∃ T, cOfH ks n = T := ⟨_, rfl⟩
    rw [hff, hT] at HCU
    rw [hff, hT]
    clear ha hb h1 h2 hf hks hm1 hm2 hm3 hsl hff hT
    go_enter Tryd.func70, Tryd.ntmps70
    go_wp2_with (go_at_call 87; refine hsc.mono ?_)
    rintro e w1 ⟨a1, c1, rfl, hk1, hb1, hc1⟩
    clear hsc
    go_wp2_with (go_at_call 88; refine (HCU a1 c1 w1 hk1 hc1).mono ?_)
    rintro e w2 ⟨a2, c2, rfl, hb2, hk2⟩
    have hb2 := hb1.trans (hb2.mono hb1.size)
    clear HCU
    go_wp2
    go_ret2
    exact ⟨a2, c2, rfl, hb2, hk2⟩
  · have hsc := script_bad a b xs ys ca cb w ha hb h1 h2 hf
    have e1 : mkf xs ys n = ff xs ys := by unfold mkf; rw [if_pos hf]
    have e2 : mOfH xs ys n = [] := by unfold mOfH; rw [e1, if_neg hf]
    rw [e1, e2, errV_not hf]
    obtain ⟨m1, hm1⟩ : ∃ m, xs.length = m := ⟨_, rfl⟩
    obtain ⟨m2, hm2⟩ : ∃ m, ys.length = m := ⟨_, rfl⟩
    obtain ⟨f, hff⟩ : ∃ f, ff xs ys = f := ⟨_, rfl⟩
    rw [hm1, hm2, hff] at hsc
    rw [hm1, hm2, hff]
    clear ha hb h1 h2 hf hm1 hm2 hff e1 e2
    go_enter Tryd.func70, Tryd.ntmps70
    go_wp2_with (go_at_call 87; refine hsc.mono ?_)
    rintro e w1 ⟨rfl, hb1⟩
    clear hsc
    go_wp2
    go_ret2
    exact ⟨none, 0, rfl, hb1, Hks.nil _ _⟩

end Go.Proofs.YtnkdmgekpajfhaeDoor
