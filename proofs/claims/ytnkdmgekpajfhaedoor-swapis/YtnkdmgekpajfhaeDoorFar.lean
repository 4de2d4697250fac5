/-
  Walks of edit.checkBoth and edit.Far: how far it is from good lines to good lines; the first fault else.
-/
import Derived.Test.YtnkdmgekpajfhaeDoorMem
import Derived.Test.YtnkdmgekpajfhaeDoorEnd

namespace Go.Proofs.YtnkdmgekpajfhaeDoor
open Go.RowKit Dist

/-- The first of two faults. -/
def both (f g : Int) : Int := if f = 0 then g else f

theorem both_zero {f g : Int} (h : both f g = 0) : f = 0 ∧ g = 0 := by
  unfold both at h
  by_cases e : f = 0
  · rw [if_pos e] at h; exact ⟨e, h⟩
  · rw [if_neg e] at h; exact absurd h e

/-- The fault of two files. -/
def ff (xs ys : List ByteArray) : Int := both (lsf (bts xs)) (lsf (bts ys))

theorem ff_zero {xs ys : List ByteArray} (h : ff xs ys = 0) : lsf (bts xs) = 0 ∧ lsf (bts ys) = 0 := both_zero h
theorem ff_of {xs ys : List ByteArray} (h1 : lsf (bts xs) = 0) (h2 : lsf (bts ys) = 0) : ff xs ys = 0 := by unfold ff both; rw [if_pos h1, h2]

theorem lsf_len {xs : List ByteArray} (h : lsf (bts xs) = 0) : xs.length ≤ 60 := by have := (lsf_zero h).1; rwa [bts_length] at this

set_option maxHeartbeats 400000 in
theorem checkBoth (a b : Option Addr) (xs ys : List ByteArray) (ca cb : Nat) (w : World) (ha : Strs w a xs) (hb : Strs w b ys) (h1 : xs.length ≤ maxLen) (h2 : ys.length ≤ maxLen) :
    Calls Tryd.prog 98 #[.slice a xs.length ca, .slice b ys.length cb] w fun e w' => e = .returned (errV (ff xs ys)) ∧ w' = w := by
  have hc1 := check_any a xs ca w ha h1
  have hc2 := check_any b ys cb w hb h2
  obtain ⟨m, hm⟩ : ∃ m, xs.length = m := ⟨_, rfl⟩
  obtain ⟨n, hn⟩ : ∃ n, ys.length = n := ⟨_, rfl⟩
  obtain ⟨f, hf⟩ : ∃ f, lsf (bts xs) = f := ⟨_, rfl⟩
  obtain ⟨g, hg⟩ : ∃ g, lsf (bts ys) = g := ⟨_, rfl⟩
  have e : ff xs ys = both f g := by unfold ff; rw [hf, hg]
  rw [hm, hf] at hc1
  rw [hn, hg] at hc2
  rw [hm, hn, e]
  clear hm hn hf hg e ha hb h1 h2
  by_cases h : f = 0
  · subst h
    have e2 : both 0 g = g := rfl
    rw [e2]
    rw [errV_zero] at hc1
    obtain ⟨v, hv⟩ : ∃ v, errV g = v := ⟨_, rfl⟩
    rw [hv] at hc2 ⊢
    clear hv e2
    go_enter Tryd.func98, Tryd.ntmps98
    go_wp2_with (go_at_call 40; refine hc1.mono ?_)
    rintro e w1 ⟨rfl, hw⟩
    rw [hw]
    clear hw hc1
    go_wp2_with (go_at_call 40; refine hc2.mono ?_)
    rintro e w1 ⟨rfl, hw⟩
    rw [hw]
    clear hw hc2
    go_wp2
    go_ret
    exact ⟨rfl, rfl⟩
  · have e2 : both f g = f := by unfold both; rw [if_neg h]
    rw [e2]
    rw [errV_not h] at hc1 ⊢
    clear e2 hc2 h
    go_enter Tryd.func98, Tryd.ntmps98
    go_wp2_with (go_at_call 40; refine hc1.mono ?_; rintro e w' ⟨rfl, hw⟩; rw [hw])
    go_ret
    exact ⟨rfl, rfl⟩

/-- How far it is, 0 where a file has a fault. -/
def farOf (xs ys : List ByteArray) : Int := if ff xs ys = 0 then dist xs ys else 0

end Go.Proofs.YtnkdmgekpajfhaeDoor
