/-
  Walks of apply.checkLoose and apply.Loose: hunks done as near as may be; the fault else.
-/
import Derived.Test.YtkelcjfblekhpabDoorDoh
import Derived.Test.YtkelcjfblekhpabDoorHown
import Derived.Test.YtkelcjfblekhpabDoorRefC
import Derived.Deep.AppendLies

namespace Go.Proofs.YtkelcjfblekhpabDoor
open Go.RowKit Dist

/-- The fault of what is to be done as near as may be. -/
def lcF (xs : List ByteArray) (l : List Hk) (fuzz far : Int) : Int :=
  if lsf (bts xs) ≠ 0 then lsf (bts xs) else if (hf l).2 ≠ 0 then (hf l).2 else if fuzz < 0 ∨ 3 < fuzz ∨ far < 0 ∨ 60 < far then 1 else 0

theorem lcF_lines {xs : List ByteArray} {l : List Hk} {fuzz far : Int} (h : lsf (bts xs) ≠ 0) : lcF xs l fuzz far = lsf (bts xs) := by unfold lcF; rw [if_pos h]
theorem lcF_hunks {xs : List ByteArray} {l : List Hk} {fuzz far : Int} (h : lsf (bts xs) = 0) (h2 : (hf l).2 ≠ 0) : lcF xs l fuzz far = (hf l).2 := by unfold lcF; rw [if_neg (fun x => x h), if_pos h2]
theorem lcF_range {xs : List ByteArray} {l : List Hk} {fuzz far : Int} (h : lsf (bts xs) = 0) (h2 : (hf l).2 = 0) : lcF xs l fuzz far = if fuzz < 0 ∨ 3 < fuzz ∨ far < 0 ∨ 60 < far then 1 else 0 := by unfold lcF; rw [if_neg (fun x => x h), if_neg (fun x => x h2)]
theorem lcF_zero {xs : List ByteArray} {l : List Hk} {fuzz far : Int} (h : lcF xs l fuzz far = 0) : lsf (bts xs) = 0 ∧ (hf l).2 = 0 ∧ 0 ≤ fuzz ∧ fuzz ≤ 3 ∧ 0 ≤ far ∧ far ≤ 60 := by
  by_cases h1 : lsf (bts xs) = 0
  · by_cases h2 : (hf l).2 = 0
    · rw [lcF_range h1 h2] at h
      by_cases h3 : fuzz < 0 ∨ 3 < fuzz ∨ far < 0 ∨ 60 < far
      · rw [if_pos h3] at h; omega
      · exact ⟨h1, h2, by omega, by omega, by omega, by omega⟩
    · rw [lcF_hunks h1 h2] at h; exact absurd h h2
  · rw [lcF_lines h1] at h; exact absurd h h1

set_option maxHeartbeats 1000000 in
theorem checkLoose (a la : Option Addr) (xs : List ByteArray) (l : List Hk) (ca cl : Nat) (fuzz far : Int) (w : World) (ha : Strs w a xs) (hl : Hks w la l) (h1 : xs.length ≤ maxLen) (h0 : l.length ≤ maxLen) (h00 : ∀ h ∈ l, h.2.2.length ≤ maxLen) :
    Calls Tryd.prog 29 #[.slice a xs.length ca, .slice la l.length cl, .int .i64 fuzz, .int .i64 far] w fun e w' => e = .returned (errV (lcF xs l fuzz far)) ∧ Below w.heap.size w w' := by
  have hck := check_any a xs ca w ha h1
  have hhk := hunkCheck la l cl w hl h0 h00
  have L1 : Hid (lsf (bts xs) ≠ 0 → lcF xs l fuzz far = lsf (bts xs)) := lcF_lines
  have L2 : Hid (lsf (bts xs) = 0 → (hf l).2 ≠ 0 → lcF xs l fuzz far = (hf l).2) := lcF_hunks
  have L3 : Hid (lsf (bts xs) = 0 → (hf l).2 = 0 → lcF xs l fuzz far = if fuzz < 0 ∨ 3 < fuzz ∨ far < 0 ∨ 60 < far then 1 else 0) := lcF_range
  obtain ⟨m, hm⟩ : ∃ m, xs.length = m := ⟨_, rfl⟩
  obtain ⟨n, hn⟩ : ∃ n, l.length = n := ⟨_, rfl⟩
  obtain ⟨f1, hf1⟩ : ∃ f, lsf (bts xs) = f := ⟨_, rfl⟩
  obtain ⟨f2, hf2⟩ : ∃ f, (hf l).2 = f := ⟨_, rfl⟩
  obtain ⟨k, hk⟩ : ∃ k, (hf l).1 = k := ⟨_, rfl⟩
  obtain ⟨g, hg⟩ : ∃ g, lcF xs l fuzz far = g := ⟨_, rfl⟩
  rw [hm, hf1] at hck
  rw [hn, hf2, hk] at hhk
  rw [hf1, hg] at L1
  rw [hf1, hf2, hg] at L2 L3
  rw [hm, hn, hg]
  clear ha hl h1 h0 h00 hm hn hf1 hf2 hk hg
  by_cases a1 : f1 = 0
  · subst a1
    rw [errV_zero] at hck
    by_cases a2 : f2 = 0
    · subst a2
      rw [errV_zero] at hhk
      have HG := L3.out rfl rfl
      clear L1 L2 L3
      go_enter Tryd.func29, Tryd.ntmps29
      go_wp2_with (go_at_call 19; refine hck.mono ?_; rintro e w' ⟨rfl, hw⟩; rw [hw])
      go_wp2_with (go_at_call 20; refine hhk.mono ?_)
      rintro e w1 ⟨rfl, hb1⟩
      have HB1 : Hid (Below w.heap.size w w1) := hb1
      have HGG : Hid (g = if fuzz < 0 ∨ 3 < fuzz ∨ far < 0 ∨ 60 < far then 1 else 0) := HG
      clear hck hhk hb1 HG
      by_cases b1 : fuzz < 0
      · have e1 : g = 1 := by rw [HGG.out, if_pos (.inl b1)]
        clear HGG
        go_wp2
        go_ret
        refine ⟨?_, HB1.out⟩
        rw [e1]; rfl
      by_cases b2 : 3 < fuzz
      · have e1 : g = 1 := by rw [HGG.out, if_pos (.inr (.inl b2))]
        clear HGG
        go_wp2
        go_ret
        refine ⟨?_, HB1.out⟩
        rw [e1]; rfl
      by_cases b3 : far < 0
      · have e1 : g = 1 := by rw [HGG.out, if_pos (.inr (.inr (.inl b3)))]
        clear HGG
        go_wp2
        go_ret
        refine ⟨?_, HB1.out⟩
        rw [e1]; rfl
      by_cases b4 : 60 < far
      · have e1 : g = 1 := by rw [HGG.out, if_pos (.inr (.inr (.inr b4)))]
        clear HGG
        go_wp2
        go_ret
        refine ⟨?_, HB1.out⟩
        rw [e1]; rfl
      · have e1 : g = 0 := by rw [HGG.out, if_neg (by omega)]
        clear HGG
        go_wp2
        go_ret
        refine ⟨?_, HB1.out⟩
        rw [e1]; rfl
    · have HG : Hid (g = f2) := L2.out rfl a2
      have A2 : Hid (f2 ≠ 0) := a2
      rw [errV_not a2] at hhk
      clear L1 L2 L3 a2
      go_enter Tryd.func29, Tryd.ntmps29
      go_wp2_with (go_at_call 19; refine hck.mono ?_; rintro e w' ⟨rfl, hw⟩; rw [hw])
      go_wp2_with (go_at_call 20; refine hhk.mono ?_)
      rintro e w1 ⟨rfl, hb1⟩
      clear hck hhk
      go_wp2
      go_ret
      refine ⟨?_, hb1⟩
      rw [HG.out, errV_not A2.out]; rfl
  · have HG : Hid (g = f1) := L1.out a1
    have A1 : Hid (f1 ≠ 0) := a1
    rw [errV_not a1] at hck
    clear L1 L2 L3 a1 hhk
    go_enter Tryd.func29, Tryd.ntmps29
    go_wp2_with (go_at_call 19; refine hck.mono ?_; rintro e w' ⟨rfl, hw⟩; rw [hw])
    go_ret
    refine ⟨?_, Below.refl _ _⟩
    rw [HG.out, errV_not A1.out]; rfl

/-- Numbers as they lie in memory. -/
def Ints (w : World) (a : Option Addr) (ds : List Int) : Prop :=
  ∀ i : Nat, i < ds.length → ∃ b off, a = some ⟨b, off, none⟩ ∧ w.cell? ⟨b, off + i, none⟩ = some (.int .i64 (ds.getD i 0))

theorem Ints.below {w w' : World} {a : Option Addr} {ds : List Int} (h : Ints w a ds) (hb : Below w.heap.size w w') : Ints w' a ds := by
  intro i hi
  obtain ⟨b, off, rfl, hc⟩ := h i hi
  exact ⟨b, off, rfl, cell_later hb hc⟩

theorem ints_of_own {B : Nat} {v : Value} {ds : List Int} {w : World} (h : w.ownsRow B 3 1 v ds.length (ds.map (Value.int .i64))) : ∃ a cap, v = .slice a ds.length cap ∧ Ints w a ds := by
  rcases h.2 with ⟨rfl, h0⟩ | ⟨g, cap, cur, rfl, hB, hh, _, _, hcs, ht⟩
  · have : ds = [] := List.length_eq_zero_iff.1 h0
    subst this
    exact ⟨none, 0, rfl, fun i hi => absurd hi (by simp)⟩
  · refine ⟨some ⟨g, 0, none⟩, cap, rfl, fun i hi => ⟨g, 0, rfl, ?_⟩⟩
    rw [Nat.zero_add, Lib.cell_of_heap hh]
    rw [Nat.mul_one] at ht
    have h1 : (cur.toList.take ds.length)[i]? = (ds.map (Value.int .i64))[i]? := by rw [ht]
    rw [List.getElem?_take, if_pos hi, List.getElem?_map] at h1
    rw [← Array.getElem?_toList, h1]
    simp [hi]

/-- A block that is written is of another type. -/
def Apart (w : World) (r : Option Nat) (t : TypeId) : Prop := ∀ g, r = some g → ∃ (cs : Array Value) (t' : TypeId) (fr : Nat × Nat), w.heap[g]? = some (.cells cs t' fr) ∧ t' ≠ t

theorem Apart.ne {w : World} {r : Option Nat} {t : TypeId} (h : Apart w r t) {g : Nat} {cs : Array Value} {fr : Nat × Nat} (hg : w.heap[g]? = some (.cells cs t fr)) : some g ≠ r := by
  intro e
  obtain ⟨cs', t', fr', h1, h2⟩ := h g e.symm
  rw [hg] at h1
  simp only [Option.some.injEq, Obj.cells.injEq] at h1
  exact h2 h1.2.1.symm

theorem own_apart {w : World} {B : Nat} {e : TypeId} {k : Nat} {v : Value} {n : Nat} {xs : List Value} (h : w.ownsRow B e k v n xs) {t : TypeId} (ht : e ≠ t) : Apart w v.ownBlock t := by
  intro g hg
  rcases h.2 with ⟨rfl, _⟩ | ⟨g', cap, cur, rfl, _, hh, _⟩
  · cases hg
  · simp only [Value.ownBlock, Option.some.injEq] at hg
    subst hg
    exact ⟨cur, e, (0, 0), hh, ht⟩

theorem own_kept {w w' : World} {B : Nat} {e : TypeId} {k : Nat} {v : Value} {n : Nat} {xs : List Value} {r : Option Nat} (h : w.ownsRow B e k v n xs) (hg : w.grownBy w' r) (ha : Apart w r e) : w'.ownsRow B e k v n xs := by
  refine ⟨h.1, ?_⟩
  rcases h.2 with h0 | ⟨g, cap, cur, hv, hB, hh, hr⟩
  · exact .inl h0
  · refine .inr ⟨g, cap, cur, hv, hB, ?_, hr⟩
    have hl : g < w.heap.size := by
      by_cases e : g < w.heap.size
      · exact e
      · rw [Array.getElem?_eq_none (by omega)] at hh; cases hh
    rw [hg.block g hl (ha.ne hh)]; exact hh

theorem Fil.apart {w : World} {F : Nat} {A : List ByteArray} {E S : Int} (h : Fil w F A E S) {t : TypeId} (ht : 68 ≠ t) : Apart w (some F) t := by
  intro g hg
  obtain rfl := Option.some.inj hg
  obtain ⟨a, c, k, _⟩ := h
  exact ⟨_, _, _, k, ht⟩

theorem Fil.kept {w w' : World} {F : Nat} {A : List ByteArray} {E S : Int} {r : Option Nat} (h : Fil w F A E S) (hg : w.grownBy w' r) (h1 : Apart w r 68) (h2 : Apart w r 9) (h3 : ∀ g, r = some g → F ≤ g) : Fil w' F A E S := by
  have hl := h.lt
  obtain ⟨a, c, k, hs, hc, ht⟩ := h
  refine ⟨a, c, ?_, ?_, hc, ?_⟩
  · rw [hg.block F hl (h1.ne k)]; exact k
  · intro j hj
    obtain ⟨b, off, e, hcell⟩ := hs j hj
    refine ⟨b, off, e, hg.cell hcell ?_⟩
    rcases ht (by omega) with hb | hb
    · have := hb _ _ _ e
      intro e2
      have := h3 b e2.symm
      omega
    · obtain ⟨cs, fr, hk⟩ := hb _ _ _ e
      exact h2.ne hk
  · intro h0
    rcases ht h0 with hb | hb
    · exact .inl hb
    · refine .inr fun b off sp e => ?_
      obtain ⟨cs, fr, hk⟩ := hb b off sp e
      have hlb : b < w.heap.size := by
        by_cases e : b < w.heap.size
        · exact e
        · rw [Array.getElem?_eq_none (by omega)] at hk; cases hk
      exact ⟨cs, fr, by rw [hg.block b hlb (h2.ne hk)]; exact hk⟩

/-- A row of hunks that a call has made, each with marks in a block of their own type. -/
def LOwn (w : World) (B : Nat) (v : Value) (hs : List Hk) : Prop :=
  ∃ xs : List Value, w.ownsRow B 48 3 v hs.length xs ∧ ∀ i, i < hs.length → ∃ g cap, xs[i * 3]? = some (.int .i64 (hs.getD i (0, 0, [])).1) ∧ xs[i * 3 + 1]? = some (.int .i64 (hs.getD i (0, 0, [])).2.1) ∧ xs[i * 3 + 2]? = some (.slice (some ⟨g, 0, none⟩) (hs.getD i (0, 0, [])).2.2.length cap) ∧ (∃ (cs : Array Value) (fr : Nat × Nat), w.heap[g]? = some (.cells cs 64 fr)) ∧ Mks w (some ⟨g, 0, none⟩) (hs.getD i (0, 0, [])).2.2 ∧ (hs.getD i (0, 0, [])).2.2.length ≤ cap

theorem LOwn.zero (w : World) (B : Nat) : LOwn w B (.slice none 0 0) [] := ⟨[], World.ownsRow_nil w B _ _, fun _ hi => absurd hi (Nat.not_lt_zero _)⟩

theorem LOwn.kept {w w' : World} {B : Nat} {v : Value} {hs : List Hk} {r : Option Nat} (h : LOwn w B v hs) (hg : w.grownBy w' r) (h1 : Apart w r 48) (h2 : Apart w r 64) : LOwn w' B v hs := by
  obtain ⟨xs, a, b⟩ := h
  refine ⟨xs, own_kept a hg h1, fun i hi => ?_⟩
  obtain ⟨g, cap, a1, a2, a3, ⟨cs, fr, hk⟩, a5, a6⟩ := b i hi
  have hlb : g < w.heap.size := by
    by_cases e : g < w.heap.size
    · exact e
    · rw [Array.getElem?_eq_none (by omega)] at hk; cases hk
  exact ⟨g, cap, a1, a2, a3, ⟨cs, fr, by rw [hg.block g hlb (h2.ne hk)]; exact hk⟩, a5.grown hg (fun e => h2.ne hk e.symm), a6⟩

theorem apart_none (w : World) (t : TypeId) : Apart w none t := fun g hg => by cases hg

theorem LOwn.below {w w' : World} {B : Nat} {v : Value} {hs : List Hk} (h : LOwn w B v hs) (hb : Below w.heap.size w w') : LOwn w' B v hs :=
  h.kept (grown_below (r := none) hb) (apart_none _ _) (apart_none _ _)

/-- A hunk more. -/
theorem LOwn.snoc {w w' : World} {B : Nat} {v v' : Value} {hs : List Hk} {xs : List Value} {o p : Int} {ms : List (Int × ByteArray)} {g cap : Nat}
    (hown : w.ownsRow B 48 3 v hs.length xs)
    (h2 : ∀ i, i < hs.length → ∃ g cap, xs[i * 3]? = some (.int .i64 (hs.getD i (0, 0, [])).1) ∧ xs[i * 3 + 1]? = some (.int .i64 (hs.getD i (0, 0, [])).2.1) ∧ xs[i * 3 + 2]? = some (.slice (some ⟨g, 0, none⟩) (hs.getD i (0, 0, [])).2.2.length cap) ∧ (∃ (cs : Array Value) (fr : Nat × Nat), w.heap[g]? = some (.cells cs 64 fr)) ∧ Mks w (some ⟨g, 0, none⟩) (hs.getD i (0, 0, [])).2.2 ∧ (hs.getD i (0, 0, [])).2.2.length ≤ cap)
    (hown' : w'.ownsRow B 48 3 v' (hs.length + 1) (xs ++ [.int .i64 o, .int .i64 p, .slice (some ⟨g, 0, none⟩) ms.length cap])) (hg : w.grownBy w' v.ownBlock)
    (hty : ∃ (cs : Array Value) (fr : Nat × Nat), w.heap[g]? = some (.cells cs 64 fr)) (hmk : Mks w (some ⟨g, 0, none⟩) ms) (hcp : ms.length ≤ cap) : LOwn w' B v' (hs ++ [(o, p, ms)]) := by
  have ha : Apart w v.ownBlock 64 := own_apart hown (by decide)
  have hkeep : ∀ {x : Nat}, (∃ (cs : Array Value) (fr : Nat × Nat), w.heap[x]? = some (.cells cs 64 fr)) → (∃ (cs : Array Value) (fr : Nat × Nat), w'.heap[x]? = some (.cells cs 64 fr)) ∧ v.ownBlock ≠ some x := by
    rintro x ⟨cs, fr, hk⟩
    have hlb : x < w.heap.size := by
      by_cases e : x < w.heap.size
      · exact e
      · rw [Array.getElem?_eq_none (by omega)] at hk; cases hk
    exact ⟨⟨cs, fr, by rw [hg.block x hlb (ha.ne hk)]; exact hk⟩, fun e => ha.ne hk e.symm⟩
  refine ⟨_, by rw [List.length_append]; exact hown', fun i hi => ?_⟩
  rw [List.length_append] at hi
  simp only [List.length_cons, List.length_nil, Nat.zero_add] at hi
  have hl := hown.1
  by_cases e : i < hs.length
  · obtain ⟨g1, c1, a1, a2, a3, a4, a5, a6⟩ := h2 i e
    obtain ⟨k1, k2⟩ := hkeep a4
    have e2 : (hs ++ [(o, p, ms)]).getD i (0, 0, []) = hs.getD i (0, 0, []) := by simp [List.getElem?_append, e]
    rw [e2, List.getElem?_append_left (by omega), List.getElem?_append_left (by omega), List.getElem?_append_left (by omega)]
    exact ⟨g1, c1, a1, a2, a3, k1, a5.grown hg k2, a6⟩
  · obtain rfl : i = hs.length := by omega
    obtain ⟨k1, k2⟩ := hkeep hty
    have e2 : (hs ++ [(o, p, ms)]).getD hs.length (0, 0, []) = (o, p, ms) := by simp
    rw [e2, List.getElem?_append_right (by omega), List.getElem?_append_right (by omega), List.getElem?_append_right (by omega), hl]
    exact ⟨g, cap, by simp, by simp, by simp, k1, hmk.grown hg k2, hcp⟩

theorem LOwn.hks {w : World} {B : Nat} {v : Value} {hs : List Hk} (h : LOwn w B v hs) : ∃ a cap, v = .slice a hs.length cap ∧ Hks w a hs := by
  obtain ⟨xs, hown, h2⟩ := h
  rcases hown.2 with ⟨rfl, h0⟩ | ⟨g, cap, cur, rfl, hB, hh, _, _, hcs, ht⟩
  · have : hs = [] := List.length_eq_zero_iff.1 h0
    subst this
    exact ⟨_, 0, rfl, Hks.nil _ _⟩
  · refine ⟨some ⟨g, 0, none⟩, cap, rfl, fun i hi => ?_⟩
    obtain ⟨g1, c1, a1, a2, a3, _, a6, a7⟩ := h2 i hi
    have hc : ∀ j, j < hs.length * 3 → w.cell? ⟨g, j, none⟩ = xs[j]? := fun j hj => by
      rw [Lib.cell_of_heap hh, ← Array.getElem?_toList, ← ht, List.getElem?_take, if_pos hj]
    refine ⟨g, 0, some ⟨g1, 0, none⟩, c1, rfl, ?_, ?_, ?_, a6, a7⟩
    · rw [Nat.zero_add, hc _ (by omega)]; exact a1
    · rw [Nat.zero_add, hc _ (by omega)]; exact a2
    · rw [Nat.zero_add, hc _ (by omega)]; exact a3

set_option maxHeartbeats 400000 in
theorem loose_bad (a la : Option Addr) (xs : List ByteArray) (l : List Hk) (ca cl : Nat) (fuzz far : Int) (w : World) (ha : Strs w a xs) (hl : Hks w la l) (h1 : xs.length ≤ maxLen) (h0 : l.length ≤ maxLen) (h00 : ∀ h ∈ l, h.2.2.length ≤ maxLen) (hf1 : lcF xs l fuzz far ≠ 0) :
    Calls Tryd.prog 12 #[.slice a xs.length ca, .slice la l.length cl, .int .i64 fuzz, .int .i64 far] w fun e w' => e = .returned (.tuple #[.slice none 0 0, .slice none 0 0, .slice none 0 0, .iface 24 (.int .i64 (lcF xs l fuzz far))]) ∧ Below w.heap.size w w' := by
  have hck := checkLoose a la xs l ca cl fuzz far w ha hl h1 h0 h00
  rw [errV_not hf1] at hck
  obtain ⟨m, hm⟩ : ∃ m, xs.length = m := ⟨_, rfl⟩
  obtain ⟨n, hn⟩ : ∃ n, l.length = n := ⟨_, rfl⟩
  obtain ⟨f, hf'⟩ : ∃ f, lcF xs l fuzz far = f := ⟨_, rfl⟩
  rw [hm, hn, hf'] at hck
  rw [hm, hn, hf']
  clear ha hl h1 h0 h00 hf1 hm hn hf'
  go_enter Tryd.func12, Tryd.ntmps12
  go_wp2_with (go_at_call 29; refine hck.mono ?_)
  rintro e w1 ⟨rfl, hb1⟩
  clear hck
  go_wp2
  refine bodyPost_ret (v := .tuple #[.slice none 0 0, .slice none 0 0, .slice none 0 0, .iface 24 (.int .i64 f)]) (by simp [results, Tryd.results12, go_sem]) rfl ⟨rfl, hb1⟩

end Go.Proofs.YtkelcjfblekhpabDoor
