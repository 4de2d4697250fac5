/-
  What the walk of the document's own answer for hunks that are done as near as may be needs: places in its order, lines that are kept, hunks that share their marks; so many lines by others, once more.
-/
import Derived.Test.YtkelcjfblekhpabDoorRefA
import Derived.Test.YtkelcjfblekhpabDoorLoose3

namespace Go.Proofs.YtkelcjfblekhpabDoor
open Go.RowKit Dist

/-- The places in the document's order: 0, -1, 1, -2, 2, and so on. -/
def ofs (t : Nat) : Int := if t % 2 = 1 then -(((t + 1) / 2 : Nat) : Int) else (((t + 1) / 2 : Nat) : Int)

theorem ofs_odd (u : Nat) : ofs (2 * u + 1) = -((u + 1 : Nat) : Int) := by unfold ofs; rw [if_pos (by omega), show (2 * u + 1 + 1) / 2 = u + 1 by omega]
theorem ofs_even (u : Nat) : ofs (2 * u) = (u : Int) := by unfold ofs; rw [if_neg (by omega), show (2 * u + 1) / 2 = u by omega]

theorem ofs_all {p : Int → Bool} {T : Nat} (h : ∀ t, t < T → p (ofs t) = false) (n : Nat) (hn : 2 * n < T) : p (-(n : Int)) = false ∧ p n = false := by
  have h1 := h (2 * n) hn
  rw [ofs_even] at h1
  refine ⟨?_, h1⟩
  by_cases e : n = 0
  · subst e; exact h1
  · have h2 := h (2 * (n - 1) + 1) (by omega)
    rw [ofs_odd, show n - 1 + 1 = n by omega] at h2
    exact h2

theorem nr_tmiss {p : Int → Bool} {far : Nat} (h : ∀ t, t < 2 * far + 1 → p (ofs t) = false) : nrF p (far + 1) 0 = none := by
  rw [nr_skip (far + 1) (Nat.le_refl _) fun n hn => ofs_all h n (by omega), Nat.sub_self]; rfl

theorem nr_thit {p : Int → Bool} {far t : Nat} (ht : t < 2 * far + 1) (h : ∀ j, j < t → p (ofs j) = false) (hp : p (ofs t) = true) : nrF p (far + 1) 0 = some (ofs t) := by
  rcases Nat.mod_two_eq_zero_or_one t with e | e
  · obtain ⟨u, rfl⟩ : ∃ u, t = 2 * u := ⟨t / 2, by omega⟩
    rw [ofs_even] at hp ⊢
    refine nr_first (fun n hn => ofs_all h n (by omega)) (fun hu => ?_) hp (by omega)
    have h2 := h (2 * (u - 1) + 1) (by omega)
    rw [ofs_odd, show u - 1 + 1 = u by omega] at h2
    exact h2
  · obtain ⟨u, rfl⟩ : ∃ u, t = 2 * u + 1 := ⟨t / 2, by omega⟩
    rw [ofs_odd] at hp ⊢
    rw [nr_skip (u + 1) (by omega) fun n hn => ofs_all h n (by omega), show far + 1 - (u + 1) = (far - (u + 1)) + 1 by omega, nr_up hp]

/-- What is there after a hunk that was done, or was not. -/
def rA (A : List ByteArray) (S : Int) (h : Hk) : Option (Nat × Int) → List ByteArray
  | none => A
  | some (f, d) => rep A (plc S h f d).toNat (lessOf 43 (ptM h.2.2 f)).length (lessOf 45 (ptM h.2.2 f))
def rE (E S : Int) (h : Hk) : Option (Nat × Int) → Int
  | none => E
  | some (f, d) => plc S h f d + (lessOf 45 (ptM h.2.2 f)).length
def rS (S : Int) (h : Hk) : Option (Nat × Int) → Int
  | none => S
  | some (f, _) => S + ((lessOf 45 (ptM h.2.2 f)).length - (lessOf 43 (ptM h.2.2 f)).length)
def rD : Option (Nat × Int) → Int
  | none => -1000
  | some (_, d) => d
def rL (L : List Hk) (h : Hk) : Option (Nat × Int) → List Hk
  | none => L ++ [h]
  | some _ => L

theorem stL_r {fuzz far : Nat} {s : LS} {h : Hk} {r : Option (Nat × Int)} (e : doH s.A s.E s.S h fuzz far = r) : stL fuzz far s h = ⟨rA s.A s.S h r, rE s.E s.S h r, rS s.S h r, rL s.L h r, s.W ++ [rD r]⟩ := by
  cases r with
  | none => exact stL_none e
  | some x => obtain ⟨f, d⟩ := x; exact stL_some e

/-- So much is let go, and it is not done. -/
def Mis (A : List ByteArray) (E S : Int) (h : Hk) (far f : Nat) : Prop := big A h = true ∨ nrF (pF A E S h f) (far + 1) 0 = none

theorem doH_mis {A : List ByteArray} {E S : Int} {h : Hk} {fuzz far : Nat} (hn : ∀ f, f < fuzz + 1 → Mis A E S h far f) : doH A E S h fuzz far = none := by
  cases hb : big A h with
  | true => exact doH_big hb
  | false =>
    refine doH_miss hb fun f hf => ?_
    rcases hn f hf with h1 | h1
    · rw [hb] at h1; cases h1
    · exact h1
theorem doH_got {A : List ByteArray} {E S : Int} {h : Hk} {fuzz far k : Nat} {d : Int} (hb : big A h = false) (hk : k < fuzz + 1) (hn : ∀ f, f < k → Mis A E S h far f) (hd' : nrF (pF A E S h k) (far + 1) 0 = some d) : doH A E S h fuzz far = some (k, d) :=
  doH_hit hb hk (fun f hf => by
    rcases hn f hf with h1 | h1
    · rw [hb] at h1; cases h1
    · exact h1) hd'

/-- Lines as they lie, ahead of a place in memory or in a block of lines. -/
def ASt (w : World) (B : Nat) (a : Option Addr) (c : Nat) (A : List ByteArray) : Prop :=
  Strs w a A ∧ A.length ≤ c ∧ (0 < A.length → (∀ b off sp, a = some ⟨b, off, sp⟩ → b < B) ∨ TypS w a)

theorem ASt.below {w w' : World} {B : Nat} {a : Option Addr} {c : Nat} {A : List ByteArray} (h : ASt w B a c A) (hb : Below w.heap.size w w') : ASt w' B a c A :=
  ⟨h.1.below hb, h.2.1, fun h0 => by
    rcases h.2.2 h0 with h | h
    · exact .inl h
    · exact .inr (h.below hb)⟩

theorem ASt.kept {w w' : World} {B : Nat} {a : Option Addr} {c : Nat} {A : List ByteArray} {r : Option Nat} (h : ASt w B a c A) (hg : w.grownBy w' r) (h2 : Apart w r 9) (h3 : ∀ g, r = some g → B ≤ g) : ASt w' B a c A := by
  obtain ⟨hs, hc, ht⟩ := h
  refine ⟨?_, hc, ?_⟩
  · intro j hj
    obtain ⟨b, off, e, hcell⟩ := hs j hj
    refine ⟨b, off, e, hg.cell hcell ?_⟩
    rcases ht (by omega) with hb | hb
    · have := hb _ _ _ e
      intro e2
      have := h3 b e2.symm
      omega
    · obtain ⟨cs, fr, hk⟩ := hb _ _ _ e
      exact h2.ne hk
  · intro h0
    rcases ht h0 with hb | hb
    · exact .inl hb
    · refine .inr fun b off sp e => ?_
      obtain ⟨cs, fr, hk⟩ := hb b off sp e
      have hlb : b < w.heap.size := by
        by_cases e : b < w.heap.size
        · exact e
        · rw [Array.getElem?_eq_none (by omega)] at hk; cases hk
      exact ⟨cs, fr, by rw [hg.block b hlb (h2.ne hk)]; exact hk⟩

/-- A row of hunks that a call has made, whose marks were there ahead of it. -/
def ROwn (w0 w : World) (B : Nat) (v : Value) (hs : List Hk) : Prop :=
  ∃ xs : List Value, w.ownsRow B 48 3 v hs.length xs ∧ ∀ i, i < hs.length → ∃ am cap, xs[i * 3]? = some (.int .i64 (hs.getD i (0, 0, [])).1) ∧ xs[i * 3 + 1]? = some (.int .i64 (hs.getD i (0, 0, [])).2.1) ∧ xs[i * 3 + 2]? = some (.slice am (hs.getD i (0, 0, [])).2.2.length cap) ∧ Mks w0 am (hs.getD i (0, 0, [])).2.2 ∧ (hs.getD i (0, 0, [])).2.2.length ≤ cap

theorem ROwn.zero (w0 w : World) (B : Nat) : ROwn w0 w B (.slice none 0 0) [] := ⟨[], World.ownsRow_nil w B _ _, fun _ hi => absurd hi (Nat.not_lt_zero _)⟩
theorem ROwn.kept {w0 w w' : World} {B : Nat} {v : Value} {hs : List Hk} {r : Option Nat} (h : ROwn w0 w B v hs) (hg : w.grownBy w' r) (h1 : Apart w r 48) : ROwn w0 w' B v hs := by
  obtain ⟨xs, a, b⟩ := h
  exact ⟨xs, own_kept a hg h1, b⟩
theorem ROwn.below {w0 w w' : World} {B : Nat} {v : Value} {hs : List Hk} (h : ROwn w0 w B v hs) (hb : Below w.heap.size w w') : ROwn w0 w' B v hs :=
  h.kept (grown_below (r := none) hb) (apart_none _ _)

theorem ROwn.snoc {w0 w' : World} {B : Nat} {v' : Value} {hs : List Hk} {xs : List Value} {o p : Int} {ms : List (Int × ByteArray)} {am : Option Addr} {cap : Nat} (hl : xs.length = hs.length * 3)
    (h2 : ∀ i, i < hs.length → ∃ am cap, xs[i * 3]? = some (.int .i64 (hs.getD i (0, 0, [])).1) ∧ xs[i * 3 + 1]? = some (.int .i64 (hs.getD i (0, 0, [])).2.1) ∧ xs[i * 3 + 2]? = some (.slice am (hs.getD i (0, 0, [])).2.2.length cap) ∧ Mks w0 am (hs.getD i (0, 0, [])).2.2 ∧ (hs.getD i (0, 0, [])).2.2.length ≤ cap)
    (hown' : w'.ownsRow B 48 3 v' (hs.length + 1) (xs ++ [.int .i64 o, .int .i64 p, .slice am ms.length cap]))
    (hmk : Mks w0 am ms) (hcp : ms.length ≤ cap) : ROwn w0 w' B v' (hs ++ [(o, p, ms)]) := by
  refine ⟨_, by rw [List.length_append]; exact hown', fun i hi => ?_⟩
  rw [List.length_append] at hi
  simp only [List.length_cons, List.length_nil, Nat.zero_add] at hi
  by_cases e : i < hs.length
  · obtain ⟨g1, c1, a1, a2, a3, a4, a5⟩ := h2 i e
    have e2 : (hs ++ [(o, p, ms)]).getD i (0, 0, []) = hs.getD i (0, 0, []) := by simp [List.getElem?_append, e]
    rw [e2, List.getElem?_append_left (by omega), List.getElem?_append_left (by omega), List.getElem?_append_left (by omega)]
    exact ⟨g1, c1, a1, a2, a3, a4, a5⟩
  · obtain rfl : i = hs.length := by omega
    have e2 : (hs ++ [(o, p, ms)]).getD hs.length (0, 0, []) = (o, p, ms) := by simp
    rw [e2, List.getElem?_append_right (by omega), List.getElem?_append_right (by omega), List.getElem?_append_right (by omega), hl]
    exact ⟨am, cap, by simp, by simp, by simp, hmk, hcp⟩

theorem ROwn.hks {w0 w : World} {B : Nat} {v : Value} {hs : List Hk} (h : ROwn w0 w B v hs) (hb : Below w0.heap.size w0 w) : ∃ a cap, v = .slice a hs.length cap ∧ Hks w a hs := by
  obtain ⟨xs, hown, h2⟩ := h
  rcases hown.2 with ⟨rfl, h0⟩ | ⟨g, cap, cur, rfl, hB, hh, _, _, hcs, ht⟩
  · have : hs = [] := List.length_eq_zero_iff.1 h0
    subst this
    exact ⟨_, 0, rfl, Hks.nil _ _⟩
  · refine ⟨some ⟨g, 0, none⟩, cap, rfl, fun i hi => ?_⟩
    obtain ⟨g1, c1, a1, a2, a3, a6, a7⟩ := h2 i hi
    have hc : ∀ j, j < hs.length * 3 → w.cell? ⟨g, j, none⟩ = xs[j]? := fun j hj => by
      rw [Lib.cell_of_heap hh, ← Array.getElem?_toList, ← ht, List.getElem?_take, if_pos hj]
    refine ⟨g, 0, g1, c1, rfl, ?_, ?_, ?_, a6.below hb, a7⟩
    · rw [Nat.zero_add, hc _ (by omega)]; exact a1
    · rw [Nat.zero_add, hc _ (by omega)]; exact a2
    · rw [Nat.zero_add, hc _ (by omega)]; exact a3

set_option maxRecDepth 100000 in
set_option maxHeartbeats 2000000 in
theorem refReplT (a b : Option Addr) (xs ys : List ByteArray) (ca cb pl m1 : Nat) (w : World) (ha : Strs w a xs) (hb : Strs w b ys) (hca : xs.length ≤ ca) (hpl : pl + m1 ≤ xs.length) (hx : xs.length ≤ 10000) (hy : ys.length ≤ 10000) :
    Calls Tryd.prog 17 #[.slice a xs.length ca, .int .i64 pl, .int .i64 m1, .slice b ys.length cb] w fun e w' => ∃ a' c', e = .returned (.slice a' (rep xs pl m1 ys).length c') ∧ Strs w' a' (rep xs pl m1 ys) ∧ Below w.heap.size w w' ∧ (rep xs pl m1 ys).length ≤ c' ∧ TypS w' a' := by
  have hp1 := fun w (h : Strs w a xs) => h.part hca 0 pl
  have hp3 := fun w (h : Strs w a xs) => h.part hca (pl + m1) xs.length
  have hsl1 := fun w => run_slice_to a xs.length ca pl (by omega) w pl rfl
  have hsl2 := fun w => run_slice_from a xs.length ca (pl + m1) hpl w ((pl : Int) + m1) (by omega)
  simp only [List.drop_zero] at hp1
  simp only [List.take_length] at hp3
  have l1 : (xs.take pl).length = pl := by rw [List.length_take]; omega
  have l3 : (xs.drop (pl + m1)).length = xs.length - (pl + m1) := by rw [List.length_drop]
  have SA : Hid (Strs w a xs) := ha
  have SB : Hid (Strs w b ys) := hb
  have HP1 : Hid (∀ w, Strs w a xs → Strs w (sa a ca 0) (xs.take pl)) := hp1
  have HP3 : Hid (∀ w, Strs w a xs → Strs w (sa a ca (pl + m1)) (xs.drop (pl + m1))) := hp3
  obtain ⟨m, hm⟩ : ∃ m, xs.length = m := ⟨_, rfl⟩
  obtain ⟨n, hn⟩ : ∃ n, ys.length = n := ⟨_, rfl⟩
  have HM : Hid (xs.length = m) := hm
  have HN : Hid (ys.length = n) := hn
  rw [hm] at hsl1 hsl2 hca hpl hx l3
  rw [hn] at hy
  rw [hm, hn]
  have L1 : Hid ((xs.take pl).length = pl) := l1
  have L3 : Hid ((xs.drop (pl + m1)).length = m - (pl + m1)) := l3
  obtain ⟨B, hB⟩ : ∃ B, w.heap.size = B := ⟨_, rfl⟩
  have HB : Hid (w.heap.size = B) := hB
  have hzB : B ≤ w.heap.size := by omega
  rw [hB]
  clear ha hb hp1 hp3 hm hn l1 l3 hB
  go_enter Tryd.func17, Tryd.ntmps17
  go_wp2_with (at_builtin; refine append_strs rfl _ _ rfl B (.slice none 0 0) 0 [] rfl (World.ownsRow_nil _ _ _ _) (sa a ca 0) (xs.take pl) pl ca L1.out rfl (HP1.out _ SA.out) (by omega) hzB ?_)
  intro v7 w7 hown7 hgrow7 hat7
  have hb7 : Below B w w7 := (Below.refl B w).grown hgrow7 hzB (fun k hk => by simp [Value.ownBlock] at hk)
  have hz7 : B ≤ w7.heap.size := by have := hgrow7.size; omega
  have HV7 : Hid (w7.ownsRow B 9 1 v7 pl ((xs.take pl).map Value.string)) := by
    show w7.ownsRow B 9 1 v7 pl ((xs.take pl).map Value.string)
    simpa using hown7
  have SB7 : Hid (Strs w7 b ys) := SB.out.below (by rw [HB.out]; exact hb7)
  clear hown7 hgrow7 hat7
  go_wp2_with (at_builtin; refine append_strs rfl _ _ rfl B v7 pl ((xs.take pl).map Value.string) rfl HV7.out b ys n cb HN.out rfl SB7.out (by omega) hz7 ?_)
  intro v8 w8 hown8 hgrow8 hat8
  have hb8 : Below B w w8 := hb7.grown hgrow8 hz7 (fun k hk => (HV7.out.lt k hk).1)
  have hz8 : B ≤ w8.heap.size := by have := hgrow8.size; omega
  have HV8 : Hid (w8.ownsRow B 9 1 v8 (pl + n) ((xs.take pl).map Value.string ++ ys.map Value.string)) := by
    show w8.ownsRow B 9 1 v8 (pl + n) ((xs.take pl).map Value.string ++ ys.map Value.string)
    simpa using hown8
  have SA8 : Hid (Strs w8 (sa a ca (pl + m1)) (xs.drop (pl + m1))) := HP3.out _ (SA.out.below (by rw [HB.out]; exact hb8))
  clear hown8 hgrow8 hat8 hb7 HV7 SB7
  go_wp2_with (at_builtin; refine append_strs rfl _ _ rfl B v8 (pl + n) ((xs.take pl).map Value.string ++ ys.map Value.string) rfl HV8.out (sa a ca (pl + m1)) (xs.drop (pl + m1)) (m - (pl + m1)) (ca - (pl + m1)) L3.out rfl SA8.out (by omega) hz8 ?_)
  intro v9 w9 hown9 hgrow9 hat9
  have hb9 : Below B w w9 := hb8.grown hgrow9 hz8 (fun k hk => (HV8.out.lt k hk).1)
  have e9 : (rep xs pl m1 ys).length = pl + n + (m - (pl + m1)) := by unfold rep; rw [List.length_append, List.length_append, L1.out, L3.out, HN.out]; omega
  have hO9 : w9.ownsRow B 9 1 v9 (rep xs pl m1 ys).length ((rep xs pl m1 ys).map Value.string) := by
    rw [e9]
    unfold rep
    simpa using hown9
  obtain ⟨ax, cx, rfl, hsx, hcx⟩ := strs_of_own_cap hO9
  have hty := own_typed hO9
  clear hO9 hown9 hgrow9 hat9 HV8 SA8 e9
  go_wp2
  go_ret
  exact ⟨ax, cx, rfl, hsx, hb9, hcx, hty⟩

end Go.Proofs.YtkelcjfblekhpabDoor
