/-
  Plain mathematics: the lines of a patch's text; the fault of two series; the square of two series has no fault. Texts in memory, as lines; walks of package match's difference, aloneCost, pairCost, place.
-/
import Derived.Test.YtfmhapajdnmhoafDoorGmc
import Derived.Test.YtfmhapajdnmhoafDoorXc
import Derived.Test.YtfmhapajdnmhoafDoorXm
import Derived.BigQuiet
namespace Go.Proofs.YtfmhapajdnmhoafDoor
open Dist

theorem parts_many (c : UInt8) (s : List UInt8) : (parts c s).1.length = s.count c := by
  induction s with
  | nil => rfl
  | cons b r ih =>
    rw [parts]
    by_cases h : b = c
    · subst h
      rw [if_pos rfl]
      simp [ih]
    · rw [if_neg h, List.count_cons_of_ne h]
      rw [← ih]
      cases h2 : (parts c r).1 with
      | nil => rfl
      | cons x t => rfl

/-- The lines of a patch's text. -/
def tx1 (l : List Ch) : List ByteArray := (parts 10 (gpr l)).1.map fun b => ⟨b.toArray⟩
theorem gln_le {p : List Ch} (h : ∀ c ∈ p, (hf c.2.2).2 = 0) : gln p ≤ 182 * p.length := by
  induction p with
  | nil => simp [gln]
  | cons c r ih =>
    have h1 := (prt_len (h c (by simp))).1
    rw [lns_many] at h1
    have h2 := ih fun x hx => h x (by simp [hx])
    rw [gln, List.length_cons]
    omega
theorem tx1_len {l : List Ch} (h : (kf l).2 = 0) : (tx1 l).length ≤ 2912 := by
  unfold tx1
  rw [List.length_map, parts_many, count_gpr h]
  obtain ⟨h1, h2⟩ := kf_rd h
  have := gln_le fun c hc => (h2 c hc).2.2
  omega
theorem tx1_pieces {l : List Ch} {ps : List ByteArray} (h : ps.map (·.data.toList) = (parts 10 (gpr l)).1 ++ [(parts 10 (gpr l)).2]) : ps.length = (tx1 l).length + 1 ∧ ps.take (ps.length - 1) = tx1 l := by
  have hl : ps.length = (tx1 l).length + 1 := by
    have := congrArg List.length h
    simpa [tx1] using this
  refine ⟨hl, ?_⟩
  rw [hl, Nat.add_sub_cancel]
  have h2 : (ps.take (tx1 l).length).map (·.data.toList) = (parts 10 (gpr l)).1 := by
    rw [List.map_take, h, List.take_append_of_le_length (by simp [tx1]), List.take_of_length_le (by simp [tx1])]
  have e : tx1 l = (ps.take (tx1 l).length).map ((fun b : List UInt8 => (⟨b.toArray⟩ : ByteArray)) ∘ fun x : ByteArray => x.data.toList) := by
    rw [← List.map_map, h2]; rfl
  have e2 : ((fun b : List UInt8 => (⟨b.toArray⟩ : ByteArray)) ∘ fun x : ByteArray => x.data.toList) = id := by
    funext x
    simp
  rw [e2, List.map_id] at e
  exact e.symm

/-- The fault of a series: of its first patch that has one; of two series. -/
def srF : List (List Ch) → Int
  | [] => 0
  | l :: r => if (kf l).2 ≠ 0 then (kf l).2 else srF r
def rfF (p q : List (List Ch)) : Int := if 4 < p.length ∨ 4 < q.length then 3 else if srF p ≠ 0 then srF p else srF q
theorem srF_all : ∀ {p : List (List Ch)}, (∀ j, j < p.length → (kf (p.getD j [])).2 = 0) → srF p = 0
  | [], _ => rfl
  | l :: r, h => by
    have h0 : (kf l).2 = 0 := by simpa using h 0 (by simp)
    rw [srF, if_neg (by simp [h0])]
    exact srF_all fun j hj => by simpa using h (j + 1) (by simpa using hj)
theorem srF_at : ∀ {p : List (List Ch)} {k : Nat}, k < p.length → (∀ j, j < k → (kf (p.getD j [])).2 = 0) → (kf (p.getD k [])).2 ≠ 0 → srF p = (kf (p.getD k [])).2
  | [], _, h, _, _ => absurd h (by simp)
  | l :: r, 0, _, _, h => by
    have h : (kf l).2 ≠ 0 := by simpa using h
    rw [srF, if_pos h]; rfl
  | l :: r, k + 1, hk, h, hb => by
    have h0 : (kf l).2 = 0 := by simpa using h 0 (by simp)
    rw [srF, if_neg (by simp [h0])]
    have := srF_at (p := r) (k := k) (by simpa using hk) (fun j hj => by simpa using h (j + 1) (by omega)) (by simpa using hb)
    simpa using this
theorem srF_zero : ∀ {p : List (List Ch)}, srF p = 0 → ∀ l ∈ p, (kf l).2 = 0
  | [], _, l, h => by cases h
  | x :: r, h0, l, h => by
    rw [srF] at h0
    split at h0
    · rename_i hne; exact absurd h0 hne
    · rename_i hz
      rcases List.mem_cons.1 h with rfl | h
      · exact Decidable.not_not.1 hz
      · exact srF_zero h0 l h
theorem srF_app : ∀ (p q : List (List Ch)), srF (p ++ q) = if srF p ≠ 0 then srF p else srF q
  | [], q => by rw [List.nil_append, srF, if_neg (by simp)]
  | l :: r, q => by
    rw [List.cons_append, srF, srF, srF_app r q]
    by_cases h : (kf l).2 ≠ 0
    · rw [if_pos h, if_pos h, if_pos h]
    · rw [if_neg h, if_neg h]

/-- The lines of the texts of a series. -/
def txs (p : List (List Ch)) : List (List ByteArray) := p.map tx1
theorem txs_len (p : List (List Ch)) : (txs p).length = p.length := by simp [txs]
theorem txs_at {p : List (List Ch)} {i : Nat} (h : i < p.length) : (txs p).getD i [] = tx1 (p.getD i []) := by
  unfold txs
  rw [List.getD_eq_getElem?_getD, List.getElem?_map, List.getElem?_eq_getElem h]
  simp [h]
theorem txs_small {p : List (List Ch)} (h : srF p = 0) : ∀ t ∈ txs p, t.length ≤ 2912 := by
  intro t ht
  obtain ⟨l, hl, rfl⟩ := List.mem_map.1 ht
  exact tx1_len (srF_zero h l hl)

theorem getD_small {ts : List (List ByteArray)} (h : ∀ t ∈ ts, t.length ≤ 2912) (i : Nat) : (ts.getD i []).length ≤ 2912 := by
  by_cases hi : i < ts.length
  · have e : ts.getD i [] = ts[i] := by simp [hi]
    rw [e]; exact h _ (List.getElem_mem hi)
  · simp [hi]
theorem rcs_small {np nq : Nat} {ts : List (List ByteArray)} (h : ∀ t ∈ ts, t.length ≤ 2912) (i k : Nat) : rcs np nq ts i k ≤ 100000 := by
  have h1 := getD_small h i
  have h2 := getD_small h (np + k)
  unfold rcs
  split
  · have := difT_le (ts.getD i []) (ts.getD (np + k) []) (max (ts.getD i []).length (ts.getD (np + k) []).length)
    unfold dif
    omega
  · split
    · omega
    · split <;> omega
theorem rmx_len (np nq : Nat) (ts : List (List ByteArray)) : (rmx np nq ts).length = np + nq := by simp [rmx]
theorem rmx_row {np nq : Nat} {ts : List (List ByteArray)} {i : Nat} (h : i < np + nq) : (rmx np nq ts).getD i [] = (List.range (np + nq)).map fun k => rcs np nq ts i k := by simp [rmx, h]
theorem sqf_rmx {np nq : Nat} {ts : List (List ByteArray)} (h : ∀ t ∈ ts, t.length ≤ 2912) (hp : np ≤ 4) (hq : nq ≤ 4) : sqf (rmx np nq ts) = 0 := by
  unfold sqf
  rw [rmx_len, if_neg (by omega)]
  refine rws_all fun j hj => ?_
  rw [rmx_len] at hj
  rw [rmx_row hj]
  unfold rwf
  rw [if_neg (by simp)]
  refine rng_all fun k hk => ?_
  have hk : k < np + nq := by simpa using hk
  have e : ((List.range (np + nq)).map fun k => rcs np nq ts j k).getD k 0 = rcs np nq ts j k := by simp [hk]
  rw [e]
  have := rcs_nonneg np nq ts j k
  have := rcs_small h (np := np) (nq := nq) j k
  omega

end Go.Proofs.YtfmhapajdnmhoafDoor
namespace Go.Proofs.YtfmhapajdnmhoafDoor
open Go.RowKit Dist

/-- Texts as they lie in memory: rows of lines. -/
def Txs (w : World) (a : Option Addr) (ts : List (List ByteArray)) : Prop :=
  ∀ i : Nat, i < ts.length → ∃ b off ar cap, a = some ⟨b, off, none⟩ ∧ w.cell? ⟨b, off + i, none⟩ = some (.slice ar (ts.getD i []).length cap) ∧ Strs w ar (ts.getD i [])
theorem Txs.at {w : World} {a : Option Addr} {ts : List (List ByteArray)} (h : Txs w a ts) {i : Nat} (hi : i < ts.length) :
    ∃ b off, a = some ⟨b, off, none⟩ ∧ ∀ j : Nat, j < ts.length → ∃ ar cap, w.cell? ⟨b, off + j, none⟩ = some (.slice ar (ts.getD j []).length cap) ∧ Strs w ar (ts.getD j []) := by
  obtain ⟨b, off, _, _, rfl, _⟩ := h i hi
  refine ⟨b, off, rfl, fun j hj => ?_⟩
  obtain ⟨b', off', ar, cap, e, hc⟩ := h j hj
  simp at e
  obtain ⟨rfl, rfl⟩ := e
  exact ⟨ar, cap, hc⟩
theorem Txs.below {w w' : World} {a : Option Addr} {ts : List (List ByteArray)} (h : Txs w a ts) (hb : Below w.heap.size w w') : Txs w' a ts := by
  intro i hi
  obtain ⟨b, off, ar, cap, e, hc, hr⟩ := h i hi
  exact ⟨b, off, ar, cap, e, cell_later hb hc, hr.below hb⟩
theorem Txs.nil (w : World) (a : Option Addr) : Txs w a [] := fun i hi => absurd hi (by simp)

set_option maxHeartbeats 400000 in
theorem placeOf (i n : Nat) (w : World) : Calls Tryd.prog 23 #[.int .i64 i, .int .i64 n] w fun e w' => e = .returned (.int .i64 (plI i n)) ∧ w' = w := by
  by_cases h : i < n
  · have e : plI i n = (i : Int) := if_pos h
    rw [e]
    clear e
    go_enter Tryd.func23, Tryd.ntmps23
    go_wp2
    go_ret
    exact ⟨rfl, rfl⟩
  · have e : plI i n = -1 := if_neg h
    rw [e]
    clear e
    have h2 : n ≤ i := by omega
    go_enter Tryd.func23, Tryd.ntmps23
    go_wp2
    go_ret
    exact ⟨rfl, rfl⟩

set_option maxHeartbeats 400000 in
theorem aloneCost (a : Option Addr) (n c : Nat) (w : World) (hn : n ≤ 2912) : Calls Tryd.prog 35 #[.slice a n c] w fun e w' => e = .returned (.int .i64 (((n + 1) / 2 + 1 : Nat) : Int)) ∧ w' = w := by
  have h1 : (((n + 1) / 2 + 1 : Nat) : Int) = ((n : Int) + 1) / 2 + 1 := by omega
  rw [h1]
  go_enter Tryd.func35, Tryd.ntmps35
  go_wp2
  go_ret
  exact ⟨rfl, rfl⟩

set_option maxHeartbeats 1000000 in
set_option maxRecDepth 100000 in
theorem difference (a b : Option Addr) (xs ys : List ByteArray) (ca cb : Nat) (w : World) (ha : Strs w a xs) (hb : Strs w b ys) (h1 : xs.length ≤ 2912) (h2 : ys.length ≤ 2912) :
    Calls Tryd.prog 34 #[.slice a xs.length ca, .slice b ys.length cb] w fun e w' => e = .returned (.int .i64 (dif xs ys)) ∧ ∃ q, w' = w.drewN q := by
  obtain ⟨V, hV⟩ : ∃ V, ((dif xs ys : Nat) : Int) = V := ⟨_, rfl⟩
  have HV : Hid (((dif xs ys : Nat) : Int) = V) := hV
  rw [hV]
  obtain ⟨m, hm⟩ : ∃ m, xs.length = m := ⟨_, rfl⟩
  obtain ⟨n, hn⟩ : ∃ n, ys.length = n := ⟨_, rfl⟩
  rw [hm] at h1 ⊢
  rw [hn] at h2 ⊢
  have HM : Hid (xs.length = m) := hm
  have HN : Hid (ys.length = n) := hn
  have HA : Hid (Strs w a xs) := ha
  have HB : Hid (Strs w b ys) := hb
  clear hm hn ha hb hV
  obtain ⟨mi, hmi⟩ : ∃ mi, min m n = mi := ⟨_, rfl⟩
  obtain ⟨mx, hmx⟩ : ∃ mx, max m n = mx := ⟨_, rfl⟩
  have e1 : min (m : Int) (n : Int) = (mi : Int) := by omega
  have e2 : max (m : Int) (n : Int) = (mx : Int) := by omega
  have h3 : mi ≤ m ∧ mi ≤ n ∧ mx ≤ 2912 ∧ mi ≤ mx := by omega
  have HMI : Hid (min xs.length ys.length = mi) := by show _ = _; rw [HM.out, HN.out, hmi]
  have HMX : Hid (max xs.length ys.length = mx) := by show _ = _; rw [HM.out, HN.out, hmx]
  clear hmi hmx
  go_enter Tryd.func34, Tryd.ntmps34
  go_wp2
  go_loopw [5, 17] (fun s5 i w1 => ∃ k : Nat, k ≤ mi ∧ s5 = .int .i64 (dfP xs ys k) ∧ i = .int .i64 k ∧ ∃ q, w1 = w.drewN q) (fun _ i _ => mi - (intOf i).toNat)
  case atStart => exact ⟨0, Nat.zero_le _, by rw [dfP, HMX.out], rfl, 0, rfl⟩
  case round =>
    clear e1 e2
    obtain ⟨k, hk, rfl, rfl, q, rfl⟩ := hrel
    have hd := dfP_dif xs ys k (by rw [HMI.out]; exact hk)
    rw [HMX.out] at hd
    have hdt := difT_le xs ys k
    obtain ⟨y, hy⟩ : ∃ y, dfP xs ys k = y := ⟨_, rfl⟩
    simp only [hy] at hd ⊢
    have HY : Hid (dfP xs ys k = y) := hy
    have hyb : -3000 ≤ y ∧ y ≤ 3000 := by omega
    clear hy hd hdt
    by_cases hlt : k < mi
    · obtain ⟨ba, oa, rfl, hca⟩ := Strs.at HA.out (i := k) (by rw [HM.out]; omega)
      obtain ⟨bb, ob, rfl, hcb⟩ := Strs.at HB.out (i := k) (by rw [HN.out]; omega)
      have hca := hca k (by rw [HM.out]; omega)
      have hcb := hcb k (by rw [HN.out]; omega)
      obtain ⟨s, hs⟩ : ∃ s, xs.getD k ByteArray.empty = s := ⟨_, rfl⟩
      obtain ⟨t, ht⟩ : ∃ t, ys.getD k ByteArray.empty = t := ⟨_, rfl⟩
      rw [hs] at hca
      rw [ht] at hcb
      have HE : Hid (dfP xs ys (k + 1) = if s = t then y - 1 else y) := by
        show dfP xs ys (k + 1) = _
        rw [dfP, hs, ht, HY.out]
      clear hs ht
      by_cases he : (s.toList == t.toList) = true
      · have he2 : s = t := by
          have := beq_iff_eq.1 he
          rw [Lib.toList_data, Lib.toList_data] at this
          exact ByteArray.ext (Array.toList_inj.1 this)
        have HE2 : Hid (dfP xs ys (k + 1) = y - 1) := by show _ = _; rw [HE.out, if_pos he2]
        clear HE he2
        go_wp2
        go_quiet (fail)
        go_wp2
        go_roundw
        case rel => exact ⟨k + 1, by omega, by rw [HE2.out], by go_num, _, rfl⟩
        case measure => simp [intOf]; omega
      · have he : (s.toList == t.toList) = false := by simpa using he
        have he2 : ¬ s = t := fun e => by
          subst e
          simp at he
        have HE2 : Hid (dfP xs ys (k + 1) = y) := by show _ = _; rw [HE.out, if_neg he2]
        clear HE he2
        go_wp2
        go_quiet (fail)
        go_wp2
        go_roundw
        case rel => exact ⟨k + 1, by omega, by rw [HE2.out], by go_num, _, rfl⟩
        case measure => simp [intOf]; omega
    · have : k = mi := by omega
      subst this
      have hyV : V = y := by rw [← HV.out, ← dfP_all, HMI.out, HY.out]
      subst hyV
      go_wp2
      go_ret
      exact ⟨rfl, _, rfl⟩

set_option maxHeartbeats 1000000 in
set_option maxRecDepth 100000 in
theorem pairCost (a b : Option Addr) (xs ys : List (List ByteArray)) (ca cb i k : Nat) (w : World) (ha : Txs w a xs) (hb : Txs w b ys) (h1 : ∀ t ∈ xs, t.length ≤ 2912) (h2 : ∀ t ∈ ys, t.length ≤ 2912) :
    Calls Tryd.prog 22 #[.slice a xs.length ca, .slice b ys.length cb, .int .i64 i, .int .i64 k] w fun e w' => e = .returned (.int .i64 (rcs xs.length ys.length (xs ++ ys) i k)) ∧ ∃ q, w' = w.drewN q := by
  have gx : i < xs.length → (xs ++ ys).getD i [] = xs.getD i [] := fun h => by simp [List.getElem?_append_left h]
  have gy : k < ys.length → (xs ++ ys).getD (xs.length + k) [] = ys.getD k [] := fun h => by simp [List.getElem?_append_right]
  have sx := getD_small h1 i
  have sy := getD_small h2 k
  obtain ⟨V, hV⟩ : ∃ V, rcs xs.length ys.length (xs ++ ys) i k = V := ⟨_, rfl⟩
  have HV : Hid (rcs xs.length ys.length (xs ++ ys) i k = V) := hV
  rw [hV]
  obtain ⟨m, hm⟩ : ∃ m, xs.length = m := ⟨_, rfl⟩
  obtain ⟨n, hn⟩ : ∃ n, ys.length = n := ⟨_, rfl⟩
  have HM : Hid (xs.length = m) := hm
  have HN : Hid (ys.length = n) := hn
  rw [hm] at gx gy HV ⊢
  rw [hn] at gy HV ⊢
  clear hV hm hn h1 h2
  by_cases hi2 : i < m
  · obtain ⟨b1, o1, rfl, hat1⟩ := Txs.at ha (i := i) (by rw [HM.out]; exact hi2)
    obtain ⟨ar, ac, hc1, hs1⟩ := hat1 i (by rw [HM.out]; exact hi2)
    by_cases hk2 : k < n
    · obtain ⟨b2, o2, rfl, hat2⟩ := Txs.at hb (i := k) (by rw [HN.out]; exact hk2)
      obtain ⟨br, bc, hc2, hs2⟩ := hat2 k (by rw [HN.out]; exact hk2)
      have hd := difference ar br _ _ ac bc w hs1 hs2 sx sy
      have e1 : V = (dif (xs.getD i []) (ys.getD k []) : Nat) := by
        rw [← HV.out, rcs, if_pos ⟨hi2, hk2⟩, gx hi2, gy hk2]
      rw [← e1] at hd
      obtain ⟨l1, hl1'⟩ : ∃ l1, (xs.getD i []).length = l1 := ⟨_, rfl⟩
      obtain ⟨l2, hl2'⟩ : ∃ l2, (ys.getD k []).length = l2 := ⟨_, rfl⟩
      have hdd : ∀ q, Calls Tryd.prog 34 #[.slice ar (xs.getD i []).length ac, .slice br (ys.getD k []).length bc] (w.drewN q) fun e w' => e = .returned (.int .i64 V) ∧ ∃ q', w' = (w.drewN q).drewN q' := fun q => by
        have := difference ar br (xs.getD i []) (ys.getD k []) ac bc (w.drewN q) hs1 hs2 sx sy
        rw [← e1] at this
        exact this
      rw [hl1'] at hdd sx hc1
      rw [hl2'] at hdd sy hc2
      clear hd hat1 hat2 gx gy HV HM HN hs1 hs2 ha hb e1 hl1' hl2'
      go_enter Tryd.func22, Tryd.ntmps22
      go_wp2
      go_quiet ((go_at_call 34; exact Calls.quiet_of (hdd _)))
      go_wp2
      go_ret
      exact ⟨by first | rfl | trivial, _, rfl⟩
    · have e1 : V = (((xs.getD i []).length + 1) / 2 + 1 : Nat) := by
        rw [← HV.out, rcs, if_neg (fun x => hk2 x.2), if_pos hi2, gx hi2]
      obtain ⟨l1, hl1'⟩ : ∃ l1, (xs.getD i []).length = l1 := ⟨_, rfl⟩
      rw [hl1'] at e1 sx hc1
      have hal := aloneCost ar l1 ac w sx
      rw [← e1] at hal
      have hk3 : n ≤ k := by omega
      clear hat1 gx gy HV HM HN hs1 ha hb e1 hl1' hk2
      go_enter Tryd.func22, Tryd.ntmps22
      go_wp2_with (go_at_call 35; refine hal.mono ?_; rintro e w1 ⟨rfl, rfl⟩)
      go_ret
      exact ⟨by first | rfl | trivial, 0, rfl⟩
  · have hi3 : m ≤ i := by omega
    by_cases hk2 : k < n
    · obtain ⟨b2, o2, rfl, hat2⟩ := Txs.at hb (i := k) (by rw [HN.out]; exact hk2)
      obtain ⟨br, bc, hc2, hs2⟩ := hat2 k (by rw [HN.out]; exact hk2)
      have e1 : V = (((ys.getD k []).length + 1) / 2 + 1 : Nat) := by
        rw [← HV.out, rcs, if_neg (fun x => hi2 x.1), if_neg hi2, if_pos hk2, gy hk2]
      obtain ⟨l2, hl2'⟩ : ∃ l2, (ys.getD k []).length = l2 := ⟨_, rfl⟩
      rw [hl2'] at e1 sy hc2
      have hal := aloneCost br l2 bc w sy
      rw [← e1] at hal
      clear hat2 gx gy HV HM HN hs2 ha hb e1 hl2' hi2
      go_enter Tryd.func22, Tryd.ntmps22
      go_wp2_with (go_at_call 35; refine hal.mono ?_; rintro e w1 ⟨rfl, rfl⟩)
      go_ret
      exact ⟨by first | rfl | trivial, 0, rfl⟩
    · have e1 : V = 0 := by
        rw [← HV.out, rcs, if_neg (fun x => hi2 x.1), if_neg hi2, if_neg hk2]
      have hk3 : n ≤ k := by omega
      subst e1
      clear gx gy HV HM HN ha hb hi2 hk2
      go_enter Tryd.func22, Tryd.ntmps22
      go_wp2
      go_ret
      exact ⟨by first | rfl | trivial, 0, rfl⟩

end Go.Proofs.YtfmhapajdnmhoafDoor
