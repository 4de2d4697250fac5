/-
  The walk of the law AlgebraSplits: the pieces of a patch, one behind the other, lead where it leads, as far as there is room; each has one hunk at most.
-/
import Derived.Test.YtnkdmgekpajfhaeDoorXu
import Derived.Test.YtnkdmgekpajfhaeDoorBhm
import Derived.Test.YtnkdmgekpajfhaeDoorXn
import Derived.Test.YtnkdmgekpajfhaeDoorEtv
namespace Go.Proofs.YtnkdmgekpajfhaeDoor
open Go.RowKit Dist

theorem Dist.rnP_app {a : List Ch} : ∀ {t : List Fl} (b : List Ch), (rnP t a).2 = 0 → rnP t (a ++ b) = rnP (rnP t a).1 b := by
  induction a with
  | nil => intro t b _; rfl
  | cons d r ih =>
    intro t b h
    rw [rnP] at h
    by_cases e : (apF t [d]).2.2 = 0
    · rw [if_neg (fun x => x e)] at h
      rw [List.cons_append, rnP, if_neg (fun x => x e), rnP, if_neg (fun x => x e)]
      exact ih b h
    · rw [if_pos e] at h; exact absurd h e

theorem Dist.spA_small {p : List Ch} {d : Ch} (h : d ∈ spA p) : d.2.2.length ≤ 1 := by
  unfold spA at h
  obtain ⟨c, _, hd⟩ := List.mem_flatMap.1 h
  unfold pcC at hd
  split at hd
  case isTrue e => rw [List.mem_singleton.1 hd, e]; exact Nat.zero_le _
  case isFalse =>
    obtain ⟨x, _, rfl⟩ := List.mem_map.1 hd
    exact Nat.le_refl _

theorem take_cz {s : List Ch} {j : Nat} (hj : j < s.length) : s.take (j + 1) = s.take j ++ [s.getD j cz] ∧ s = s.take j ++ s.getD j cz :: s.drop (j + 1) := by
  have e : s.getD j cz = s[j] := by simp [hj]
  rw [e]
  exact ⟨List.take_succ_eq_append_getElem hj, by rw [← List.drop_eq_getElem_cons hj, List.take_append_drop]⟩

theorem kf_maxS {p : List Ch} (h : (kf p).2 = 0) : p.length ≤ maxLen ∧ (∀ c ∈ p, c.2.2.length ≤ maxLen) ∧ ∀ c ∈ p, ∀ h ∈ c.2.2, h.2.2.length ≤ maxLen := by
  obtain ⟨k1, _, k3⟩ := kf_zero h
  refine ⟨by unfold maxLen; omega, fun c hc => ?_, fun c hc x hx => ?_⟩
  · have := (hf_good (cOne_zero (k3 c hc)).2.2.1).2.1
    unfold maxLen; omega
  · have := (sf_zero ((hf_good (cOne_zero (k3 c hc)).2.2.1).2.2 x hx).1).1
    unfold maxLen; omega

theorem ones_getD {s : List Ch} {j : Nat} (hj : j < s.length) : (ones s).getD j [] = [s.getD j cz] := by unfold ones; simp [hj]

/-- A piece leads on, or there is no room. -/
theorem Dist.rn_next {t : List Fl} {p : List Ch} (h : (apF t p).2.2 = 0) (hs : spF (spA p) = 0) {j : Nat} (hj : j < (spA p).length) {X : List Fl} (hX : rnP t ((spA p).take j) = (X, 0)) :
    (apF X [(spA p).getD j cz]).2.2 = 3 ∨ ((apF X [(spA p).getD j cz]).2.2 = 0 ∧ rnP t ((spA p).take (j + 1)) = ((apF X [(spA p).getD j cz]).1, 0)) := by
  obtain ⟨e1, e2⟩ := take_cz hj
  have k1 := rnP_app (t := t) (a := (spA p).take j) ((spA p).getD j cz :: (spA p).drop (j + 1)) (by rw [hX])
  rw [← e2, hX] at k1
  have k2 := rnP_app (t := t) (a := (spA p).take j) [(spA p).getD j cz] (by rw [hX])
  rw [← e1, hX] at k2
  by_cases f : (apF X [(spA p).getD j cz]).2.2 = 0
  · right
    refine ⟨f, ?_⟩
    rw [k2]
    show rnP X [(spA p).getD j cz] = _
    rw [rnP, if_neg (fun x => x f), rnP]
  · left
    have k3 : (rnP t (spA p)).2 = (apF X [(spA p).getD j cz]).2.2 := by
      rw [k1]
      show (rnP X ((spA p).getD j cz :: (spA p).drop (j + 1))).2 = _
      rw [rnP, if_pos f]
    rcases rnP_apF h hs with e | e
    · rw [← k3]; exact e
    · rw [e] at k3; exact absurd k3.symm f

theorem Dist.rn_end {t : List Fl} {p : List Ch} (h : (apF t p).2.2 = 0) (hs : spF (spA p) = 0) {X : List Fl} (hX : rnP t (spA p) = (X, 0)) : X = (apF t p).1 := by
  rcases rnP_apF h hs with e | e
  · rw [hX] at e; exact absurd e (show ¬ ((0 : Int) = 3) by decide)
  · rw [hX] at e; exact congrArg (·.1) e

/-- The patch that the law begins with, in memory. -/
def fp : List Ch := [(1, ⟨#[97]⟩, [(0, 0, [(43, ⟨#[120]⟩)]), (1, 2, [(45, ⟨#[121]⟩)])])]
theorem fp_kf : kf fp = (0, 0) := by
  refine kf_of (by decide) (List.pairwise_singleton _ _) fun c hc => ?_
  rw [List.mem_singleton.1 hc]
  rfl
theorem fp_spA : spA fp = [(1, ⟨#[97]⟩, [(0, 0, [(43, ⟨#[120]⟩)])]), (1, ⟨#[97]⟩, [(2, 2, [(45, ⟨#[121]⟩)])])] := rfl
theorem fp_spE : spE fp = 0 := by
  rw [spE_ok (by rw [fp_kf]), fp_spA]
  rfl
theorem fp_spO : spO fp = [[(1, ⟨#[97]⟩, [(0, 0, [(43, ⟨#[120]⟩)])])], [(1, ⟨#[97]⟩, [(2, 2, [(45, ⟨#[121]⟩)])])]] := by
  rw [spO_ok fp_spE, fp_spA]
  rfl

theorem fp_mem (w : World) : Chs ((((((w.alloc (.cells #[.int .u8 43, .string ⟨#[120]⟩] 37)).alloc (.cells #[.int .i64 0, .int .i64 0, .slice (some ⟨w.heap.size, 0, none⟩) 1 1] 40)).alloc (.cells #[.int .u8 45, .string ⟨#[121]⟩] 37)).alloc (.cells #[.int .i64 1, .int .i64 2, .slice (some ⟨w.heap.size + 1 + 1, 0, none⟩) 1 1] 40)).alloc (.cells #[.int .i64 0, .int .i64 0, .slice (some ⟨w.heap.size, 0, none⟩) 1 1, .int .i64 1, .int .i64 2, .slice (some ⟨w.heap.size + 1 + 1, 0, none⟩) 1 1] 40)).alloc (.cells #[.int .i64 1, .string ⟨#[97]⟩, .slice (some ⟨w.heap.size + 1 + 1 + 1 + 1, 0, none⟩) 2 2] 26)) (some ⟨w.heap.size + 1 + 1 + 1 + 1 + 1, 0, none⟩) fp ∧ Below w.heap.size w ((((((w.alloc (.cells #[.int .u8 43, .string ⟨#[120]⟩] 37)).alloc (.cells #[.int .i64 0, .int .i64 0, .slice (some ⟨w.heap.size, 0, none⟩) 1 1] 40)).alloc (.cells #[.int .u8 45, .string ⟨#[121]⟩] 37)).alloc (.cells #[.int .i64 1, .int .i64 2, .slice (some ⟨w.heap.size + 1 + 1, 0, none⟩) 1 1] 40)).alloc (.cells #[.int .i64 0, .int .i64 0, .slice (some ⟨w.heap.size, 0, none⟩) 1 1, .int .i64 1, .int .i64 2, .slice (some ⟨w.heap.size + 1 + 1, 0, none⟩) 1 1] 40)).alloc (.cells #[.int .i64 1, .string ⟨#[97]⟩, .slice (some ⟨w.heap.size + 1 + 1 + 1 + 1, 0, none⟩) 2 2] 26)) := by
  obtain ⟨w1, hw1⟩ : ∃ x, (w.alloc (.cells #[.int .u8 43, .string ⟨#[120]⟩] 37)) = x := ⟨_, rfl⟩
  have s1 : w1.heap.size = w.heap.size + 1 := by rw [← hw1]; simp
  have h1 : w1.heap[w.heap.size]? = some (.cells #[.int .u8 43, .string ⟨#[120]⟩] 37 (0, 0)) := by rw [← hw1]; exact heap_alloc_new w _
  have b1 : Below w.heap.size w w1 := by rw [← hw1]; exact below_alloc w _
  rw [hw1]
  obtain ⟨w2, hw2⟩ : ∃ x, (w1.alloc (.cells #[.int .i64 0, .int .i64 0, .slice (some ⟨w.heap.size, 0, none⟩) 1 1] 40)) = x := ⟨_, rfl⟩
  have s2 : w2.heap.size = w.heap.size + 1 + 1 := by rw [← hw2, World.size_alloc, s1]
  have b2 : Below w1.heap.size w1 w2 := by rw [← hw2]; exact below_alloc w1 _
  rw [hw2]
  obtain ⟨w3, hw3⟩ : ∃ x, (w2.alloc (.cells #[.int .u8 45, .string ⟨#[121]⟩] 37)) = x := ⟨_, rfl⟩
  have s3 : w3.heap.size = w.heap.size + 1 + 1 + 1 := by rw [← hw3, World.size_alloc, s2]
  have h3 : w3.heap[w.heap.size + 1 + 1]? = some (.cells #[.int .u8 45, .string ⟨#[121]⟩] 37 (0, 0)) := by rw [← hw3, ← s2]; exact heap_alloc_new w2 _
  have b3 : Below w2.heap.size w2 w3 := by rw [← hw3]; exact below_alloc w2 _
  rw [hw3]
  obtain ⟨w4, hw4⟩ : ∃ x, (w3.alloc (.cells #[.int .i64 1, .int .i64 2, .slice (some ⟨w.heap.size + 1 + 1, 0, none⟩) 1 1] 40)) = x := ⟨_, rfl⟩
  have s4 : w4.heap.size = w.heap.size + 1 + 1 + 1 + 1 := by rw [← hw4, World.size_alloc, s3]
  have b4 : Below w3.heap.size w3 w4 := by rw [← hw4]; exact below_alloc w3 _
  rw [hw4]
  obtain ⟨w5, hw5⟩ : ∃ x, (w4.alloc (.cells #[.int .i64 0, .int .i64 0, .slice (some ⟨w.heap.size, 0, none⟩) 1 1, .int .i64 1, .int .i64 2, .slice (some ⟨w.heap.size + 1 + 1, 0, none⟩) 1 1] 40)) = x := ⟨_, rfl⟩
  have s5 : w5.heap.size = w.heap.size + 1 + 1 + 1 + 1 + 1 := by rw [← hw5, World.size_alloc, s4]
  have h5 : w5.heap[w.heap.size + 1 + 1 + 1 + 1]? = some (.cells #[.int .i64 0, .int .i64 0, .slice (some ⟨w.heap.size, 0, none⟩) 1 1, .int .i64 1, .int .i64 2, .slice (some ⟨w.heap.size + 1 + 1, 0, none⟩) 1 1] 40 (0, 0)) := by rw [← hw5, ← s4]; exact heap_alloc_new w4 _
  have b5 : Below w4.heap.size w4 w5 := by rw [← hw5]; exact below_alloc w4 _
  rw [hw5]
  have h6 := heap_alloc_new w5 (.cells #[.int .i64 1, .string ⟨#[97]⟩, .slice (some ⟨w.heap.size + 1 + 1 + 1 + 1, 0, none⟩) 2 2] 26)
  have b6 := below_alloc w5 (.cells #[.int .i64 1, .string ⟨#[97]⟩, .slice (some ⟨w.heap.size + 1 + 1 + 1 + 1, 0, none⟩) 2 2] 26)
  rw [s5] at h6
  generalize (w5.alloc (.cells #[.int .i64 1, .string ⟨#[97]⟩, .slice (some ⟨w.heap.size + 1 + 1 + 1 + 1, 0, none⟩) 2 2] 26)) = w6 at h6 b6 ⊢
  have k35 := b3.size
  have k1 := blk_below b6 (by omega) (blk_below b5 (by omega) (blk_below b4 (by omega) (blk_below b3 (by omega) (blk_below b2 (by omega) h1))))
  have k3 := blk_below b6 (by omega) (blk_below b5 (by omega) (blk_below b4 (by omega) h3))
  have k5 := blk_below b6 (by omega) h5
  have m1 : Mks w6 (some ⟨w.heap.size, 0, none⟩) [(43, ⟨#[120]⟩)] := by
    intro i hi
    obtain rfl : i = 0 := by simpa using hi
    exact ⟨_, 0, rfl, by rw [Lib.cell_of_heap k1]; rfl, by rw [Lib.cell_of_heap k1]; rfl⟩
  have m2 : Mks w6 (some ⟨w.heap.size + 1 + 1, 0, none⟩) [(45, ⟨#[121]⟩)] := by
    intro i hi
    obtain rfl : i = 0 := by simpa using hi
    exact ⟨_, 0, rfl, by rw [Lib.cell_of_heap k3]; rfl, by rw [Lib.cell_of_heap k3]; rfl⟩
  have hk : Hks w6 (some ⟨w.heap.size + 1 + 1 + 1 + 1, 0, none⟩) [(0, 0, [(43, ⟨#[120]⟩)]), (1, 2, [(45, ⟨#[121]⟩)])] := by
    intro i hi
    match i, hi with
    | 0, _ => exact ⟨_, 0, _, 1, rfl, by rw [Lib.cell_of_heap k5]; rfl, by rw [Lib.cell_of_heap k5]; rfl, by rw [Lib.cell_of_heap k5]; rfl, m1, Nat.le_refl _⟩
    | 1, _ => exact ⟨_, 0, _, 1, rfl, by rw [Lib.cell_of_heap k5]; rfl, by rw [Lib.cell_of_heap k5]; rfl, by rw [Lib.cell_of_heap k5]; rfl, m2, Nat.le_refl _⟩
  refine ⟨chs_block h6 hk (Nat.le_refl _), ?_⟩
  exact b1.trans ((b2.trans ((b3.trans ((b4.trans ((b5.trans (b6.mono (by omega))).mono (by omega))).mono (by omega))).mono (by omega))).mono (by omega))

set_option maxRecDepth 100000 in
set_option maxHeartbeats 4000000 in
theorem algebraSplits_any (aa : Option Addr) (t : List Fl) (ca : Nat) (ab : Option Addr) (p : List Ch) (cb : Nat) (w : World) (ha : Fls w aa t) (hca : t.length ≤ ca) (hm : t.length ≤ maxLen) (hml : ∀ x ∈ t, x.2.length ≤ maxLen) (hb : Chs w ab p) (gm : p.length ≤ maxLen) (gml : ∀ c ∈ p, c.2.2.length ≤ maxLen) (gms : ∀ c ∈ p, ∀ h ∈ c.2.2, h.2.2.length ≤ maxLen) (htl : TypeLaid w) :
    Calls Tryd.prog 4 #[.slice aa t.length ca, .slice ab p.length cb] w fun e w' => e = .returned (.bool true) ∧ Below w.heap.size w w' := by
  obtain ⟨fm1, fm2⟩ := fp_mem w
  have hs0 := splitOfA (some ⟨w.heap.size + 1 + 1 + 1 + 1 + 1, 0, none⟩) fp 1 _ fm1 (by decide) (by decide) (by decide)
  unfold SpV at hs0
  rw [fp_spO, fp_spE, errV_zero] at hs0
  have HSP : Hid (∀ w', Below w.heap.size w w' → Calls Tryd.prog 12 #[.slice ab p.length cb] w' fun e w'' => (∃ x c, e = .returned (.tuple #[.slice x (spO p).length c, errV (spE p)]) ∧ Srs w'' x (spO p) ∧ (spO p).length ≤ c) ∧ Below w'.heap.size w' w'') := fun w' h => splitOfA ab p cb w' (hb.below h) gm gml gms
  have HAP : Hid (∀ w', Below w.heap.size w w' → Calls Tryd.prog 8 #[.slice aa t.length ca, .slice ab p.length cb] w' fun e w'' => ∃ x y, e = .returned (.tuple #[.slice x (apF t p).1.length y, .int .i64 (apF t p).2.1, errV (apF t p).2.2]) ∧ Below w'.heap.size w' w'' ∧ Fls w'' x (apF t p).1 ∧ (apF t p).1.length ≤ y) := fun w' h => patchApply aa t ca ab p cb w' (ha.below h) hca hm hml (hb.below h) gm gml gms
  go_enter Tryd.func4, Tryd.ntmps4
  change Calls Tryd.prog 12 #[.slice (some ⟨w.heap.size + 1 + 1 + 1 + 1 + 1, 0, none⟩) 1 1] _ _ at hs0
  go_wp2_with fail
  generalize ((((((w.alloc (.cells #[.int .u8 43, .string ⟨#[120]⟩] 37)).alloc (.cells #[.int .i64 0, .int .i64 0, .slice (some ⟨w.heap.size, 0, none⟩) 1 1] 40)).alloc (.cells #[.int .u8 45, .string ⟨#[121]⟩] 37)).alloc (.cells #[.int .i64 1, .int .i64 2, .slice (some ⟨w.heap.size + 1 + 1, 0, none⟩) 1 1] 40)).alloc (.cells #[.int .i64 0, .int .i64 0, .slice (some ⟨w.heap.size, 0, none⟩) 1 1, .int .i64 1, .int .i64 2, .slice (some ⟨w.heap.size + 1 + 1, 0, none⟩) 1 1] 40)).alloc (.cells #[.int .i64 1, .string ⟨#[97]⟩, .slice (some ⟨w.heap.size + 1 + 1 + 1 + 1, 0, none⟩) 2 2] 26)) = W at fm1 fm2 hs0 ⊢
  have HB0 : Hid (Below w.heap.size w W) := fm2
  have HA : Hid (Fls w aa t) := ha
  have HCA : Hid (t.length ≤ ca) := hca
  have HTY : Hid (∀ w', Below w.heap.size w w' → TypeLaid w') := fun w' h => htl.below h
  clear fm1 fm2 ha hca hm hml hb gm gml gms htl
  go_wp2_with (go_at_call 12; refine hs0.mono ?_)
  rintro e w1 ⟨⟨x0, c0, rfl, hsr, _⟩, hb1⟩
  obtain ⟨b0, f0, rfl⟩ := hsr.addr (i := 1) (by decide)
  obtain ⟨ac, cc, y1, hch⟩ := hsr.at (i := 1) (by decide)
  obtain ⟨b2, f2, rfl⟩ := hch.addr (i := 0) (by decide)
  obtain ⟨ah, ch, _, _, z2, hks, _⟩ := hch.at (i := 0) (by decide)
  obtain ⟨b3, f3, _, _, rfl, g0, _⟩ := hks 0 (by decide)
  rw [Nat.zero_mul, Nat.add_zero] at z2 g0
  replace y1 : w1.cell? ⟨b0, f0 + 1, none⟩ = some (.slice (some ⟨b2, f2, none⟩) 1 cc) := y1
  replace z2 : w1.cell? ⟨b2, f2 + 2, none⟩ = some (.slice (some ⟨b3, f3, none⟩) 1 ch) := z2
  replace g0 : w1.cell? ⟨b3, f3, none⟩ = some (.int .i64 2) := g0
  have HB1 : Hid (Below w.heap.size w w1) := HB0.out.trans (hb1.mono HB0.out.size)
  have hsp := HSP.out w1 HB1.out
  clear hs0 hb1 hsr hch hks HB0 HSP
  rw [show ([[(1, ⟨#[97]⟩, [(0, 0, [(43, ⟨#[120]⟩)])])], [(1, ⟨#[97]⟩, [(2, 2, [(45, ⟨#[121]⟩)])])]] : List (List Ch)).length = 2 from rfl]
  by_cases hE : spE p = 0
  case' neg =>
    rw [errV_not hE] at hsp
    obtain ⟨F, hF⟩ : ∃ F, spE p = F := ⟨_, rfl⟩
    rw [hF] at hsp
    clear hE hF
    go_wp2_with (go_at_call 12; refine hsp.mono ?_)
    rintro e w2 ⟨⟨x1, c1, rfl, _, _⟩, hb2⟩
    have HB2 : Hid (Below w.heap.size w w2) := HB1.out.trans (hb2.mono HB1.out.size)
    have hap := HAP.out w2 HB2.out
    clear hsp hb2 HAP y1 z2 g0
    go_wp2_with (go_at_call 8; refine hap.mono ?_)
    first | rintro e w3 x2 c2 rfl hb3 _ _ | rintro e w3 ⟨x2, c2, rfl, hb3, _, _⟩
    have HB3 : Hid (Below w.heap.size w w3) := HB2.out.trans (hb3.mono HB2.out.size)
    clear hap hb3
    go_wp2
    go_ret
    exact ⟨rfl, HB3.out⟩
  case' pos =>
    rw [hE, errV_zero] at hsp
    by_cases hF : (apF t p).2.2 = 0
    case' neg =>
      rw [errV_not hF] at HAP
      obtain ⟨f, hff⟩ : ∃ F, (apF t p).2.2 = F := ⟨_, rfl⟩
      rw [hff] at HAP
      clear hE hF hff
      go_wp2_with (go_at_call 12; refine hsp.mono ?_)
      rintro e w2 ⟨⟨x1, c1, rfl, _, _⟩, hb2⟩
      have HB2 : Hid (Below w.heap.size w w2) := HB1.out.trans (hb2.mono HB1.out.size)
      have hap := HAP.out w2 HB2.out
      clear hsp hb2 HAP y1 z2 g0
      go_wp2_with (go_at_call 8; refine hap.mono ?_)
      first | rintro e w3 x2 c2 rfl hb3 _ _ | rintro e w3 ⟨x2, c2, rfl, hb3, _, _⟩
      have HB3 : Hid (Below w.heap.size w w3) := HB2.out.trans (hb3.mono HB2.out.size)
      clear hap hb3
      go_wp2
      go_ret
      exact ⟨rfl, HB3.out⟩
    case' pos =>
      have hkf : (kf p).2 = 0 := (apF_zero hF).2.1
      have hsf : spF (spA p) = 0 := by rw [← spE_ok hkf]; exact hE
      have HT0 : Hid ((tf t).2 = 0) := (apF_zero hF).1
      have HTY2 : Hid ((tf (apF t p).1).2 = 0) := apF_tree hF
      have HNX : Hid (∀ j X, j < (spA p).length → rnP t ((spA p).take j) = (X, 0) → (apF X [(spA p).getD j cz]).2.2 = 3 ∨ ((apF X [(spA p).getD j cz]).2.2 = 0 ∧ rnP t ((spA p).take (j + 1)) = ((apF X [(spA p).getD j cz]).1, 0))) := fun j X hj hX => rn_next hF hsf hj hX
      have HND : Hid (∀ X, rnP t (spA p) = (X, 0) → X = (apF t p).1) := fun X hX => rn_end hF hsf hX
      have HKD : Hid (∀ d ∈ spA p, (kf [d]).2 = 0 ∧ d.2.2.length ≤ 1) := fun d hd => ⟨spF_zero hsf d hd, spA_small hd⟩
      rw [spO_ok hE] at hsp
      rw [hF, errV_zero] at HAP
      obtain ⟨s, hs⟩ : ∃ s, spA p = s := ⟨_, rfl⟩
      obtain ⟨Y, hY⟩ : ∃ Y, (apF t p).1 = Y := ⟨_, rfl⟩
      obtain ⟨iY, hiY⟩ : ∃ Y, (apF t p).2.1 = Y := ⟨_, rfl⟩
      rw [hs] at hsp HNX HND HKD
      rw [hY] at HAP HTY2 HND
      rw [hiY] at HAP
      rw [ones_len] at hsp
      obtain ⟨n, hn⟩ : ∃ n, s.length = n := ⟨_, rfl⟩
      obtain ⟨nY, hnY⟩ : ∃ n, Y.length = n := ⟨_, rfl⟩
      have HN : Hid (s.length = n) := hn
      have HNY : Hid (Y.length = nY) := hnY
      rw [hn] at hsp
      rw [hnY] at HAP
      have hn960 : n ≤ 960 := by have := (spO_small p).1; rw [spO_ok hE, ones_len, hs, hn] at this; exact this
      clear hE hF hkf hsf hs hY hiY hn hnY
      go_wp2_with (go_at_call 12; refine hsp.mono ?_)
      rintro e w2 ⟨⟨x1, c1, rfl, hsr, _⟩, hb2⟩
      have HB2 : Hid (Below w.heap.size w w2) := HB1.out.trans (hb2.mono HB1.out.size)
      have hap := HAP.out w2 HB2.out
      have HSR : Hid (Srs w2 x1 (ones s)) := hsr
      clear hsp hb2 HAP y1 z2 g0 hsr
      go_wp2_with (go_at_call 8; refine hap.mono ?_)
      first | rintro e w3 x2 c2 rfl hb3 hf3 _ | rintro e w3 ⟨x2, c2, rfl, hb3, hf3, _⟩
      have HSR : Hid (Srs w3 x1 (ones s)) := HSR.out.below hb3
      have HB3 : Hid (Below w.heap.size w w3) := HB2.out.trans (hb3.mono HB2.out.size)
      have HF3 : Hid (Fls w3 x2 Y) := hf3
      obtain ⟨R, hR⟩ : ∃ R, w3.heap.size = R := ⟨_, rfl⟩
      have HR : Hid (w3.heap.size = R) := hR
      clear hap hb3 hf3 hR
      go_wp2
      go_loopw [14, 15] (fun v i wx => ∃ (j : Nat) (X : List Fl) (g : Option Addr) (c : Nat), j ≤ n ∧ i = .int .i64 j ∧ v = .slice g X.length c ∧ rnP t (s.take j) = (X, 0) ∧ (tf X).2 = 0 ∧ Fls wx g X ∧ X.length ≤ c ∧ Below R w3 wx) (fun _ i _ => n - (intOf i).toNat)
      case atStart => exact ⟨0, t, aa, ca, Nat.zero_le _, rfl, rfl, rfl, HT0.out, HA.out.below HB3.out, HCA.out, Below.refl _ _⟩
      case round =>
        obtain ⟨j, X, g, c, hj, rfl, rfl, hrn, htf, hfl, hcx, hbl⟩ := hrel
        have hbw : Below w3.heap.size w3 wr := by rw [HR.out]; exact hbl
        obtain ⟨t1, t2, _⟩ := tf_bounds htf
        by_cases hlt : j < n
        case' neg =>
          obtain rfl : j = n := by omega
          rw [List.take_of_length_le (by rw [HN.out]; exact Nat.le_refl _)] at hrn
          obtain rfl := HND.out X hrn
          have htr := trees_eq g x2 X c c2 wr hfl (HF3.out.below hbw) t1 t2
          rw [HNY.out] at htr ⊢
          have HBE : Hid (Below w.heap.size w wr) := HB3.out.trans (hbw.mono HB3.out.size)
          clear hrn htf hfl hcx hbl hbw t1 t2
          go_wp2_with (go_at_call 9; refine htr.mono ?_)
          rintro e w4 ⟨rfl, hb4⟩
          have HB4 : Hid (Below w.heap.size w w4) := HBE.out.trans (hb4.mono HBE.out.size)
          clear htr hb4
          go_wp2
          go_ret
          exact ⟨rfl, HB4.out⟩
        case' pos =>
          have hjs : j < s.length := by rw [HN.out]; exact hlt
          have hsr := HSR.out.below hbw
          obtain ⟨bs, fs, rfl⟩ := hsr.addr (i := j) (by rw [ones_len]; exact hjs)
          obtain ⟨ac, cc, y1, hch⟩ := hsr.at (i := j) (by rw [ones_len]; exact hjs)
          rw [ones_getD hjs] at y1 hch
          have hnx := HNX.out j X hjs hrn
          obtain ⟨hkd, hln⟩ := HKD.out _ (mem_getDc hjs)
          obtain ⟨d, hd⟩ : ∃ d, s.getD j cz = d := ⟨_, rfl⟩
          rw [hd] at y1 hch hnx hkd hln
          obtain ⟨b2, f2, rfl⟩ := hch.addr (i := 0) (by simp)
          obtain ⟨ah, ch, _, _, z2, _⟩ := hch.at (i := 0) (by simp)
          rw [Nat.zero_mul, Nat.add_zero] at z2
          replace y1 : wr.cell? ⟨bs, fs + j, none⟩ = some (.slice (some ⟨b2, f2, none⟩) 1 cc) := y1
          replace z2 : wr.cell? ⟨b2, f2 + 2, none⟩ = some (.slice ah d.2.2.length ch) := z2
          obtain ⟨k1, k2, k3⟩ := kf_maxS hkd
          have hap := patchApply g X c (some ⟨b2, f2, none⟩) [d] cc wr hfl hcx t1 t2 hch k1 k2 k3
          change Calls _ _ #[.slice g X.length c, .slice (some ⟨b2, f2, none⟩) 1 cc] _ _ at hap
          obtain ⟨m, hm⟩ : ∃ m, d.2.2.length = m := ⟨_, rfl⟩
          rw [hm] at z2 hln
          have hgt : decide (1 < (m : Int)) = false := decide_eq_false (by omega)
          obtain ⟨nX, hnX⟩ : ∃ m, X.length = m := ⟨_, rfl⟩
          rw [hnX] at hap ⊢
          have HBL : Hid (Below R w3 wr) := hbl
          have HBW : Hid (Below w.heap.size w wr) := HB3.out.trans (hbw.mono HB3.out.size)
          clear hsr hch hd hkd hln hm k1 k2 k3 hfl hcx t1 t2 htf hbw hbl hrn hnX hjs
          have hRw : R ≤ wr.heap.size := by have := HBL.out.size; have := HR.out; omega
          rcases hnx with h3 | ⟨h3, hrn⟩
          · rw [h3, errV_not (by decide)] at hap
            obtain ⟨Z, hZ⟩ : ∃ Z, (apF X [d]).1 = Z := ⟨_, rfl⟩
            obtain ⟨iZ, hiZ⟩ : ∃ Z, (apF X [d]).2.1 = Z := ⟨_, rfl⟩
            rw [hZ, hiZ] at hap
            obtain ⟨nZ, hnZ⟩ : ∃ m, Z.length = m := ⟨_, rfl⟩
            rw [hnZ] at hap
            clear h3 hZ hiZ hnZ
            go_wp2_with (go_at_call 8; refine hap.mono ?_)
            first | rintro e w4 x4 c4 rfl hb4 _ _ | rintro e w4 ⟨x4, c4, rfl, hb4, _, _⟩
            have HB4 : Hid (Below w.heap.size w w4) := HBW.out.trans (hb4.mono HBW.out.size)
            have her := (error_err 3 3 w4 (HTY.out w4 HB4.out)).mono fun e w' (h : e = .returned (.bool ((3 : Int) == 3)) ∧ Below w4.heap.size w4 w') => (⟨h.1, h.2⟩ : e = .returned (.bool true) ∧ Below w4.heap.size w4 w')
            clear hap hb4 y1 z2
            go_wp2_with (go_at_call 13; refine her.mono ?_)
            rintro e w5 ⟨rfl, hb5⟩
            have HB5 : Hid (Below w.heap.size w w5) := HB4.out.trans (hb5.mono HB4.out.size)
            clear her hb5
            go_wp2
            go_ret
            exact ⟨rfl, HB5.out⟩
          · have HTN : Hid ((tf (apF X [d]).1).2 = 0) := apF_tree h3
            rw [h3, errV_zero] at hap
            obtain ⟨Z, hZ⟩ : ∃ Z, (apF X [d]).1 = Z := ⟨_, rfl⟩
            obtain ⟨iZ, hiZ⟩ : ∃ Z, (apF X [d]).2.1 = Z := ⟨_, rfl⟩
            rw [hZ] at HTN hrn
            rw [hZ, hiZ] at hap
            obtain ⟨nZ, hnZ⟩ : ∃ m, Z.length = m := ⟨_, rfl⟩
            have HNZ : Hid (Z.length = nZ) := hnZ
            have HRN : Hid (rnP t (s.take (j + 1)) = (Z, 0)) := hrn
            rw [hnZ] at hap
            clear h3 hZ hiZ hnZ hrn
            go_wp2_with (go_at_call 8; refine hap.mono ?_)
            first | rintro e w4 x4 c4 rfl hb4 hf4 hc4 | rintro e w4 ⟨x4, c4, rfl, hb4, hf4, hc4⟩
            have her := (error_nil 3 w4).mono fun e w' (h : e = .returned (.bool ((0 : Int) == 3)) ∧ w' = w4) => (⟨h.1, h.2⟩ : e = .returned (.bool false) ∧ w' = w4)
            have HB4 : Hid (Below R w3 w4) := HBL.out.trans (hb4.mono hRw)
            have HF4 : Hid (Fls w4 x4 Z) := hf4
            have HC4 : Hid (nZ ≤ c4) := hc4
            clear hap hb4 hf4 hc4 y1 z2
            go_wp2_with (go_at_call 13; refine her.mono ?_; rintro e w5 ⟨rfl, hw⟩; rw [hw]; clear hw her)
            go_roundw
            case rel => exact ⟨j + 1, Z, x4, c4, by omega, by go_num, by rw [HNZ.out], HRN.out, HTN.out, HF4.out, by rw [HNZ.out]; exact HC4.out, HB4.out⟩
            case measure => simp [intOf]; omega

end Go.Proofs.YtnkdmgekpajfhaeDoor
