/-
  Walk of package match's texts: the lines of the text of each patch of a series. Walk of package match's square: the costs of each pair of two series. Pairs of places in memory, rows of them that a call lengthens; the walk of package match's pairs. Walk of package match's Range: which is which of two series.
-/
import Derived.Test.YtfmhapajdnmhoafDoorXp
import Derived.Test.YtfmhapajdnmhoafDoorGpr
import Derived.Test.YtfmhapajdnmhoafDoorUspl
import Derived.Test.YtfmhapajdnmhoafDoorXo
import Derived.Test.YtfmhapajdnmhoafDoorXd
import Derived.Deep.RegionWith
import Derived.Test.YtfmhapajdnmhoafDoorXf
import Derived.WalkSpells
namespace Go.Proofs.YtfmhapajdnmhoafDoor
open Go.RowKit Dist

theorem Tryd.infoTx : (Tryd.prog.info? 52).map (fun i => (i.zero, i.size, i.bytes)) = some (some (.slice none 0 0), 1, 24) := by kernel_rfl

/-- A series as it may come in. -/
def Okl (ps : List (List Ch)) : Prop := ps.length ≤ maxLen ∧ ∀ l ∈ ps, l.length ≤ maxLen ∧ (∀ c ∈ l, c.2.2.length ≤ maxLen) ∧ (∀ c ∈ l, ∀ h ∈ c.2.2, h.2.2.length ≤ maxLen) ∧ ∀ c ∈ l, ∀ h ∈ c.2.2, ∀ m ∈ h.2.2, m.2.size ≤ maxLen
theorem Okl.at {ps : List (List Ch)} (h : Okl ps) {k : Nat} (hk : k < ps.length) : (ps.getD k []).length ≤ maxLen ∧ (∀ c ∈ ps.getD k [], c.2.2.length ≤ maxLen) ∧ (∀ c ∈ ps.getD k [], ∀ h ∈ c.2.2, h.2.2.length ≤ maxLen) ∧ ∀ c ∈ ps.getD k [], ∀ h ∈ c.2.2, ∀ m ∈ h.2.2, m.2.size ≤ maxLen := h.2 _ (mem_getDs hk)

/-- A row of rows of lines of the call's own, as far as it is filled. -/
def Tro (w : World) (R n k : Nat) (ts : Nat → List ByteArray) : Prop :=
  ∃ rs : Array Value, w.heap[R]? = some (.cells rs 52 (0, 0)) ∧ rs.size = n ∧ ∀ i, i < k → ∃ g c, rs[i]? = some (.slice g (ts i).length c) ∧ Strs w g (ts i) ∧ ∀ x, g = some x → x.block ≠ R
theorem Tro.lt {w : World} {R n k : Nat} {ts : Nat → List ByteArray} (h : Tro w R n k ts) : R < w.heap.size := by
  obtain ⟨rs, hb, _⟩ := h
  exact (Array.getElem?_eq_some_iff.1 hb).1
theorem Tro.below {w w' : World} {R n k : Nat} {ts : Nat → List ByteArray} (h : Tro w R n k ts) (hb : Below w.heap.size w w') : Tro w' R n k ts := by
  have hR := h.lt
  obtain ⟨rs, hh, hs, hat⟩ := h
  refine ⟨rs, blk_below hb hR hh, hs, fun i hi => ?_⟩
  obtain ⟨g, c, e, hst, hx⟩ := hat i hi
  exact ⟨g, c, e, hst.below hb, hx⟩
theorem Tro.any {w : World} {R n k : Nat} {ts : Nat → List ByteArray} (h : Tro w R n k ts) {i : Nat} (hi : i < n) : ∃ v, w.cell? ⟨R, i, none⟩ = some v := by
  obtain ⟨rs, hh, hs, _⟩ := h
  rw [Lib.cell_of_heap hh]
  exact ⟨_, Array.getElem?_eq_getElem (by omega)⟩
theorem Tro.frozen {w : World} {R n k : Nat} {ts : Nat → List ByteArray} (h : Tro w R n k ts) (i : Nat) : w.frozen? ⟨R, i, none⟩ = false := by
  obtain ⟨rs, hh, _⟩ := h
  exact Lib.frozen_of_heap hh i
theorem Strs.off {w : World} {a : Option Addr} {ss : List ByteArray} (h : Strs w a ss) {R : Nat} (hx : ∀ x, a = some x → x.block ≠ R) (i : Nat) (v : Value) : Strs (w.setCell ⟨R, i, none⟩ v) a ss := by
  intro j hj
  obtain ⟨b, off, e, hc⟩ := h j hj
  refine ⟨b, off, e, ?_⟩
  have hne := hx _ e
  rw [World.cell?_setCell_other _ _ _ _ (fun y => hne (by simpa using (congrArg Addr.block y).symm))]
  exact hc
theorem Tro.set {w : World} {R n k : Nat} {ts : Nat → List ByteArray} (h : Tro w R n k ts) (hk : k < n) {g : Option Addr} {l c : Nat} (hl : (ts k).length = l) (hs : Strs w g (ts k)) (hx : ∀ x, g = some x → x.block ≠ R) : Tro (w.setCell ⟨R, k, none⟩ (.slice g l c)) R n (k + 1) ts := by
  subst hl
  obtain ⟨rs, hh, hz, hat⟩ := h
  refine ⟨_, blk_set hh _, by simpa using hz, fun i hi => ?_⟩
  by_cases e : i = k
  · subst e
    exact ⟨g, c, by rw [Array.getElem?_setIfInBounds_self_of_lt (by omega)], hs.off hx _ _, hx⟩
  · obtain ⟨g1, c1, e1, h1, hx1⟩ := hat i (by omega)
    exact ⟨g1, c1, by rw [Array.getElem?_setIfInBounds_ne (Ne.symm e)]; exact e1, h1.off hx1 _ _, hx1⟩
theorem Tro.txs {w : World} {R n : Nat} {ts : List (List ByteArray)} (h : Tro w R n n (fun i => ts.getD i [])) (hl : ts.length = n) : Txs w (some ⟨R, 0, none⟩) ts := by
  obtain ⟨rs, hh, hz, hat⟩ := h
  intro i hi
  obtain ⟨g, c, e, hst, _⟩ := hat i (by omega)
  exact ⟨R, 0, g, c, rfl, by rw [Nat.zero_add, Lib.cell_of_heap hh]; exact e, hst⟩

/-- What comes of texts. -/
def ttO (ps : List (List Ch)) : List (List ByteArray) := if srF ps ≠ 0 then [] else txs ps
def TtV (ps : List (List Ch)) (e : Ending) (w w' : World) : Prop := ∃ g c, e = .returned (.tuple #[.slice g (ttO ps).length c, errV (srF ps)]) ∧ Txs w' g (ttO ps) ∧ Below w.heap.size w w'

set_option maxHeartbeats 1000000 in
set_option maxRecDepth 100000 in
theorem textsOf (a : Option Addr) (ps : List (List Ch)) (ca : Nat) (w : World) (ha : Srs w a ps) (ho : Okl ps) (h4 : ps.length ≤ 4) :
    Calls Tryd.prog 7 #[.slice a ps.length ca] w fun e w' => TtV ps e w w' := by
  obtain ⟨n, hn⟩ : ∃ n, ps.length = n := ⟨_, rfl⟩
  rw [hn] at h4 ⊢
  obtain ⟨R, hR⟩ : ∃ R, w.heap.size = R := ⟨_, rfl⟩
  have HN : Hid (ps.length = n) := hn
  have HR : Hid (w.heap.size = R) := hR
  have HA : Hid (Srs w a ps) := ha
  have HO : Hid (Okl ps) := ho
  have hmk := run_make_row' (P := Tryd.prog) 39 52 (.slice none 0 0) 24 Tryd.underlying39 Tryd.infoTx rfl .i64 .i64 n (by omega) (by omega)
  have hst : Tro (w.alloc (.cells (madeCells #[.slice none 0 0] n) 52)) R n 0 (fun i => tx1 (ps.getD i [])) ∧ Below R w (w.alloc (.cells (madeCells #[.slice none 0 0] n) 52)) := by
    rw [← hR]
    exact ⟨⟨_, heap_alloc_new w _, size_madeCells _ _, fun i hi => absurd hi (Nat.not_lt_zero _)⟩, below_alloc _ _⟩
  have HST : Hid _ := hst
  clear hn ha ho hst
  go_enter Tryd.func7, Tryd.ntmps7
  go_wp2
  clear hmk
  have hst := HST.out
  clear HST hR
  generalize w.alloc (.cells (madeCells #[.slice none 0 0] n) 52) = w2 at hst ⊢
  go_loopw [15] (fun i wx => ∃ k : Nat, k ≤ n ∧ i = .int .i64 k ∧ (∀ j, j < k → (kf (ps.getD j [])).2 = 0) ∧ Tro wx R n k (fun i => tx1 (ps.getD i [])) ∧ Below R w wx) (fun i _ => n - (intOf i).toNat)
  case atStart => exact ⟨0, Nat.zero_le _, rfl, fun j hj => absurd hj (Nat.not_lt_zero _), hst.1, hst.2⟩
  case round =>
    clear hst w2
    obtain ⟨k, hk, rfl, hall, htr, hbl⟩ := hrel
    have HALL : Hid (∀ j, j < k → (kf (ps.getD j [])).2 = 0) := hall
    clear hall
    by_cases hlt : k < n
    · have hkl : k < ps.length := by rw [HN.out]; exact hlt
      have hsr : Srs wr a ps := HA.out.below (by rw [HR.out]; exact hbl)
      obtain ⟨b, off, rfl⟩ := hsr.addr hkl
      obtain ⟨ac, cc, hc, hch⟩ := hsr.at hkl
      obtain ⟨o1, o2, o3, _⟩ := HO.out.at hkl
      have hpb := gprint_bad ac (ps.getD k []) cc wr hch o1 o2 o3
      have hpo := gprint_ok ac (ps.getD k []) cc wr hch
      have hat := fun h1 h2 => srF_at (p := ps) (k := k) hkl h1 h2
      have hgs := fun h => gpr_short (p := ps.getD k []) h
      have hpc := fun (qs : List ByteArray) h => tx1_pieces (l := ps.getD k []) (ps := qs) h
      obtain ⟨l, hl⟩ : ∃ l, ps.getD k [] = l := ⟨_, rfl⟩
      have HL : Hid (ps.getD k [] = l) := hl
      rw [hl] at hc hpb hpo hat hgs hpc
      obtain ⟨m, hm⟩ : ∃ m, l.length = m := ⟨_, rfl⟩
      rw [hm] at hc hpb hpo
      clear hl hm hsr hch o1 o2 o3
      by_cases hf : (kf l).2 = 0
      · have hpo := hpo hf
        have hgs := hgs hf
        have HTR : Hid (Tro wr R n k (fun i => tx1 (ps.getD i []))) := htr
        have HX : Hid (∀ j, j < k + 1 → (kf (ps.getD j [])).2 = 0) := fun j hj => by
          by_cases e : j = k
          · subst e; rw [HL.out]; exact hf
          · exact HALL.out j (by omega)
        have hsp : ∀ w2, Calls Tryd.prog 16 #[.string ⟨(gpr l).toArray⟩, .string ⟨#[10]⟩] w2 fun e w' => ∃ (qs : List ByteArray) (T : Nat), e = .returned (.slice (some ⟨w2.heap.size, 0, none⟩) (T + 1) (T + 1)) ∧ (tx1 l).length = T ∧ qs.length = T + 1 ∧ qs.take T = tx1 l ∧ Below w2.heap.size w2 w' ∧ Strs w' (some ⟨w2.heap.size, 0, none⟩) qs := fun w2 =>
          (splitAll ⟨(gpr l).toArray⟩ w2 (by rw [Lib.size_eq]; simp; omega)).mono fun e w' ⟨qs, he, hq, hb, hs⟩ => by
            obtain ⟨p1, p2⟩ := hpc qs (by simpa [bts] using hq)
            rw [p1] at he p2
            exact ⟨qs, _, he, rfl, p1, by simpa using p2, hb, hs⟩
        have htl := tx1_len hf
        clear hpb hat hpc hgs htr HALL
        go_upto_region 9 with (first
          | (go_at_call 15; refine hpo.mono ?_; rintro e w2 ⟨rfl, hb2⟩)
          | (go_at_call 16; refine (hsp _).mono ?_; rintro e w3 ⟨qs, T, rfl, hT, hq1, hq2, hb3, hs3⟩)
          | go_in)
        have hzR : R < wr.heap.size := HTR.out.lt
        have hb4 : Below wr.heap.size wr w3 := hb2.trans (hb3.mono hb2.size)
        have htr3 : Tro w3 R n k (fun i => tx1 (ps.getD i [])) := HTR.out.below hb4
        have hbl3 : Below R w w3 := hbl.trans (hb4.mono (Nat.le_of_lt hzR))
        have hG : R < w2.heap.size := Nat.lt_of_lt_of_le hzR hb2.size
        obtain ⟨G, hGG⟩ : ∃ G, w2.heap.size = G := ⟨_, rfl⟩
        rw [hGG] at hs3 hG
        simp only [hGG]
        have hst : Strs w3 (some ⟨G, 0, none⟩) (tx1 (ps.getD k [])) := fun j hj => by
          rw [HL.out] at hj ⊢
          obtain ⟨b', o', e, hcj⟩ := hs3 j (by omega)
          refine ⟨b', o', e, ?_⟩
          have : (tx1 l).getD j ByteArray.empty = qs.getD j ByteArray.empty := by
            rw [← hq2]
            simp [show j < T by omega, show j < qs.length by omega]
          rw [this]; exact hcj
        obtain ⟨v0, hv0⟩ := htr3.any hlt
        have hf0 := htr3.frozen k
        have HT2 := htr3.set hlt (g := some ⟨G, 0, none⟩) (l := T) (c := T + 1) (by show (tx1 (ps.getD k [])).length = T; rw [HL.out]; exact hT) hst (fun x hx => by cases hx; show G ≠ R; omega)
        have HT3 : Hid _ := HT2
        have hb5 : Below R w (w3.setCell ⟨R, k, none⟩ (.slice (some ⟨G, 0, none⟩) T (T + 1))) := hbl3.setCell (show R ≤ (⟨R, k, none⟩ : Addr).block from Nat.le_refl R) _
        have hTb : T ≤ 2912 := by omega
        clear HT2 hst htr3 hs3 hq1 hq2 hb2 hb3 hb4 hGG HTR hsp hpo hT htl
        go_wp2
        go_roundw
        case rel => exact ⟨k + 1, by omega, by go_num, HX.out, HT3.out, hb5⟩
        case measure => simp [intOf]; omega
      · have e1 := hat HALL.out hf
        have HV : Hid (∀ w', Below R w w' → TtV ps (.returned (.tuple #[.slice none 0 0, .iface 33 (.int .i64 (kf l).2)])) w w') := fun w' h => by
          refine ⟨none, 0, ?_, ?_, by rw [HR.out]; exact h⟩
          · unfold ttO
            rw [e1, if_pos hf, errV_not hf]; rfl
          · unfold ttO
            rw [e1, if_pos hf]; exact Txs.nil _ _
        have hpb := hpb hf
        have hzR : R ≤ wr.heap.size := Nat.le_of_lt htr.lt
        clear hpo hat hpc hgs htr HALL e1 hf
        go_wp2_with (go_at_call 15; refine hpb.mono ?_; rintro e w2 ⟨rfl, hb2⟩)
        go_ret2
        exact HV.out _ (hbl.trans (hb2.mono hzR))
    · have hkn : k = n := by omega
      subst hkn
      have h0 : srF ps = 0 := srF_all fun j hj => HALL.out j (by rw [← HN.out]; exact hj)
      have HV : Hid (TtV ps (.returned (.tuple #[.slice (some ⟨R, 0, none⟩) k k, .nilIface])) w wr) := by
        refine ⟨some ⟨R, 0, none⟩, k, ?_, ?_, by rw [HR.out]; exact hbl⟩
        · unfold ttO
          rw [h0, if_neg (by simp), txs_len, HN.out]; rfl
        · unfold ttO
          rw [h0, if_neg (by simp)]
          refine Tro.txs ?_ (by rw [txs_len, HN.out])
          obtain ⟨rs, hh, hz, hat⟩ := htr
          refine ⟨rs, hh, hz, fun i hi => ?_⟩
          have e := txs_at (p := ps) (i := i) (by rw [HN.out]; exact hi)
          show ∃ g c, rs[i]? = some (.slice g ((txs ps).getD i []).length c) ∧ Strs wr g ((txs ps).getD i []) ∧ _
          rw [e]
          exact hat i hi
      clear h0 htr HALL
      go_wp2
      go_ret2
      exact HV.out

end Go.Proofs.YtfmhapajdnmhoafDoor
namespace Go.Proofs.YtfmhapajdnmhoafDoor
open Go.RowKit Dist

theorem Tryd.infoInts2 : (Tryd.prog.info? 36).map (fun i => (i.zero, i.size, i.bytes)) = some (some (.slice none 0 0), 1, 24) := by kernel_rfl

/-- Rows of numbers hung into a row, as far as they are. -/
def Cro (w : World) (C U n k : Nat) (f : Nat → Nat → Int) : Prop :=
  ∃ rs : Array Value, w.heap[C]? = some (.cells rs 36 (0, 0)) ∧ rs.size = n ∧ ∀ i, i < k → ∃ g, rs[i]? = some (.slice (some ⟨g, 0, none⟩) n n) ∧ C < g ∧ g < U ∧ Nrow w g n (f i)
theorem Cro.below {w w' : World} {C U n k : Nat} {f : Nat → Nat → Int} (h : Cro w C U n k f) (hb : Below U w w') (hC : C < U) : Cro w' C U n k f := by
  obtain ⟨rs, hh, hs, hat⟩ := h
  refine ⟨rs, blk_below hb hC hh, hs, fun i hi => ?_⟩
  obtain ⟨g, e, h1, h2, h3⟩ := hat i hi
  exact ⟨g, e, h1, h2, h3.below hb h2⟩
theorem Cro.any {w : World} {C U n k : Nat} {f : Nat → Nat → Int} (h : Cro w C U n k f) {i : Nat} (hi : i < n) : ∃ v, w.cell? ⟨C, i, none⟩ = some v := by
  obtain ⟨rs, hh, hs, _⟩ := h
  rw [Lib.cell_of_heap hh]
  exact ⟨_, Array.getElem?_eq_getElem (by omega)⟩
theorem Cro.frozen {w : World} {C U n k : Nat} {f : Nat → Nat → Int} (h : Cro w C U n k f) (i : Nat) : w.frozen? ⟨C, i, none⟩ = false := by
  obtain ⟨rs, hh, _⟩ := h
  exact Lib.frozen_of_heap hh i
theorem Nrow.other {w : World} {R n : Nat} {f : Nat → Int} (h : Nrow w R n f) {B : Nat} (hB : B ≠ R) (i : Nat) (v : Value) : Nrow (w.setCell ⟨B, i, none⟩ v) R n f := by
  obtain ⟨rs, hb, h2⟩ := h
  have e : (w.setCell ⟨B, i, none⟩ v).heap[R]? = w.heap[R]? := by
    simp only [World.setCell, Array.getElem?_modify]
    rw [if_neg hB]
  exact ⟨rs, by rw [e]; exact hb, h2⟩
/-- A row is hung in behind the others. -/
theorem Cro.hang {w : World} {C U n k : Nat} {f : Nat → Nat → Int} (h : Cro w C U n k f) (v : Value) : Cro (w.setCell ⟨C, k, none⟩ v) C U n k f := by
  obtain ⟨rs, hh, hs, hat⟩ := h
  refine ⟨_, blk_set hh _, by simpa using hs, fun i hi => ?_⟩
  obtain ⟨g, e, h1, h2, h3⟩ := hat i hi
  exact ⟨g, by rw [Array.getElem?_setIfInBounds_ne (by omega)]; exact e, h1, h2, h3.other (by omega) _ _⟩

/-- While a row is filled. -/
def Crs (w : World) (C g n i : Nat) (f : Nat → Nat → Int) (r : Nat → Int) : Prop :=
  Cro w C g n i f ∧ w.cell? ⟨C, i, none⟩ = some (.slice (some ⟨g, 0, none⟩) n n) ∧ Nrow w g n r ∧ C < g ∧ g < w.heap.size
theorem Crs.drawn {w : World} {C g n i : Nat} {f : Nat → Nat → Int} {r : Nat → Int} (h : Crs w C g n i f r) (q : Nat) : Crs (w.drewN q) C g n i f r := h
theorem Crs.store {w : World} {C g n i : Nat} {f : Nat → Nat → Int} {r : Nat → Int} (h : Crs w C g n i f r) {j : Nat} (hj : j < n) (u : Int) : Crs (w.setCell ⟨g, j, none⟩ (.int .i64 u)) C g n i f (fun k => if k = j then u else r k) := by
  obtain ⟨h1, h2, h3, h4, h5⟩ := h
  have hb : Below g w (w.setCell ⟨g, j, none⟩ (.int .i64 u)) := Below.setCell (Below.refl g w) (show g ≤ (⟨g, j, none⟩ : Addr).block from Nat.le_refl g) _
  refine ⟨h1.below hb h4, ?_, h3.set hj u, h4, by simpa using h5⟩
  rw [World.cell?_setCell_other _ _ _ _ (fun e => by have := congrArg Addr.block e; simp only at this; omega)]
  exact h2
theorem Crs.congr {w : World} {C g n i : Nat} {f : Nat → Nat → Int} {r s : Nat → Int} (h : Crs w C g n i f r) (e : ∀ k, k < n → r k = s k) : Crs w C g n i f s := by
  obtain ⟨h1, h2, h3, h4, h5⟩ := h
  exact ⟨h1, h2, h3.congr e, h4, h5⟩
theorem Crs.full {w : World} {C g n i : Nat} {f : Nat → Nat → Int} (h : Crs w C g n i f (f i)) : Cro w C w.heap.size n (i + 1) f := by
  obtain ⟨⟨rs, hh, hs, hat⟩, h2, h3, h4, h5⟩ := h
  refine ⟨rs, hh, hs, fun k hk => ?_⟩
  by_cases e : k = i
  · subst e
    rw [Lib.cell_of_heap hh] at h2
    exact ⟨g, h2, h4, h5, h3⟩
  · obtain ⟨g', e', p1, p2, p3⟩ := hat k (by omega)
    exact ⟨g', e', p1, by omega, p3⟩
theorem Cro.sqr {w : World} {C U np nq : Nat} {ts : List (List ByteArray)} (h : Cro w C U (np + nq) (np + nq) (rcs np nq ts)) : Sqr w (some ⟨C, 0, none⟩) (rmx np nq ts) := by
  obtain ⟨rs, hh, hs, hat⟩ := h
  intro i hi
  rw [rmx_len] at hi
  obtain ⟨g, e, _, _, hr⟩ := hat i hi
  have hl : ((rmx np nq ts).getD i []).length = np + nq := by rw [rmx_row hi]; simp
  refine ⟨C, 0, some ⟨g, 0, none⟩, np + nq, rfl, by rw [Nat.zero_add, Lib.cell_of_heap hh, hl]; exact e, hr.ins hl fun k hk => ?_⟩
  rw [rmx_row hi]
  simp [hk]

set_option maxHeartbeats 2000000 in
set_option maxRecDepth 100000 in
theorem squareOf (a b : Option Addr) (xs ys : List (List ByteArray)) (ca cb : Nat) (w : World) (ha : Txs w a xs) (hb : Txs w b ys) (h1 : ∀ t ∈ xs, t.length ≤ 2912) (h2 : ∀ t ∈ ys, t.length ≤ 2912) (hl1 : xs.length ≤ 4) (hl2 : ys.length ≤ 4) :
    Calls Tryd.prog 9 #[.slice a xs.length ca, .slice b ys.length cb] w fun e w' => ∃ g c, e = .returned (.slice g (xs.length + ys.length) c) ∧ Sqr w' g (rmx xs.length ys.length (xs ++ ys)) ∧ Below w.heap.size w w' := by
  have hpc := fun i k w1 h3 h4 => pairCost a b xs ys ca cb i k w1 h3 h4 h1 h2
  obtain ⟨C, hC⟩ : ∃ C, w.heap.size = C := ⟨_, rfl⟩
  have HC : Hid (w.heap.size = C) := hC
  have HA : Hid (Txs w a xs) := ha
  have HB : Hid (Txs w b ys) := hb
  have HQ : Hid (∀ w' U, Cro w' C U (xs.length + ys.length) (xs.length + ys.length) (rcs xs.length ys.length (xs ++ ys)) → Sqr w' (some ⟨C, 0, none⟩) (rmx xs.length ys.length (xs ++ ys))) := fun w' U h => h.sqr
  obtain ⟨F, hF⟩ : ∃ F, rcs xs.length ys.length (xs ++ ys) = F := ⟨_, rfl⟩
  rw [hF] at hpc HQ
  obtain ⟨M, hM⟩ : ∃ M, rmx xs.length ys.length (xs ++ ys) = M := ⟨_, rfl⟩
  rw [hM] at HQ ⊢
  obtain ⟨np, hnp⟩ : ∃ np, xs.length = np := ⟨_, rfl⟩
  obtain ⟨nq, hnq⟩ : ∃ nq, ys.length = nq := ⟨_, rfl⟩
  rw [hnp] at hpc HQ hl1 ⊢
  rw [hnq] at hpc HQ hl2 ⊢
  obtain ⟨n, hn⟩ : ∃ n, np + nq = n := ⟨_, rfl⟩
  have hn8 : n ≤ 8 := by omega
  have hni : (np : Int) + (nq : Int) = (n : Int) := by omega
  rw [hn] at HQ ⊢
  have hmk1 := run_make_row' (P := Tryd.prog) 44 36 (.slice none 0 0) 24 Tryd.underlying44 Tryd.infoInts2 rfl .i64 .i64 n (by omega) (by omega)
  have hmk2 := run_make_row' (P := Tryd.prog) 36 3 (.int .i64 0) 8 Tryd.underlying36 Tryd.infoInt1 rfl .i64 .i64 n (by omega) (by omega)
  have hst : Cro (w.alloc (.cells (madeCells #[.slice none 0 0] n) 36)) C (C + 1) n 0 F ∧ Below C w (w.alloc (.cells (madeCells #[.slice none 0 0] n) 36)) ∧ (w.alloc (.cells (madeCells #[.slice none 0 0] n) 36)).heap.size = C + 1 := by
    rw [← hC]
    exact ⟨⟨_, heap_alloc_new w _, size_madeCells _ _, fun i hi => absurd hi (Nat.not_lt_zero _)⟩, below_alloc _ _, by simp⟩
  have HST : Hid _ := hst
  clear ha hb h1 h2 hF hM hnp hnq hn hst
  go_enter Tryd.func9, Tryd.ntmps9
  go_wp2
  clear hmk1
  have hst := HST.out
  clear HST hC hni
  generalize w.alloc (.cells (madeCells #[.slice none 0 0] n) 36) = w2 at hst ⊢
  go_loopw [18] (fun i wx => ∃ k : Nat, k ≤ n ∧ i = .int .i64 k ∧ Cro wx C wx.heap.size n k F ∧ Below C w wx ∧ C < wx.heap.size) (fun i _ => n - (intOf i).toNat)
  case atStart =>
    obtain ⟨s1, s2, s3⟩ := hst
    exact ⟨0, Nat.zero_le _, rfl, by rw [s3]; exact s1, s2, by omega⟩
  case round =>
    clear hst w2
    obtain ⟨k, hk, rfl, hcr, hbl, hsz⟩ := hrel
    by_cases hlt : k < n
    · obtain ⟨v0, hv0⟩ := hcr.any hlt
      have hfz := hcr.frozen k
      obtain ⟨g, hg⟩ : ∃ g, wr.heap.size = g := ⟨_, rfl⟩
      have hCg : C < g := by omega
      have hal : Below g wr (wr.alloc (.cells (madeCells #[.int .i64 0] n) 3)) := by rw [← hg]; exact below_alloc _ _
      have hcr2 : Cro (wr.alloc (.cells (madeCells #[.int .i64 0] n) 3)) C g n k F := by
        rw [hg] at hcr
        exact hcr.below hal hCg
      obtain ⟨v1, hv1⟩ := hcr2.any hlt
      have hfz1 := hcr2.frozen k
      have HS : Hid (Crs ((wr.alloc (.cells (madeCells #[.int .i64 0] n) 3)).setCell ⟨C, k, none⟩ (.slice (some ⟨g, 0, none⟩) n n)) C g n k F (fun _ => 0) ∧ Below C w ((wr.alloc (.cells (madeCells #[.int .i64 0] n) 3)).setCell ⟨C, k, none⟩ (.slice (some ⟨g, 0, none⟩) n n))) := by
        refine ⟨⟨hcr2.hang _, World.cell?_setCell_same _ _ _ hv1, Nrow.other ⟨madeCells #[.int .i64 0] n, by rw [← hg]; exact heap_alloc_new wr _, size_madeCells _ _, fun k hk => made_num _ _ _ hk⟩ (by omega) _ _, hCg, by simp; omega⟩, ?_⟩
        exact Below.setCell (hbl.trans (hal.mono (by omega))) (show C ≤ (⟨C, k, none⟩ : Addr).block from Nat.le_refl C) _
      clear hcr hcr2 hal hbl hfz hv0
      go_upto_region 7 with fail
      have hs := HS.out
      rw [World.setCell_alloc_past _ _ _ _ hsz] at hs
      clear HS hmk2 hv1 hfz1
      generalize (wr.setCell ⟨C, k, none⟩ (.slice (some ⟨g, 0, none⟩) n n)).alloc (.cells (madeCells #[.int .i64 0] n) 3) = w3 at hs ⊢
      have hc3 := hs.1.2.1
      go_wp2
      clear hc3
      go_loopw [31] (fun i wx => ∃ j : Nat, j ≤ n ∧ i = .int .i64 j ∧ Crs wx C g n k F (fun l => if l < j then F k l else 0) ∧ Below C w wx) (fun i _ => n - (intOf i).toNat)
      case atStart => exact ⟨0, Nat.zero_le _, rfl, hs.1.congr fun l hl => by rw [if_neg (by omega)], hs.2⟩
      case round =>
        clear hs w3
        obtain ⟨j, hj, rfl, hcs, hbl⟩ := hrel
        by_cases hjt : j < n
        · have hc3 := hcs.2.1
          have hcg := hcs.2.2.1.cell hjt
          have hfg := hcs.2.2.1.frozen j
          have hta : Txs wr a xs := HA.out.below (by rw [HC.out]; exact hbl)
          have htb : Txs wr b ys := HB.out.below (by rw [HC.out]; exact hbl)
          have hst := fun q => (hcs.drawn q).store hjt (F k j)
          have hbs := fun q => (below_drawn (q := q) hbl).setCell (show C ≤ (⟨g, j, none⟩ : Addr).block from Nat.le_of_lt hcs.2.2.2.1) (.int .i64 (F k j))
          have HPC : Hid (∀ w1, Txs w1 a xs → Txs w1 b ys → Calls Tryd.prog 22 #[.slice a np ca, .slice b nq cb, .int .i64 k, .int .i64 j] w1 fun e w' => e = .returned (.int .i64 (F k j)) ∧ ∃ q', w' = w1.drewN q') := fun w1 p1 p2 => hpc k j w1 p1 p2
          obtain ⟨x, hx⟩ : ∃ x, F k j = x := ⟨_, rfl⟩
          rw [hx] at hst hbs HPC
          simp only [Nat.lt_irrefl, if_false] at hcg
          have HX : Hid (F k j = x) := hx
          have HT : Hid (Txs wr a xs ∧ Txs wr b ys) := ⟨hta, htb⟩
          have HH : Hid (∀ q, Crs ((wr.drewN q).setCell ⟨g, j, none⟩ (.int .i64 x)) C g n k F (fun l => if l < j + 1 then F k l else 0) ∧ Below C w ((wr.drewN q).setCell ⟨g, j, none⟩ (.int .i64 x))) := fun q => ⟨(hst q).congr fun l hl => by
            by_cases e : l = j
            · subst e; rw [if_pos rfl, if_pos (by omega), HX.out]
            · rw [if_neg e]
              by_cases e2 : l < j
              · rw [if_pos e2, if_pos (by omega)]
              · rw [if_neg e2, if_neg (by omega)], hbs q⟩
          clear hta htb hst hbs hx hpc hcs hbl
          go_wp2
          go_region_with (go_at_call 22; refine (HPC.out _ (by exact HT.out.1) (by exact HT.out.2)).mono ?_; rintro e w1 ⟨rfl, q', rfl⟩)
          all_goals
            go_wp2
            go_roundw
            case rel => exact ⟨j + 1, by omega, by go_num, (HH.out _).1, (HH.out _).2⟩
            case measure => simp [intOf]; omega
        · have hjn : j = n := by omega
          have hfull : Cro wr C wr.heap.size n (k + 1) F := Crs.full (hcs.congr fun l hl => by rw [if_pos (by omega)])
          have hz : C < wr.heap.size := Nat.lt_trans hcs.2.2.2.1 hcs.2.2.2.2
          clear hcs
          go_wp2
          go_roundw
          case rel => exact ⟨k + 1, by omega, by go_num, hfull, hbl, hz⟩
          case measure => simp [intOf]; omega
    · have hkn : k = n := by omega
      subst hkn
      have HV := HQ.out wr _ hcr
      clear hcr HQ hpc
      go_wp2
      go_ret
      exact ⟨_, _, rfl, HV, by rw [HC.out]; exact hbl⟩

end Go.Proofs.YtfmhapajdnmhoafDoor
namespace Go.Proofs.YtfmhapajdnmhoafDoor
open Go.RowKit Dist

theorem Tryd.infoPair : (Tryd.prog.info? 32).map (fun i => (i.zero, i.size, i.bytes)) = some (some (.agg #[.int .i64 0, .int .i64 0]), 2, 16) := by kernel_rfl

/-- The cells of pairs. -/
def pcells (ps : List (Int × Int)) : List Value := ps.flatMap fun p => [.int .i64 p.1, .int .i64 p.2]
theorem pcells_length (ps : List (Int × Int)) : (pcells ps).length = ps.length * 2 := by
  induction ps with
  | nil => rfl
  | cons m r ih => unfold pcells at ih ⊢; rw [List.flatMap_cons, List.length_append, ih]; simp; omega
theorem pcells_append (a b : List (Int × Int)) : pcells (a ++ b) = pcells a ++ pcells b := by unfold pcells; rw [List.flatMap_append]
theorem pcells_at (ps : List (Int × Int)) (i : Nat) (hi : i < ps.length) : (pcells ps)[i * 2]? = some (.int .i64 (ps.getD i (0, 0)).1) ∧ (pcells ps)[i * 2 + 1]? = some (.int .i64 (ps.getD i (0, 0)).2) := by
  induction ps generalizing i with
  | nil => simp at hi
  | cons m r ih =>
    have e : pcells (m :: r) = .int .i64 m.1 :: .int .i64 m.2 :: pcells r := rfl
    rw [e]
    cases i with
    | zero => simp
    | succ i =>
      have := ih i (by simpa using hi)
      rw [show (i + 1) * 2 = i * 2 + 1 + 1 by omega]
      simpa using this

/-- Pairs as they lie in memory. -/
def Pai (w : World) (a : Option Addr) (ps : List (Int × Int)) : Prop :=
  ∀ i : Nat, i < ps.length → ∃ b off, a = some ⟨b, off, none⟩ ∧ w.cell? ⟨b, off + i * 2, none⟩ = some (.int .i64 (ps.getD i (0, 0)).1) ∧ w.cell? ⟨b, off + i * 2 + 1, none⟩ = some (.int .i64 (ps.getD i (0, 0)).2)
theorem Pai.below {w w' : World} {a : Option Addr} {ps : List (Int × Int)} (h : Pai w a ps) (hb : Below w.heap.size w w') : Pai w' a ps := by
  intro i hi
  obtain ⟨b, off, e, h1, h2⟩ := h i hi
  exact ⟨b, off, e, cell_later hb h1, cell_later hb h2⟩
theorem Pai.nil (w : World) (a : Option Addr) : Pai w a [] := fun i hi => absurd hi (by simp)

/-- A row of pairs of the call's own. -/
def Prl (w : World) (B : Nat) (v : Value) (ps : List (Int × Int)) : Prop := w.ownsRow B 32 2 v ps.length (pcells ps)
theorem Prl.nil (w : World) (B : Nat) : Prl w B (.slice none 0 0) [] := World.ownsRow_nil _ _ _ _
theorem Prl.later {B : Nat} {v : Value} {ps : List (Int × Int)} {w w' : World} (h : Prl w B v ps) (hb : Below w.heap.size w w') : Prl w' B v ps := by
  refine ⟨h.1, ?_⟩
  rcases h.2 with h0 | ⟨g, cap, cur, hv, hB, hh, hr⟩
  · exact .inl h0
  · have hg : g < w.heap.size := (Array.getElem?_eq_some_iff.1 hh).1
    exact .inr ⟨g, cap, cur, hv, hB, blk_below hb hg hh, hr⟩
theorem Prl.own {w : World} {B : Nat} {v : Value} {ps : List (Int × Int)} (h : Prl w B v ps) : ∀ k, v.ownBlock = some k → B ≤ k ∧ k < w.heap.size := by
  intro k hk
  rcases h.2 with ⟨rfl, _⟩ | ⟨g, cap, cur, rfl, hB, hh, _⟩
  · cases hk
  · cases hk
    exact ⟨hB, (Array.getElem?_eq_some_iff.1 hh).1⟩
theorem Prl.pai {B : Nat} {v : Value} {ps : List (Int × Int)} {w : World} (h : Prl w B v ps) : ∃ a cap, v = .slice a ps.length cap ∧ Pai w a ps := by
  rcases h.2 with ⟨rfl, h0⟩ | ⟨g, cap, cur, rfl, hB, hh, _, _, hcs, ht⟩
  · have : ps = [] := List.length_eq_zero_iff.1 h0
    subst this
    exact ⟨none, 0, rfl, Pai.nil _ _⟩
  · refine ⟨some ⟨g, 0, none⟩, cap, rfl, fun i hi => ⟨g, 0, rfl, ?_⟩⟩
    obtain ⟨c1, c2⟩ := pcells_at ps i hi
    rw [Nat.zero_add, Lib.cell_of_heap hh, Lib.cell_of_heap hh, ← Array.getElem?_toList, ← Array.getElem?_toList]
    rw [← ht, List.getElem?_take, if_pos (by omega)] at c1 c2
    exact ⟨c1, c2⟩

/-- A pair behind pairs. -/
theorem append_pair {w : World} {ops : Array Oper} {rest : List Oper} {o : Oper} {a : Act} {Q : Exit → Act → World → Prop} (hgd : o.guard = none) (s x : Operand)
    (ho : o.op = .call { callee := .builtin .append, args := #[s, x], argTypes := #[27, 27] }) (B : Nat) (v : Value) (ps : List (Int × Int)) (hs : a.eval s = v) (hown : Prl w B v ps)
    (b : Nat) (p q : Int) (hx : a.eval x = .slice (some ⟨b, 0, none⟩) 1 1) (hc0 : w.cell? ⟨b, 0, none⟩ = some (.int .i64 p)) (hc1 : w.cell? ⟨b, 1, none⟩ = some (.int .i64 q)) (h63 : ps.length ≤ 100000) (hbase : B ≤ w.heap.size)
    (h : ∀ v' w', Prl w' B v' (ps ++ [(p, q)]) → w.grownBy w' v.ownBlock → wpList Tryd.prog ops Q rest (a.put o.dst v') w') : wpList Tryd.prog ops Q (o :: rest) a w := by
  obtain ⟨i0, hi, hz0, hz1, hz2⟩ := info_parts Tryd.infoPair
  refine wpList_append_own_at w hgd s x 27 ho B 32 i0 (.agg #[.int .i64 0, .int .i64 0]) 2 16 Tryd.underlying27 hi hz0 hz1 hz2 rfl (by decide) v ps.length (pcells ps) hs hown ⟨b, 0, none⟩ 1 1 [.int .i64 p, .int .i64 q] hx (by simp) (fun j u hj => ?_) (fun u hu => ?_) (by unfold maxLen; omega) (by omega) hbase (fun v' w' h3 h4 _ h5 => h v' w' (by
      unfold Prl
      rw [List.length_append, pcells_append]; exact h3) h4)
  · match j, hj with
    | 0, hj =>
      obtain rfl : _ = u := by simpa using hj
      exact hc0
    | 1, hj =>
      obtain rfl : _ = u := by simpa using hj
      exact hc1
  · simp at hu
    rcases hu with rfl | rfl <;> rfl

set_option maxHeartbeats 2000000 in
set_option maxRecDepth 100000 in
theorem pairsOf (a : Option Addr) (M : List Nat) (ca np nq : Nat) (w : World) (ha : Ins w a (M.map Int.ofNat)) (h8 : M.length ≤ 8) (hM : ∀ k ∈ M, k < 8) :
    Calls Tryd.prog 10 #[.slice a M.length ca, .int .i64 np, .int .i64 nq] w fun e w' => ∃ v, e = .returned v ∧ Prl w' w.heap.size v (prs np nq M M.length) ∧ Below w.heap.size w w' := by
  obtain ⟨B, hB⟩ : ∃ B, w.heap.size = B := ⟨_, rfl⟩
  have HB : Hid (w.heap.size = B) := hB
  rw [hB]
  obtain ⟨n, hn⟩ : ∃ n, M.length = n := ⟨_, rfl⟩
  have HN : Hid (M.length = n) := hn
  rw [hn] at h8 ⊢
  have HA : Hid (Ins w a (M.map Int.ofNat)) := ha
  clear hn hB ha
  go_enter Tryd.func10, Tryd.ntmps10
  go_wp2
  go_loopw [7, 13] (fun v i wx => ∃ k : Nat, k ≤ n ∧ i = .int .i64 k ∧ Prl wx B v (prs np nq M k) ∧ (prs np nq M k).length ≤ k ∧ Below B w wx) (fun _ i _ => n - (intOf i).toNat)
  case atStart => exact ⟨0, Nat.zero_le _, rfl, Prl.nil _ _, Nat.le_refl _, Below.refl _ _⟩
  case round =>
    obtain ⟨k, hk, rfl, hp, hpl, hbl⟩ := hrel
    by_cases hlt : k < n
    · have hkm : k < (M.map Int.ofNat).length := by rw [List.length_map, HN.out]; exact hlt
      obtain ⟨b, off, rfl, hat⟩ := Ins.at (HA.out.below (by rw [HB.out]; exact hbl)) hkm
      have hc := hat k hkm
      have hkl : k < M.length := by rw [HN.out]; exact hlt
      have e0 : (M.map Int.ofNat).getD k 0 = ((M.getD k 0 : Nat) : Int) := by simp [hkl]
      rw [e0] at hc
      have hs := prs_succ np nq M k
      have hj8 : M.getD k 0 < 8 := by
        have : M.getD k 0 = M[k] := by simp [hkl]
        rw [this]; exact hM _ (List.getElem_mem hkl)
      obtain ⟨j, hj⟩ : ∃ j, M.getD k 0 = j := ⟨_, rfl⟩
      unfold pr1 at hs
      rw [hj] at hc hs hj8
      have hp1 := placeOf k np
      have hp2 := placeOf j nq
      obtain ⟨x, hx⟩ : ∃ x, plI k np = x := ⟨_, rfl⟩
      obtain ⟨y, hy⟩ : ∃ y, plI j nq = y := ⟨_, rfl⟩
      rw [hx] at hp1 hs
      rw [hy] at hp2 hs
      obtain ⟨L, hL⟩ : ∃ L, prs np nq M k = L := ⟨_, rfl⟩
      rw [hL] at hp hpl hs
      have HS : Hid (prs np nq M (k + 1) = L ++ if x = -1 ∧ y = -1 then [] else [(x, y)]) := hs
      have hzB : B ≤ wr.heap.size := by have := hbl.size; rw [HB.out] at this; exact this
      have hbx : -1 ≤ x ∧ x ≤ 8 := by rw [← hx]; unfold plI; split <;> omega
      have hby : -1 ≤ y ∧ y ≤ 8 := by rw [← hy]; unfold plI; split <;> omega
      clear hat e0 hs hL hx hy hj HA
      have KW : Hid (Prl ((wr.alloc (.cells #[.int .i64 x, .int .i64 y] 32)).alloc (.cells #[.int .i64 x, .int .i64 y] 32)) B u7 L ∧ ((wr.alloc (.cells #[.int .i64 x, .int .i64 y] 32)).alloc (.cells #[.int .i64 x, .int .i64 y] 32)).cell? ⟨wr.heap.size + 1, 0, none⟩ = some (.int .i64 x) ∧ ((wr.alloc (.cells #[.int .i64 x, .int .i64 y] 32)).alloc (.cells #[.int .i64 x, .int .i64 y] 32)).cell? ⟨wr.heap.size + 1, 1, none⟩ = some (.int .i64 y) ∧ B ≤ ((wr.alloc (.cells #[.int .i64 x, .int .i64 y] 32)).alloc (.cells #[.int .i64 x, .int .i64 y] 32)).heap.size ∧ Below B w ((wr.alloc (.cells #[.int .i64 x, .int .i64 y] 32)).alloc (.cells #[.int .i64 x, .int .i64 y] 32))) := by
        have s1 : (wr.alloc (.cells #[.int .i64 x, .int .i64 y] 32)).heap.size = wr.heap.size + 1 := by simp
        have a1 := heap_alloc_new (wr.alloc (.cells #[.int .i64 x, .int .i64 y] 32)) (.cells #[.int .i64 x, .int .i64 y] 32)
        rw [s1] at a1
        refine ⟨(hp.later (below_alloc _ _)).later (below_alloc _ _), ?_, ?_, by simp; omega, ?_⟩
        · rw [Lib.cell_of_heap a1]; rfl
        · rw [Lib.cell_of_heap a1]; rfl
        · exact hbl.trans (((below_alloc wr _).mono hzB).trans ((below_alloc _ _).mono (by rw [s1]; omega)))
      have KO : Hid (∀ k, u7.ownBlock = some k → B ≤ k) := fun k hk => (hp.own k hk).1
      have HP : Hid (Prl (wr.alloc (.cells #[.int .i64 x, .int .i64 y] 32)) B u7 L ∧ Below B w (wr.alloc (.cells #[.int .i64 x, .int .i64 y] 32))) := ⟨hp.later (below_alloc _ _), hbl.trans ((below_alloc wr _).mono hzB)⟩
      clear hp hbl
      by_cases h0 : x = -1 ∧ y = -1
      · have HS2 : Hid (prs np nq M (k + 1) = L) := by show _ = _; rw [HS.out, if_pos h0, List.append_nil]
        obtain ⟨rfl, rfl⟩ := h0
        clear KW KO HS
        go_wp2_with (first
          | (go_at_call 23; refine (hp1 _).mono ?_; rintro e w1 ⟨rfl, h⟩; cases h)
          | (go_at_call 23; refine (hp2 _).mono ?_; rintro e w1 ⟨rfl, h⟩; cases h))
        go_roundw
        case rel => exact ⟨k + 1, by omega, by go_num, by rw [HS2.out]; exact HP.out.1, by rw [HS2.out]; omega, HP.out.2⟩
        case measure => simp [intOf]; omega
      · have HS2 : Hid (prs np nq M (k + 1) = L ++ [(x, y)]) := by show _ = _; rw [HS.out, if_neg h0]
        obtain ⟨k1, k2, k3, k4, k5⟩ := KW.out
        have hL8 : L.length ≤ 100000 := by omega
        by_cases h1 : x = -1
        case' pos =>
          have h2 : (y == -1) = false := by simpa [h1] using h0
          subst h1
          clear h0
        case' neg =>
          have h3 : (x == -1) = false := by simpa using h1
          clear h0 h1
        all_goals
          clear KW HP HS
          go_wp2_with (first
            | (go_at_call 23; refine (hp1 _).mono ?_; rintro e w1 ⟨rfl, h⟩; cases h)
            | (go_at_call 23; refine (hp2 _).mono ?_; rintro e w1 ⟨rfl, h⟩; cases h)
            | (at_builtin; refine append_pair rfl _ _ rfl B u7 L rfl k1 (wr.heap.size + 1) _ y rfl k2 k3 hL8 k4 ?_; intro v' w6 hP6 hg6)
            | go_in)
          go_roundw
          case rel => exact ⟨k + 1, by omega, by go_num, by rw [HS2.out]; exact hP6, by rw [HS2.out, List.length_append]; simp; omega, k5.grown hg6 k4 KO.out⟩
          case measure => simp [intOf]; omega
    · have hkn : k = n := by omega
      subst hkn
      clear hpl
      go_wp2
      go_ret
      exact ⟨_, rfl, hp, hbl⟩

end Go.Proofs.YtfmhapajdnmhoafDoor
namespace Go.Proofs.YtfmhapajdnmhoafDoor
open Go.RowKit Dist

/-- Which is which. -/
def rgM (p q : List (List Ch)) : List Nat := mcM (rmx p.length q.length (txs p ++ txs q))
def rgP (p q : List (List Ch)) : List (Int × Int) := if rfF p q ≠ 0 then [] else rgo p.length q.length (rgM p q)
theorem rfF_zero {p q : List (List Ch)} (h : rfF p q = 0) : p.length ≤ 4 ∧ q.length ≤ 4 ∧ srF p = 0 ∧ srF q = 0 := by
  unfold rfF at h
  split at h
  · cases h
  · split at h
    · rename_i h1 h2; exact absurd h h2
    · rename_i h1 h2; exact ⟨by omega, by omega, Decidable.not_not.1 h2, h⟩
theorem txs_both {p q : List (List Ch)} (h1 : srF p = 0) (h2 : srF q = 0) : ∀ t ∈ txs p ++ txs q, t.length ≤ 2912 := by
  intro t ht
  rcases List.mem_append.1 ht with h | h
  · exact txs_small h1 t h
  · exact txs_small h2 t h
theorem rgM_sq {p q : List (List Ch)} (h : rfF p q = 0) : sqf (rmx p.length q.length (txs p ++ txs q)) = 0 := by
  obtain ⟨h1, h2, h3, h4⟩ := rfF_zero h
  exact sqf_rmx (txs_both h3 h4) h1 h2
theorem rgM_best {p q : List (List Ch)} (h : rfF p q = 0) : isB (rmx p.length q.length (txs p ++ txs q)) (p.length + q.length) (p.length + q.length) 0 (List.replicate (p.length + q.length) false) (rgM p q) := by
  have := mcM_best (rgM_sq h)
  rw [rmx_len] at this
  exact this
theorem rgM_len {p q : List (List Ch)} (h : rfF p q = 0) : (rgM p q).length = p.length + q.length := (rgM_best h).1.1
theorem rgP_ok {p q : List (List Ch)} (h : rfF p q = 0) : rgP p q = prs p.length q.length (rgM p q) (rgM p q).length := by
  unfold rgP
  rw [if_neg (by simp [h]), rgM_len h, prs_rgo (rgM_best h)]
theorem rgP_bad {p q : List (List Ch)} (h : rfF p q ≠ 0) : rgP p q = [] := by unfold rgP; rw [if_pos h]

def RgV (p q : List (List Ch)) (e : Ending) (w w' : World) : Prop := ∃ g c, e = .returned (.tuple #[.slice g (rgP p q).length c, errV (rfF p q)]) ∧ Pai w' g (rgP p q) ∧ Below w.heap.size w w'
theorem RgV.bad {p q : List (List Ch)} {f : Int} (h : rfF p q = f) (hf : f ≠ 0) {w w' : World} (hb : Below w.heap.size w w') : RgV p q (.returned (.tuple #[.slice none 0 0, .iface 33 (.int .i64 f)])) w w' := by
  refine ⟨none, 0, ?_, ?_, hb⟩
  · rw [rgP_bad (by rw [h]; exact hf), h, errV_not hf]; rfl
  · rw [rgP_bad (by rw [h]; exact hf)]; exact Pai.nil _ _

section
variable (a b : Option Addr) (p q : List (List Ch)) (ca cb : Nat) (w : World)

set_option maxHeartbeats 1000000 in
set_option maxRecDepth 100000 in
theorem range_any (ha : Srs w a p) (hb : Srs w b q) (hop : Okl p) (hoq : Okl q) :
    Calls Tryd.prog 4 #[.slice a p.length ca, .slice b q.length cb] w fun e w' => RgV p q e w w' := by
  have hlp := hop.1
  have hlq := hoq.1
  unfold maxLen at hlp hlq
  by_cases h4 : 4 < p.length ∨ 4 < q.length
  · have hV : Hid (RgV p q (.returned (.tuple #[.slice none 0 0, .iface 33 (.int .i64 3)])) w w) := RgV.bad (by unfold rfF; rw [if_pos h4]) (by decide) (Below.refl _ _)
    clear ha hb hop hoq
    obtain ⟨np, hnp⟩ : ∃ np, p.length = np := ⟨_, rfl⟩
    obtain ⟨nq, hnq⟩ : ∃ nq, q.length = nq := ⟨_, rfl⟩
    rw [hnp] at h4 hlp ⊢
    rw [hnq] at h4 hlq ⊢
    clear hnp hnq
    by_cases h5 : 4 < np
    case' neg =>
      have h6 : np ≤ 4 := by omega
      have h7 : 4 < nq := by omega
    all_goals
      clear h4
      go_enter Tryd.func4, Tryd.ntmps4
      go_wp2
      go_ret2
      exact hV.out
  have h5 : p.length ≤ 4 := by omega
  have h6 : q.length ≤ 4 := by omega
  have htp := textsOf a p ca w ha hop h5
  by_cases hsp : srF p = 0
  case neg =>
    have hV : Hid (∀ w', Below w.heap.size w w' → RgV p q (.returned (.tuple #[.slice none 0 0, .iface 33 (.int .i64 (srF p))])) w w') := fun w' h => RgV.bad (by unfold rfF; rw [if_neg h4, if_pos hsp]) hsp h
    have htp2 : Calls Tryd.prog 7 #[.slice a p.length ca] w fun e w' => ∃ g c, e = .returned (.tuple #[.slice g 0 c, .iface 33 (.int .i64 (srF p))]) ∧ Below w.heap.size w w' := htp.mono fun e w' ⟨g, c, he, _, h2⟩ => by
      have e1 : ttO p = [] := by unfold ttO; rw [if_pos hsp]
      rw [e1, errV_not hsp] at he
      exact ⟨g, c, he, h2⟩
    obtain ⟨f, hf⟩ : ∃ f, srF p = f := ⟨_, rfl⟩
    rw [hf] at hV htp2
    obtain ⟨np, hnp⟩ : ∃ np, p.length = np := ⟨_, rfl⟩
    obtain ⟨nq, hnq⟩ : ∃ nq, q.length = nq := ⟨_, rfl⟩
    rw [hnp] at h5 htp2 ⊢
    rw [hnq] at h6 ⊢
    clear hnp hnq ha hb hop hoq h4 htp hsp hf hlp hlq
    go_enter Tryd.func4, Tryd.ntmps4
    go_wp2_with (go_at_call 7; refine htp2.mono ?_; rintro e w1 ⟨g1, c1, rfl, hb1⟩)
    go_ret2
    exact hV.out _ hb1
  have htp2 : Calls Tryd.prog 7 #[.slice a p.length ca] w fun e w' => ∃ g c, e = .returned (.tuple #[.slice g p.length c, .nilIface]) ∧ Txs w' g (txs p) ∧ Below w.heap.size w w' := htp.mono fun e w' ⟨g, c, he, h1, h2⟩ => by
    have e1 : ttO p = txs p := by unfold ttO; rw [if_neg (by simp [hsp])]
    rw [e1, hsp, txs_len] at he
    rw [e1] at h1
    exact ⟨g, c, he, h1, h2⟩
  have htq := fun w1 (h : Below w.heap.size w w1) => textsOf b q cb w1 (hb.below h) hoq h6
  by_cases hsq : srF q = 0
  case neg =>
    have hV : Hid (∀ w', Below w.heap.size w w' → RgV p q (.returned (.tuple #[.slice none 0 0, .iface 33 (.int .i64 (srF q))])) w w') := fun w' h => RgV.bad (by unfold rfF; rw [if_neg h4, if_neg (by simp [hsp])]) hsq h
    have htq2 : ∀ w1, Below w.heap.size w w1 → Calls Tryd.prog 7 #[.slice b q.length cb] w1 fun e w' => ∃ g c, e = .returned (.tuple #[.slice g 0 c, .iface 33 (.int .i64 (srF q))]) ∧ Below w.heap.size w w' := fun w1 h => (htq w1 h).mono fun e w' ⟨g, c, he, _, h2⟩ => by
      have e1 : ttO q = [] := by unfold ttO; rw [if_pos hsq]
      rw [e1, errV_not hsq] at he
      exact ⟨g, c, he, h.trans (h2.mono h.size)⟩
    obtain ⟨f, hf⟩ : ∃ f, srF q = f := ⟨_, rfl⟩
    rw [hf] at hV htq2
    obtain ⟨np, hnp⟩ : ∃ np, p.length = np := ⟨_, rfl⟩
    obtain ⟨nq, hnq⟩ : ∃ nq, q.length = nq := ⟨_, rfl⟩
    rw [hnp] at h5 htp2 ⊢
    rw [hnq] at h6 htq2 ⊢
    clear hnp hnq ha hb hop hoq h4 htp htq hsp hsq hf hlp hlq
    go_enter Tryd.func4, Tryd.ntmps4
    go_upto_region 6 with (first
      | (go_at_call 7; refine htp2.mono ?_; rintro e w1 ⟨g1, c1, rfl, _, hb1⟩)
      | go_in)
    go_wp2_with (go_at_call 7; refine (htq2 _ hb1).mono ?_; rintro e w2 ⟨g2, c2, rfl, hb2⟩)
    go_ret2
    exact hV.out _ hb2
  have hF : rfF p q = 0 := by unfold rfF; rw [if_neg h4, if_neg (by simp [hsp]), hsq]
  have htq2 : ∀ w1, Below w.heap.size w w1 → Calls Tryd.prog 7 #[.slice b q.length cb] w1 fun e w' => ∃ g c, e = .returned (.tuple #[.slice g q.length c, .nilIface]) ∧ Txs w' g (txs q) ∧ Below w1.heap.size w1 w' := fun w1 h => (htq w1 h).mono fun e w' ⟨g, c, he, h1, h2⟩ => by
    have e1 : ttO q = txs q := by unfold ttO; rw [if_neg (by simp [hsq])]
    rw [e1, hsq, txs_len] at he
    rw [e1] at h1
    exact ⟨g, c, he, h1, h2⟩
  have hsqr : ∀ w1 g1 c1 g2 c2, Txs w1 g1 (txs p) → Txs w1 g2 (txs q) → Calls Tryd.prog 9 #[.slice g1 p.length c1, .slice g2 q.length c2] w1 fun e w' => ∃ g c, e = .returned (.slice g (p.length + q.length) c) ∧ Sqr w' g (rmx p.length q.length (txs p ++ txs q)) ∧ Below w1.heap.size w1 w' := fun w1 g1 c1 g2 c2 t1 t2 => by
    have := squareOf g1 g2 (txs p) (txs q) c1 c2 w1 t1 t2 (txs_small hsp) (txs_small hsq) (by rw [txs_len]; exact h5) (by rw [txs_len]; exact h6)
    rw [txs_len, txs_len] at this
    exact this
  have hsz := rgM_sq hF
  have hmt : ∀ w1 g c, Sqr w1 g (rmx p.length q.length (txs p ++ txs q)) → Calls Tryd.prog 8 #[.slice g (p.length + q.length) c] w1 fun e w' => ∃ g2 c2, e = .returned (.tuple #[.slice g2 (p.length + q.length) c2, .nilIface]) ∧ Ins w' g2 ((rgM p q).map Int.ofNat) ∧ Below w1.heap.size w1 w' := fun w1 g c h1 => by
    have := match_any g (rmx p.length q.length (txs p ++ txs q)) c w1 h1 (by rw [rmx_len]; unfold maxLen; omega) (fun r hr => by
      obtain ⟨i, hi, e⟩ := List.mem_iff_getElem.1 hr
      rw [rmx_len] at hi
      have h2 := rmx_row (ts := txs p ++ txs q) hi
      have h3 : (rmx p.length q.length (txs p ++ txs q)).getD i [] = r := by rw [← e]; simp [rmx_len, hi]
      rw [← h3, h2]
      simp [maxLen]
      omega)
    rw [rmx_len] at this
    refine this.mono fun e w' ⟨g2, c2, he, h2, _, h3⟩ => ?_
    rw [mcO_len hsz, rmx_len, hsz] at he
    rw [mcO_ok hsz] at h2
    exact ⟨g2, c2, he, h2, h3⟩
  have hpr : ∀ w1 g c, Ins w1 g ((rgM p q).map Int.ofNat) → Calls Tryd.prog 10 #[.slice g (p.length + q.length) c, .int .i64 p.length, .int .i64 q.length] w1 fun e w' => ∃ v, e = .returned v ∧ Prl w' w1.heap.size v (rgP p q) ∧ Below w1.heap.size w1 w' := fun w1 g c h1 => by
    have := pairsOf g (rgM p q) c p.length q.length w1 h1 (by rw [rgM_len hF]; omega) (fun k hk => by
      have := ((rgM_best hF).1.2.2 k hk).1
      omega)
    rw [← rgP_ok hF, rgM_len hF] at this
    exact this
  have hV : Hid (∀ w1 w' v, Below w.heap.size w w1 → Prl w' w1.heap.size v (rgP p q) → Below w1.heap.size w1 w' → RgV p q (.returned (.tuple #[v, .nilIface])) w w') := fun w1 w' v h1 h2 h3 => by
    obtain ⟨g, c, rfl, h4⟩ := h2.pai
    exact ⟨g, c, by rw [hF]; rfl, h4, h1.trans (h3.mono h1.size)⟩
  obtain ⟨X, hX⟩ : ∃ X, rmx p.length q.length (txs p ++ txs q) = X := ⟨_, rfl⟩
  rw [hX] at hsqr hmt
  obtain ⟨np, hnp⟩ : ∃ np, p.length = np := ⟨_, rfl⟩
  obtain ⟨nq, hnq⟩ : ∃ nq, q.length = nq := ⟨_, rfl⟩
  rw [hnp] at h5 htp2 hsqr hmt hpr ⊢
  rw [hnq] at h6 htq2 hsqr hmt hpr ⊢
  clear hnp hnq ha hb hop hoq h4 htp htq hsp hsq hF hlp hlq hsz hX
  go_enter Tryd.func4, Tryd.ntmps4
  go_upto_region 6 with (first
    | (go_at_call 7; refine htp2.mono ?_; rintro e w1 ⟨g1, c1, rfl, hx1, hb1⟩)
    | go_in)
  go_upto_region 9 with (first
    | (go_at_call 7; refine (htq2 _ hb1).mono ?_; rintro e w2 ⟨g2, c2, rfl, hx2, hb2⟩)
    | go_in)
  have hx1 := hx1.below hb2
  have hb2 := hb1.trans (hb2.mono hb1.size)
  go_wp2_with (first
    | (go_at_call 9; refine (hsqr _ _ _ _ _ hx1 hx2).mono ?_; rintro e w3 ⟨g3, c3, rfl, hs3, hb3⟩)
    | (go_at_call 8; refine (hmt _ _ _ hs3).mono ?_; rintro e w4 ⟨g4, c4, rfl, hi4, hb4⟩)
    | (go_at_call 10; refine (hpr _ _ _ hi4).mono ?_; rintro e w5 ⟨v5, rfl, hp5, hb5⟩))
  go_ret2
  have hb3 := hb2.trans (hb3.mono hb2.size)
  have hb4 := hb3.trans (hb4.mono hb3.size)
  exact hV.out _ _ _ hb4 hp5 hb5

end

end Go.Proofs.YtfmhapajdnmhoafDoor
