/-
  Walks of the document's BoxText and (MailOf given) BoxOf.
-/
import Derived.Test.YtppmpofdhkgjmafDoorRmf

namespace Go.Proofs.YtppmpofdhkgjmafDoor
open Go.RowKit Dist

theorem mof_bad {s : List UInt8} (h : 5 ≤ (parts 10 s).1.length) (hb : ¬ mhd (((parts 10 s).1).getD 0 []) (((parts 10 s).1).getD 1 []) (((parts 10 s).1).getD 2 []) (((parts 10 s).1).getD 3 []) (((parts 10 s).1).getD 4 [])) : mof s = none := by
  have e := mof_lines (s := s) (ps := (parts 10 s).1 ++ [(parts 10 s).2]) rfl (by rw [List.length_append, List.length_singleton]; omega)
  have g : ∀ k, k < 5 → ((parts 10 s).1 ++ [(parts 10 s).2]).getD k [] = (parts 10 s).1.getD k [] := fun k hk => by
    rw [List.getD_eq_getElem?_getD, List.getD_eq_getElem?_getD, List.getElem?_append_left (by omega)]
  rw [g 0 (by omega), g 1 (by omega), g 2 (by omega), g 3 (by omega), g 4 (by omega), if_neg hb] at e
  exact e

theorem mtx_len {m : Ml} (h : mlOk m) : (mtx m).length ≤ 60000 := by
  have h1 := h.1.1.2.1
  have h2 := h.1.2.1.2.1
  have h3 := h.1.2.2.1.2.1
  have h4 : m.2.2.2.length ≤ 40000 := h.2
  unfold mtx
  simp only [joinC, kF, kS, kI, kC, List.length_append, List.length_cons, List.length_nil, ltrs_len]
  omega
theorem btx_len {l : List Ml} (h : ∀ m ∈ l, mlOk m) : (btx l).length ≤ 60009 * l.length := by
  induction l with
  | nil => simp [btx]
  | cons m l ih =>
    have h1 := mtx_len (h m (by simp))
    have h2 := ih (fun x hx => h x (by simp [hx]))
    rw [btx_cons]
    simp only [kB, List.length_append, List.length_cons, List.length_nil]
    omega
theorem take_snoc {l : List Mb} {k : Nat} (h : k < l.length) : l.take (k + 1) = l.take k ++ [l.getD k mz] := by
  rw [List.take_succ_eq_append_getElem h, List.getD_eq_getElem?_getD, List.getElem?_eq_getElem h]; rfl
theorem btx_snoc {l : List Mb} {k : Nat} (h : k < l.length) : btx ((l.take (k + 1)).map mlb) = btx ((l.take k).map mlb) ++ (kB ++ (mtx (mlb (l.getD k mz)) ++ [10])) := by
  rw [take_snoc h, List.map_append, btx_app]
  simp [btx]
theorem mem_getDm {l : List Mb} {k : Nat} (h : k < l.length) : l.getD k mz ∈ l := by
  rw [List.getD_eq_getElem?_getD, List.getElem?_eq_getElem h]
  exact List.getElem_mem h

set_option maxRecDepth 100000 in
set_option maxHeartbeats 2000000 in
theorem boxText (a : Option Addr) (l : List Mb) (ca : Nat) (w : World) (ha : Mls w a l) (hn16 : l.length ≤ 16) (hok : ∀ m ∈ l, mlOk (mlb m)) :
    Calls Tryd.prog 23 #[.slice a l.length ca] w fun e w' => e = .returned (.string ⟨(btx (l.map mlb)).toArray⟩) ∧ Below w.heap.size w w' := by
  obtain ⟨n, hn⟩ : ∃ n, l.length = n := ⟨_, rfl⟩
  rw [hn] at hn16 ⊢
  have HN : Hid (l.length = n) := hn
  have HA : Hid (Mls w a l) := ha
  have HOK : Hid (∀ m ∈ l, mlOk (mlb m)) := hok
  clear hn ha hok
  go_enter Tryd.func23, Tryd.ntmps23
  go_wp2
  go_loopw [3, 4] (fun s i w1 => ∃ (k : Nat) (S : ByteArray), k ≤ n ∧ i = .int .i64 k ∧ s = .string S ∧ S.size ≤ 1000000 ∧ Hid (S.data.toList = btx ((l.take k).map mlb)) ∧ Hid (Below w.heap.size w w1)) (fun _ i _ => n - (intOf i).toNat)
  case atStart => exact ⟨0, ⟨#[]⟩, Nat.zero_le _, rfl, rfl, Nat.zero_le _, rfl, Below.refl _ _⟩
  case round =>
    obtain ⟨k, S, hk, rfl, rfl, hS, HS, HBL⟩ := hrel
    by_cases hlt : k < n
    · have hlt' : (k : Int) < (n : Int) := by omega
      have ha := HA.out
      have hkl : k < l.length := by rw [HN.out]; exact hlt
      obtain ⟨b1, o1, rfl⟩ := ha.addr hkl
      obtain ⟨am1, cm1, c0, c1, c2, c3, hy1⟩ := (ha.all HBL.out).at hkl
      clear ha
      have hm := HOK.out _ (mem_getDm hkl)
      have HNX : Hid (btx ((l.take (k + 1)).map mlb) = S.data.toList ++ (kB ++ (mtx (mlb (l.getD k mz)) ++ [10]))) := by
        show _ = _
        rw [btx_snoc hkl, HS.out]
      have hbl := btx_len (l := (l.take (k + 1)).map mlb) (fun m hm => by
        obtain ⟨x, hx, rfl⟩ := List.mem_map.1 hm
        exact HOK.out x (List.mem_of_mem_take hx))
      rw [HNX.out, List.length_map, List.length_take] at hbl
      have hml := mtx_len hm
      obtain ⟨M, hM⟩ : ∃ M, l.getD k mz = M := ⟨_, rfl⟩
      rw [hM] at c0 c1 c2 c3 hy1 hm HNX hbl hml
      obtain ⟨f, s, d, x⟩ := M
      simp only at c0 c1 c2 c3 hy1
      have hmt := mailText f s d x am1 cm1 wr hy1 hm
      obtain ⟨T, hT⟩ : ∃ T : ByteArray, (⟨(mtx (mlb (f, s, d, x))).toArray⟩ : ByteArray) = T := ⟨_, rfl⟩
      have hTl : T.data.toList = mtx (mlb (f, s, d, x)) := by rw [← hT]
      rw [hT] at hmt
      rw [← hTl] at HNX hbl hml
      rw [← Lib.size_eq] at hml
      have hfin : ((((S ++ ⟨#[70, 114, 111, 109, 32, 45, 32, 10]⟩) ++ T) ++ ⟨#[10]⟩ : ByteArray)).data.toList = btx ((l.take (k + 1)).map mlb) := by
        rw [HNX.out]
        simp only [app_data, List.append_assoc]
        rfl
      have hfz : ((((S ++ ⟨#[70, 114, 111, 109, 32, 45, 32, 10]⟩) ++ T) ++ ⟨#[10]⟩ : ByteArray)).size ≤ 1000000 := by
        rw [Lib.size_eq, hfin, HNX.out]; omega
      obtain ⟨R, hR⟩ : ∃ R, (((S ++ ⟨#[70, 114, 111, 109, 32, 45, 32, 10]⟩) ++ T) ++ ⟨#[10]⟩ : ByteArray) = R := ⟨_, rfl⟩
      have HR : Hid ((((S ++ ⟨#[70, 114, 111, 109, 32, 45, 32, 10]⟩) ++ T) ++ ⟨#[10]⟩ : ByteArray) = R) := hR
      rw [hR] at hfin hfz
      replace hfin : Hid _ := hfin
      have hz1 : ¬ (9223372036854775807 : Int) < (S.size : Int) + 8 := by omega
      obtain ⟨m, hm2⟩ : ∃ m, x.length = m := ⟨_, rfl⟩
      rw [hm2] at c3 hmt
      clear hm hbl hM hT hTl hkl hR HNX hy1 hm2
      go_wp2_with (go_at_call 18; refine hmt.mono ?_; clear hmt; rintro e w2 ⟨rfl, hb2⟩)
      go_roundw
      case rel => exact ⟨k + 1, R, by omega, by simp, congrArg Value.string HR.out, hfz, hfin.out, HBL.out.trans (hb2.mono HBL.out.size)⟩
      case measure => simp [intOf]; omega
    · obtain rfl : k = n := by omega
      have hlt' : ¬ (k : Int) < (k : Int) := by omega
      go_wp2
      go_ret
      have h1 := HS.out
      rw [List.take_of_length_le (by rw [HN.out]; exact Nat.le_refl _)] at h1
      exact ⟨ret_v (congrArg Value.string ((text_of _ _).2 h1.symm).symm), HBL.out⟩

/-- What BoxOf leaves. -/
def BoPost (w : World) (o : Option (List Ml)) (e : Ending) (w' : World) : Prop := match o with
  | some l => ∃ a cap, e = .returned (.tuple #[.slice a l.length cap, .int .i64 0]) ∧ Mls w' a (l.map mbl) ∧ l.length ≤ cap ∧ Below w.heap.size w w'
  | none => e = .returned (.tuple #[.slice none 0 0, .int .i64 5]) ∧ Below w.heap.size w w'

/-- Mails as values of a row: none of their bytes lie in the row's own block. -/
def Mva (w : World) (r : Option Nat) (xs : List Value) (l : List Mb) : Prop :=
  xs.length = l.length * 4 ∧ ∀ i : Nat, i < l.length → ∃ am cm, xs[i * 4]? = some (.string (l.getD i mz).1) ∧ xs[i * 4 + 1]? = some (.string (l.getD i mz).2.1) ∧ xs[i * 4 + 2]? = some (.string (l.getD i mz).2.2.1) ∧ xs[i * 4 + 3]? = some (.slice am (l.getD i mz).2.2.2.length cm) ∧ Bya w am (l.getD i mz).2.2.2 cm ∧ ((l.getD i mz).2.2.2.length = 0 ∨ ∀ A, am = some A → some A.block ≠ r)
theorem Mva.nil (w : World) (r : Option Nat) : Mva w r [] [] := ⟨rfl, fun _ hi => absurd hi (Nat.not_lt_zero _)⟩
theorem Mva.mvs {w : World} {r : Option Nat} {xs : List Value} {l : List Mb} (h : Mva w r xs l) : Mvs w xs l :=
  ⟨h.1, fun i hi => by obtain ⟨am, cm, h1, h2, h3, h4, h5, _⟩ := h.2 i hi; exact ⟨am, cm, h1, h2, h3, h4, h5⟩⟩
theorem Mva.all {w w' : World} {r : Option Nat} {xs : List Value} {l : List Mb} (h : Mva w r xs l) (hb : Below w.heap.size w w') : Mva w' r xs l := by
  refine ⟨h.1, fun i hi => ?_⟩
  obtain ⟨am, cm, h1, h2, h3, h4, h5, h6⟩ := h.2 i hi
  exact ⟨am, cm, h1, h2, h3, h4, h5.all hb, h6⟩
theorem Bya.lt {w : World} {a : Option Addr} {x : List UInt8} {cap : Nat} (h : Bya w a x cap) : x.length = 0 ∨ ∀ A, a = some A → A.block < w.heap.size := by
  rcases h with h | ⟨g, off, h1, _, h3⟩
  · exact .inl h.1
  · by_cases e : x.length = 0
    · exact .inl e
    · refine .inr fun A hA => ?_
      rw [h1] at hA
      cases hA
      exact World.block_lt_of_cell? _ _ (h3 0 (by omega))
theorem Bya.grown {W Z : World} {r : Option Nat} {a : Option Addr} {x : List UInt8} {cap : Nat} (h : Bya W a x cap) (hne : x.length = 0 ∨ ∀ A, a = some A → some A.block ≠ r) (hg : W.grownBy Z r) : Bya Z a x cap := by
  rcases h with h | ⟨g, off, h1, h2, h3⟩
  · exact .inl h
  · refine .inr ⟨g, off, h1, h2, fun i hi => ?_⟩
    have hl : g < W.heap.size := World.block_lt_of_cell? _ _ (h3 i hi)
    rcases hne with e | hne
    · omega
    · exact (World.cell?_of_block (w := W) (a := ⟨g, off + i, none⟩) (hg.block g hl (hne _ h1))).trans (h3 i hi)
theorem Mva.snoc {W Z : World} {r r' : Option Nat} {xs : List Value} {l : List Mb} {m : Mb} {am : Option Addr} {cm : Nat} (h : Mva W r xs l) (hb : Bya W am m.2.2.2 cm) (hne : ∀ A, am = some A → some A.block ≠ r) (hg : W.grownBy Z r) (hr : r' = r ∨ r' = some W.heap.size) : Mva Z r' (xs ++ mcs m am cm) (l ++ [m]) := by
  have one : ∀ (a : Option Addr) (x : List UInt8) (c : Nat), Bya W a x c → (x.length = 0 ∨ ∀ A, a = some A → some A.block ≠ r) → Bya Z a x c ∧ (x.length = 0 ∨ ∀ A, a = some A → some A.block ≠ r') := by
    intro a x c h1 h2
    refine ⟨h1.grown h2 hg, ?_⟩
    rcases h1.lt with e | hlt
    · exact .inl e
    · rcases h2 with e | h2
      · exact .inl e
      · refine .inr fun A hA => ?_
        rcases hr with rfl | rfl
        · exact h2 A hA
        · intro e
          have := hlt A hA
          have := Option.some.inj e
          omega
  refine ⟨by rw [List.length_append, List.length_append, h.1]; simp [mcs]; omega, fun i hi => ?_⟩
  by_cases e : i < l.length
  · have e2 : (l ++ [m]).getD i mz = l.getD i mz := by simp [List.getElem?_append, e]
    have hl := h.1
    rw [e2, List.getElem?_append_left (by omega), List.getElem?_append_left (by omega), List.getElem?_append_left (by omega), List.getElem?_append_left (by omega)]
    obtain ⟨am, cm, h1, h2, h3, h4, h5, h6⟩ := h.2 i e
    obtain ⟨g1, g2⟩ := one _ _ _ h5 h6
    exact ⟨am, cm, h1, h2, h3, h4, g1, g2⟩
  · rw [List.length_append, List.length_singleton] at hi
    obtain rfl : i = l.length := by omega
    have hl := h.1
    have e2 : (l ++ [m]).getD l.length mz = m := by simp
    obtain ⟨g1, g2⟩ := one _ _ _ hb (.inr hne)
    rw [e2, List.getElem?_append_right (by omega), List.getElem?_append_right (by omega), List.getElem?_append_right (by omega), List.getElem?_append_right (by omega), hl, show l.length * 4 - l.length * 4 = 0 by omega, show l.length * 4 + 1 - l.length * 4 = 1 by omega, show l.length * 4 + 2 - l.length * 4 = 2 by omega, show l.length * 4 + 3 - l.length * 4 = 3 by omega]
    exact ⟨am, cm, rfl, rfl, rfl, rfl, g1, g2⟩

theorem bof_cons (n : Nat) {r : List UInt8} (hr : r ≠ []) : bof (n + 1) r = if r.take 8 = kB then
      if bat (r.drop 8) < 0 ∨ (r.drop 8).getD (bat (r.drop 8)).toNat 0 ≠ 10 then none
      else match mof ((r.drop 8).take (bat (r.drop 8)).toNat) with
        | none => none
        | some m => (bof n ((r.drop 8).drop ((bat (r.drop 8)).toNat + 1))).map (m :: ·)
    else none := by
  cases r with
  | nil => exact absurd rfl hr
  | cons b s => rfl
theorem idx_there : ∀ (s t : List UInt8) (k : Nat), Lib.index s t = k → ∃ r, s = s.take k ++ (t ++ r)
  | [], t, k, h => by
    unfold Lib.index at h
    split at h
    · rename_i ht
      have : t = [] := by simpa using ht
      exact ⟨[], by simp [this]⟩
    · omega
  | b :: l, t, k, h => by
    unfold Lib.index at h
    split at h
    · rename_i hp
      obtain ⟨r, hr⟩ := List.isPrefixOf_iff_prefix.1 hp
      obtain rfl : k = 0 := by omega
      exact ⟨r, by simpa using hr.symm⟩
    · split at h
      · omega
      · cases k with
        | zero =>
          have := Lib.index_ge l t
          rename_i hne
          simp at hne
          omega
        | succ k =>
          obtain ⟨r, hr⟩ := idx_there l t k (by omega)
          exact ⟨r, by rw [List.take_succ_cons, List.cons_append, ← hr]⟩
/-- How long a text is. -/
def stl : Value → Nat
  | .string s => s.size
  | _ => 0
theorem bof_none0 {r : List UInt8} (hr : r ≠ []) : bof 0 r = none := by
  cases r with
  | nil => exact absurd rfl hr
  | cons b s => rfl
theorem bof_nil (n : Nat) : bof n [] = some [] := by cases n <;> rfl
theorem cell_four_new (w : World) (x y z u : Value) (t : TypeId) : ∀ j v, [x, y, z, u][j]? = some v → (w.alloc (.cells #[x, y, z, u] t)).cell? ((⟨w.heap.size, 0, none⟩ : Addr).add j) = some v := by
  intro j v hj
  have hblk := heap_alloc_new w (.cells #[x, y, z, u] t)
  have ha : (⟨w.heap.size, 0, none⟩ : Addr).add j = ⟨w.heap.size, j, none⟩ := by
    by_cases h0 : j = 0
    · subst h0; rfl
    · simp [Addr.add, h0]
  rw [ha, Lib.cell_of_heap hblk]
  simpa using hj

set_option maxRecDepth 100000 in
set_option maxHeartbeats 4000000 in
theorem boxOfIf (HMO : ∀ (s : ByteArray), s.size ≤ 400000 → ∀ w, Calls Tryd.prog 20 #[.string s] w fun e w' => MoPost w (mof s.data.toList) e w') (s : ByteArray) (hs : s.size ≤ 400000) (w : World) :
    Calls Tryd.prog 25 #[.string s] w fun e w' => BoPost w (bof 16 s.data.toList) e w' := by
  obtain ⟨i0, hi0, hz0, hz1, hz2⟩ := info_parts Tryd.infoMail
  have HMO2 : Hid (∀ (s : ByteArray), s.size ≤ 400000 → ∀ w, Calls Tryd.prog 20 #[.string s] w fun e w' => MoPost w (mof s.data.toList) e w') := HMO
  clear HMO
  obtain ⟨O, hO⟩ : ∃ O, bof 16 s.data.toList = O := ⟨_, rfl⟩
  have HO : Hid (bof 16 s.data.toList = O) := hO
  rw [hO]
  clear hO
  have PN : Hid (O = none → ∀ e w', e = .returned (.tuple #[.slice none 0 0, .int .i64 5]) → Below w.heap.size w w' → BoPost w O e w') := fun h e w' h1 h2 => by rw [h]; exact ⟨h1, h2⟩
  go_enter Tryd.func25, Tryd.ntmps25
  go_wp2
  go_loopw [0, 4] (fun x v wr => ∃ (r : ByteArray) (done : List Mb) (a : Option Addr) (cap : Nat), x = .string r ∧ v = .slice a done.length cap ∧ r.size ≤ s.size ∧ done.length ≤ 16 ∧
      Hid (O = (bof (16 - done.length) r.data.toList).map (fun q => done.map mlb ++ q)) ∧ Hid (∃ xs, wr.ownsRow w.heap.size 51 4 (.slice a done.length cap) done.length xs ∧ Mva wr (Value.slice a done.length cap).ownBlock xs done) ∧ Hid (Below w.heap.size w wr))
    (fun x _ _ => stl x)
  case atStart =>
    refine ⟨s, [], none, 0, rfl, rfl, Nat.le_refl _, Nat.zero_le _, ?_, ⟨[], World.ownsRow_nil _ _ _ _, Mva.nil _ _⟩, Below.refl _ _⟩
    show O = (bof 16 s.data.toList).map _
    rw [HO.out]
    cases O <;> rfl
  case round =>
    obtain ⟨r, done, a, cap, rfl, rfl, hrs, hdl, HR, HROW, HB⟩ := hrel
    by_cases h0 : r.size = 0
    · have h0' : ¬ (0 : Int) < (r.size : Int) := by omega
      have HF : Hid (O = some (done.map mlb)) := by
        show _ = _
        rw [HR.out, show r.data.toList = [] from List.length_eq_zero_iff.1 (by rw [← Lib.size_eq]; exact h0), bof_nil]
        simp
      go_wp2
      go_ret2
      obtain ⟨xs, hown, hmv⟩ := HROW.out
      obtain ⟨_, h1, h2⟩ := mls_of_own hown hmv.mvs
      rw [HF.out]
      refine ⟨a, cap, by rw [List.length_map]; rfl, ?_, by rw [List.length_map]; exact h2, HB.out⟩
      rw [show (done.map mlb).map mbl = done by rw [List.map_map]; exact List.map_id' done]
      exact h1
    · have h0' : (0 : Int) < (r.size : Int) := by omega
      have hne : r.data.toList ≠ [] := fun e => h0 (by rw [Lib.size_eq, e]; rfl)
      have st := fun W => starts r ⟨#[70, 114, 111, 109, 32, 45, 32, 10]⟩ W
      obtain ⟨A, hA⟩ : ∃ A, Lib.hasPrefix r.data.toList kB = A := ⟨_, rfl⟩
      replace st : ∀ W, Calls Tryd.prog 48 #[.string r, .string ⟨#[70, 114, 111, 109, 32, 45, 32, 10]⟩] W fun e w' => e = .returned (.bool A) ∧ w' = W := fun W => by rw [← hA]; exact st W
      rw [pre_take] at hA
      cases A
      · have HN : Hid (O = none) := by
          show _ = _
          rw [HR.out]
          rcases Nat.eq_zero_or_pos (16 - done.length) with e | e
          · rw [e, bof_none0 hne]; rfl
          · obtain ⟨n, hn⟩ : ∃ n, 16 - done.length = n + 1 := ⟨16 - done.length - 1, by omega⟩
            rw [hn, bof_cons n hne, if_neg (show ¬ r.data.toList.take 8 = kB from of_decide_eq_false hA)]; rfl
        clear hA
        go_wp2_with (go_at_call 48; refine (st _).mono ?_; clear st; rintro e w1 ⟨rfl, rfl⟩)
        go_ret2
        exact PN.out HN.out _ _ rfl HB.out
      · have hk8 : r.data.toList.take 8 = kB := of_decide_eq_true hA
        by_cases h16 : 16 ≤ done.length
        · have h16' : (16 : Int) ≤ (done.length : Int) := by omega
          have HN : Hid (O = none) := by
            show _ = _
            rw [HR.out, show 16 - done.length = 0 by omega, bof_none0 hne]; rfl
          clear hA hk8
          go_wp2_with (go_at_call 48; refine (st _).mono ?_; clear st; rintro e w1 ⟨rfl, rfl⟩)
          go_ret2
          exact PN.out HN.out _ _ rfl HB.out
        · have h16' : ¬ (16 : Int) ≤ (done.length : Int) := by omega
          obtain ⟨n, hn⟩ : ∃ n, 16 - done.length = n + 1 := ⟨16 - done.length - 1, by omega⟩
          have h8 : 8 ≤ r.size := by
            have := congrArg List.length hk8
            rw [List.length_take, ← Lib.size_eq] at this
            have : kB.length = 8 := rfl
            omega
          obtain ⟨r8, hr8⟩ : ∃ r8, r.extract 8 r.size = r8 := ⟨_, rfl⟩
          have hl8 : r8.data.toList = r.data.toList.drop 8 := by
            rw [← hr8, Lib.extract_data, List.take_of_length_le (by rw [List.length_drop, ← Lib.size_eq]; exact Nat.le_refl _)]
          have hz8 : r8.size + 8 = r.size := by rw [Lib.size_eq, hl8, List.length_drop, ← Lib.size_eq]; omega
          have hbc := bof_cons n hne
          rw [if_pos hk8, ← hl8] at hbc
          have HBC : Hid _ := hbc
          have HR8 : Hid (r.extract 8 r.size = r8) := hr8
          have HR2 : Hid (O = (bof (n + 1) r.data.toList).map (fun q => done.map mlb ++ q)) := by
            show _ = _
            rw [← hn]; exact HR.out
          obtain ⟨i, hi⟩ : ∃ i, Lib.index r8.data.toList (10 :: kB) = i := ⟨_, rfl⟩
          have fi : ∀ W, Calls Tryd.prog 43 #[.string r8, .string ⟨#[10, 70, 114, 111, 109, 32, 45, 32, 10]⟩] W fun e w' => e = .returned (.int .i64 i) ∧ w' = W := fun W => by
            rw [← hi]; exact findIn r8 ⟨#[10, 70, 114, 111, 109, 32, 45, 32, 10]⟩ W (by omega) (by decide) (by decide)
          obtain ⟨K, hK⟩ : ∃ K, bat r8.data.toList = K := ⟨_, rfl⟩
          have HBAT : Hid (bat r8.data.toList = K) := hK
          unfold bat at hK
          rw [hi, ← Lib.size_eq] at hK
          have hin : i + 9 ≤ r8.size ∨ i < 0 := by
            have h1 := Lib.index_ge r8.data.toList (10 :: kB)
            rw [hi] at h1
            rcases Int.lt_or_le i 0 with e | e
            · exact .inr e
            · obtain ⟨q, rfl⟩ := Int.eq_ofNat_of_zero_le e
              obtain ⟨t, ht⟩ := idx_there _ _ q hi
              have h3 := congrArg List.length ht
              rw [List.length_append, List.length_append, List.length_take, ← Lib.size_eq] at h3
              have h4 : (10 :: kB).length = 9 := rfl
              have h5 := Lib.index_le r8.data.toList (10 :: kB)
              rw [hi, ← Lib.size_eq] at h5
              omega
          have hu8 : (8 : Int) ≤ (r.size : Int) := by omega
          have HNN : Hid (16 - done.length = n + 1) := hn
          clear hA hk8 hi hr8 hl8 hbc hne HR hn h0
          go_upto_if 26 with (first
            | (go_at_call 48; refine (st _).mono ?_; clear st; rintro e w1 ⟨rfl, rfl⟩)
            | (rw [HR8.out]; go_at_call 43; refine (fi _).mono ?_; clear fi; rintro e w1 ⟨rfl, rfl⟩))
          have HIN : Hid (i + 9 ≤ (r8.size : Int) ∨ i < 0) := hin
          clear hin
          go_cut [6] from 9 to 54 (fun u wx => u = .int .i64 K ∧ wx = w1)
          case first =>
            by_cases hi0 : i < 0
            · rw [if_pos hi0] at hK
              go_wp2_with fail
              go_meet
              case rel => exact ⟨rfl, rfl⟩
            · rw [if_neg hi0] at hK
              subst hK
              go_wp2_with fail
              go_meet
              case rel => exact ⟨rfl, rfl⟩
          case rest =>
            obtain ⟨rfl, rfl⟩ := hcut
            by_cases hK0 : K < 0
            · have HN : Hid (O = none) := by
                show _ = _
                rw [HR2.out, HBC.out, if_pos (.inl (by rw [HBAT.out]; exact hK0))]; rfl
              clear hK
              go_wp2
              go_ret2
              exact PN.out HN.out _ _ rfl HB.out
            · obtain ⟨k, rfl⟩ := Int.eq_ofNat_of_zero_le (show 0 ≤ K by omega)
              have hkl : k < r8.size := by
                have h1 := HIN.out
                split at hK <;> omega
              have hkl1 : (k : Int) < (r8.size : Int) := by omega
              have hk0 : (0 : Int) ≤ (k : Int) := by omega
              obtain ⟨c, hc⟩ : ∃ c, r8[k] = c := ⟨_, rfl⟩
              have hgd : r8.data.toList.getD k 0 = c := by
                rw [List.getD_eq_getElem?_getD, List.getElem?_eq_getElem (by rw [← Lib.size_eq]; exact hkl)]
                exact hc
              have hbc := HBC.out
              rw [HBAT.out, Int.toNat_natCast, hgd] at hbc
              by_cases h10 : c = 10
              · have hcb : ((c.toNat : Int) != 10) = false := by rw [h10]; rfl
                rw [if_neg (by rintro (x | x); exact hK0 x; exact x h10)] at hbc
                have HBC2 : Hid _ := hbc
                obtain ⟨p, hp⟩ : ∃ p, r8.extract 0 k = p := ⟨_, rfl⟩
                have hpl : p.data.toList = r8.data.toList.take k := by
                  rw [← hp, Lib.extract_data, List.drop_zero, Nat.sub_zero]
                have HP : Hid (r8.extract 0 k = p) := hp
                obtain ⟨r2, hr2⟩ : ∃ r2, r8.extract (k + 1) r8.size = r2 := ⟨_, rfl⟩
                have hrl : r2.data.toList = r8.data.toList.drop (k + 1) := by
                  rw [← hr2, Lib.extract_data, List.take_of_length_le (by rw [List.length_drop, ← Lib.size_eq]; exact Nat.le_refl _)]
                have hrz : r2.size + k + 1 = r8.size := by rw [Lib.size_eq, hrl, List.length_drop, ← Lib.size_eq]; omega
                have HRX : Hid (r8.extract (k + 1) r8.size = r2) := hr2
                have hmo := HMO2.out p (by rw [Lib.size_eq, hpl, List.length_take, ← Lib.size_eq]; omega)
                have hk1 : (0 : Int) ≤ (k : Int) + 1 := by omega
                have hk2 : (k : Int) + 1 ≤ (r8.size : Int) := by omega
                rw [← hpl, ← hrl] at hbc
                cases hx : mof p.data.toList with
                | none =>
                  have HN : Hid (O = none) := by
                    show _ = _
                    rw [HR2.out, hbc, hx]; rfl
                  simp only [hx] at hmo
                  clear hbc hx hgd h10 hpl hrl hp hr2 hK hK0
                  go_wp2_with (rw [HP.out]; go_at_call 20; refine (hmo _).mono ?_; clear hmo; rintro e w2 ⟨rfl, hb2⟩; replace hb2 := HB.out.trans (hb2.mono HB.out.size))
                  go_ret2
                  exact PN.out HN.out _ _ rfl (hb2.alloc hb2.size _)
                | some m =>
                  have HX : Hid (O = (bof n r2.data.toList).map (fun q => (done ++ [mbl m]).map mlb ++ q)) := by
                    show _ = _
                    rw [HR2.out, hbc, hx]
                    cases bof n r2.data.toList with
                    | none => rfl
                    | some q => simp [mlb_mbl]
                  simp only [hx] at hmo
                  obtain ⟨xs, hown, hmv⟩ := HROW.out
                  have HMV : Hid (Mva wc (Value.slice a done.length cap).ownBlock xs done) := hmv
                  have HOWN : Hid (wc.ownsRow w.heap.size 51 4 (.slice a done.length cap) done.length xs) := hown
                  obtain ⟨M, hM⟩ : ∃ M, mbl m = M := ⟨_, rfl⟩
                  obtain ⟨F, S, D, X⟩ := M
                  obtain ⟨m1, m2, m3, m4⟩ := m
                  simp only [mbl, Prod.mk.injEq] at hM
                  obtain ⟨e1, e2, e3, rfl⟩ := hM
                  have HX2 : Hid (O = (bof n r2.data.toList).map (fun q => (done ++ [(F, S, D, m4)]).map mlb ++ q)) := by
                    show _ = _
                    rw [HX.out, ← e1, ← e2, ← e3]; rfl
                  simp only [MoPost, e1, e2, e3] at hmo
                  clear hbc hx hgd h10 hpl hrl hp hr2 hK hK0 e1 e2 e3 HX hown hmv
                  go_wp2_with (rw [HP.out]; go_at_call 20; refine (hmo _).mono ?_)
                  clear hmo
                  rintro e w2 ⟨a4, c4, rfl, hy4, hn4, hb2⟩
                  have hb4 : Below w2.heap.size w2 ((w2.alloc (.cells #[.string F, .string S, .string D, .slice a4 m4.length c4] 51)).alloc (.cells #[.string F, .string S, .string D, .slice a4 m4.length c4] 51)) := (below_alloc w2 _).trans ((below_alloc (w2.alloc (.cells #[.string F, .string S, .string D, .slice a4 m4.length c4] 51)) _).mono (by simp))
                  have hbc4 := hb2.trans (hb4.mono hb2.size)
                  have hmv4 := HMV.out.all hbc4
                  have hown4 := own_all HOWN.out hbc4
                  have HB4 : Hid (Below w.heap.size w ((w2.alloc (.cells #[.string F, .string S, .string D, .slice a4 m4.length c4] 51)).alloc (.cells #[.string F, .string S, .string D, .slice a4 m4.length c4] 51))) := HB.out.trans (hbc4.mono HB.out.size)
                  have HY4 : Hid (Bya ((w2.alloc (.cells #[.string F, .string S, .string D, .slice a4 m4.length c4] 51)).alloc (.cells #[.string F, .string S, .string D, .slice a4 m4.length c4] 51)) a4 m4 c4) := hy4.all hb4
                  have HNE : Hid (∀ A, a4 = some A → some A.block ≠ (Value.slice a done.length cap).ownBlock) := fun A hA e => by
                    have h1 := hn4 A hA
                    have h2 := (HOWN.out.lt _ e.symm).2
                    omega
                  have HMV4 : Hid (Mva ((w2.alloc (.cells #[.string F, .string S, .string D, .slice a4 m4.length c4] 51)).alloc (.cells #[.string F, .string S, .string D, .slice a4 m4.length c4] 51)) (Value.slice a done.length cap).ownBlock xs done) := hmv4
                  have hwb : w.heap.size ≤ w2.heap.size := Nat.le_trans HB.out.size hb2.size
                  have hsz2 : (w2.alloc (.cells #[.string F, .string S, .string D, .slice a4 m4.length c4] 51)).heap.size = w2.heap.size + 1 := by simp
                  clear hy4 hn4 hb2 hb4 hbc4 hmv4
                  go_wp2_with (at_builtin; refine wpList_append_own_at _ rfl _ _ 52 rfl w.heap.size 51 i0 (.agg #[.string ByteArray.empty, .string ByteArray.empty, .string ByteArray.empty, .slice none 0 0]) 4 72 Tryd.underlying52 hi0 hz0 hz1 hz2 rfl (by decide) _ _ _ rfl hown4 ⟨w2.heap.size + 1, 0, none⟩ 1 1 [.string F, .string S, .string D, .slice a4 m4.length c4] rfl rfl (by have := cell_four_new (w2.alloc (.cells #[.string F, .string S, .string D, .slice a4 m4.length c4] 51)) (.string F) (.string S) (.string D) (.slice a4 m4.length c4) 51; rw [hsz2] at this; exact this) (fun x hx => by simp at hx; rcases hx with rfl | rfl | rfl | rfl <;> rfl) (by unfold maxLen; omega) (by omega) (by simp; omega) ?_; intro v' w6 hown6 hgrow6 hnil6 hblk6; obtain ⟨g6, cap6, rfl⟩ := ownsRow_succ hown6)
                  go_roundw
                  case rel =>
                    have hln : (done ++ [(F, S, D, m4)]).length = done.length + 1 := by simp
                    refine ⟨r2, done ++ [(F, S, D, m4)], some ⟨g6, 0, none⟩, cap6, congrArg Value.string HRX.out, by rw [hln], by omega, by omega, ?_, ⟨_, ?_, HMV4.out.snoc (m := (F, S, D, m4)) HY4.out HNE.out hgrow6 ?_⟩, HB4.out.grown hgrow6 (by simp; omega) (fun j hj => (hown4.lt j hj).1)⟩
                    · show O = _
                      rw [hln, show 16 - (done.length + 1) = n by have := HNN.out; omega]
                      exact HX2.out
                    · rw [hln]; exact hown6
                    · rw [hln]; exact hblk6
                  case measure =>
                    show (r8.extract (k + 1) r8.size).size < r.size
                    rw [HRX.out]; omega
              · have hcb : ((c.toNat : Int) != 10) = true := bne_iff_ne.2 (fun h => h10 (UInt8.toNat_inj.1 (by have : (10 : UInt8).toNat = 10 := rfl; omega)))
                have HN : Hid (O = none) := by
                  show _ = _
                  rw [HR2.out, hbc, if_pos (.inr h10)]; rfl
                clear hbc hgd hK h10
                go_wp2
                go_ret2
                exact PN.out HN.out _ _ rfl HB.out

end Go.Proofs.YtppmpofdhkgjmafDoor
