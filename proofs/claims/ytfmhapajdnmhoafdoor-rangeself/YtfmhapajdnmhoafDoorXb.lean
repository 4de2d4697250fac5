/-
  Walk of the document's own answer for lines as a text. Walk of the document's own way to cut a text into parts. Walks of the document's own way to cut a text into lines: Parts and SplitOf. Walk of the document's own answer for paths: PathFault.
-/
import Derived.Test.YtfmhapajdnmhoafDoorXa
import Derived.Test.YtfmhapajdnmhoafDoorRefL
import Derived.Test.YtfmhapajdnmhoafDoorXl
namespace Go.Proofs.YtfmhapajdnmhoafDoor
open Go.RowKit

end Go.Proofs.YtfmhapajdnmhoafDoor
namespace Go.Proofs.YtfmhapajdnmhoafDoor
open Go.RowKit

theorem joinC_more (c : UInt8) (l : List (List UInt8)) (x : List UInt8) : joinC c (l ++ [x]) = joinC c l ++ (x ++ [c]) := by
  rw [joinC_append]; simp [joinC]

theorem extract_list (s : ByteArray) (a b : Nat) : (s.extract a b).data.toList = (s.data.toList.take b).drop a := by
  rw [Lib.extract_data, List.drop_take]

/-- What holds while the text is cut: 'done' is cut off, from f on to k there is no byte 10. -/
def Cutting (s : ByteArray) (done : List ByteArray) (f k : Nat) : Prop :=
  f ≤ k ∧ k ≤ s.size ∧ joinC 10 (bts done) = s.data.toList.take f ∧ (∀ x ∈ bts done, 10 ∉ x) ∧ 10 ∉ (s.data.toList.take k).drop f

theorem Cutting.start (s : ByteArray) : Cutting s [] 0 0 := ⟨Nat.le_refl _, Nat.zero_le _, by simp [bts, joinC], by simp [bts], by simp⟩

theorem Cutting.len {s : ByteArray} {done : List ByteArray} {f k : Nat} (h : Cutting s done f k) : done.length ≤ f := by
  have h1 := joinC_len 10 (bts done)
  rw [h.2.2.1, bts_length, List.length_take] at h1
  omega

theorem take_drop_snoc (l : List UInt8) (f k : Nat) (hf : f ≤ k) (hk : k < l.length) : (l.take (k + 1)).drop f = (l.take k).drop f ++ [l[k]] := by
  rw [List.take_succ_eq_append_getElem hk, List.drop_append_of_le_length (by rw [List.length_take]; omega)]

theorem Cutting.go {s : ByteArray} {done : List ByteArray} {f k : Nat} (h : Cutting s done f k) (hk : k < s.size) (hb : s[k] ≠ 10) : Cutting s done f (k + 1) := by
  have hl : k < s.data.toList.length := by rw [← Lib.size_eq]; exact hk
  refine ⟨by have := h.1; omega, hk, h.2.2.1, h.2.2.2.1, ?_⟩
  rw [take_drop_snoc _ _ _ h.1 hl]
  intro hm
  rcases List.mem_append.1 hm with hm | hm
  · exact h.2.2.2.2 hm
  · rw [List.mem_singleton] at hm
    exact hb hm.symm

theorem Cutting.hit {s : ByteArray} {done : List ByteArray} {f k : Nat} (h : Cutting s done f k) (hk : k < s.size) (hb : s[k] = 10) : Cutting s (done ++ [s.extract f k]) (k + 1) (k + 1) := by
  have hl : k < s.data.toList.length := by rw [← Lib.size_eq]; exact hk
  have hx : bts (done ++ [s.extract f k]) = bts done ++ [(s.data.toList.take k).drop f] := by
    unfold bts; rw [List.map_append]
    show _ ++ [(s.extract f k).data.toList] = _
    rw [extract_list]
  refine ⟨Nat.le_refl _, hk, ?_, ?_, by simp⟩
  · rw [hx, joinC_more, h.2.2.1]
    have e1 : s.data.toList.take f = (s.data.toList.take k).take f := by rw [List.take_take]; congr 1; have := h.1; omega
    have e2 : s.data.toList[k] = 10 := hb
    rw [e1, ← List.append_assoc, List.take_append_drop, List.take_succ_eq_append_getElem hl, e2]
  · rw [hx]
    intro x hm
    rcases List.mem_append.1 hm with hm | hm
    · exact h.2.2.2.1 x hm
    · rw [List.mem_singleton] at hm; subst hm; exact h.2.2.2.2

theorem Cutting.parts {s : ByteArray} {done : List ByteArray} {f : Nat} (h : Cutting s done f s.size) : parts 10 s.data.toList = (bts done, s.data.toList.drop f) := by
  have h5 := h.2.2.2.2
  rw [List.take_of_length_le (by rw [← Lib.size_eq]; exact Nat.le_refl _)] at h5
  have e := parts_of 10 (bts done) (s.data.toList.drop f) h.2.2.2.1 h5
  rw [h.2.2.1, List.take_append_drop] at e
  exact e

theorem strs_own {w : World} {B g cap n : Nat} {ps : List ByteArray} {cur : Array Value} (hh : w.heap[g]? = some (.cells cur 9 (0, 0))) (ht : cur.toList.take (n * 1) = ps.map Value.string) (hn : ps.length = n) (_ : B ≤ g) (_ : n ≤ cap) : Strs w (some ⟨g, 0, none⟩) ps := by
  intro i hi
  refine ⟨g, 0, rfl, ?_⟩
  rw [Nat.zero_add, Lib.cell_of_heap hh]
  rw [Nat.mul_one] at ht
  have h1 : (cur.toList.take n)[i]? = (ps.map Value.string)[i]? := by rw [ht]
  rw [List.getElem?_take, if_pos (by omega), List.getElem?_map] at h1
  rw [← Array.getElem?_toList, h1]
  have e : ps.getD i ByteArray.empty = ps[i] := by simp [hi]
  rw [e]
  simp [hi]

end Go.Proofs.YtfmhapajdnmhoafDoor
namespace Go.Proofs.YtfmhapajdnmhoafDoor
open Go.RowKit

theorem Strs.take {w : World} {a : Option Addr} {ps : List ByteArray} (h : Strs w a ps) (k : Nat) : Strs w a (ps.take k) := by
  intro i hi
  rw [List.length_take] at hi
  obtain ⟨b, off, rfl, hc⟩ := h i (by omega)
  refine ⟨b, off, rfl, ?_⟩
  have h1 : i < k := by omega
  have e : (ps.take k).getD i ByteArray.empty = ps.getD i ByteArray.empty := by simp [h1]
  rw [e]; exact hc

theorem parts_bytes (c : UInt8) (s x : List UInt8) (h : x ∈ (parts c s).1) : x.length ≤ s.length := by
  have hj := congrArg List.length (parts_join c s)
  rw [List.length_append] at hj
  have : ∀ (i : List (List UInt8)), x ∈ i → x.length ≤ (joinC c i).length := by
    intro i
    induction i with
    | nil => intro h; simp at h
    | cons y t ih =>
      intro h
      rcases List.mem_cons.1 h with rfl | h
      · simp [joinC]
      · have := ih h; simp [joinC]; omega
  have := this _ h
  omega

/-- What Parts hands on, taken apart. -/
theorem parts_pieces {ps : List ByteArray} {s : ByteArray} (h : bts ps = (parts 10 s.data.toList).1 ++ [(parts 10 s.data.toList).2]) :
    ∃ n x, ps.length = n + 1 ∧ ps.getD n ByteArray.empty = x ∧ x.data.toList = (parts 10 s.data.toList).2 ∧ bts (ps.take n) = (parts 10 s.data.toList).1 ∧ (ps.take n).length = n ∧ n ≤ s.size := by
  have hl := congrArg List.length h
  rw [bts_length, List.length_append, List.length_singleton] at hl
  have hn : (parts 10 s.data.toList).1.length < ps.length := by omega
  refine ⟨(parts 10 s.data.toList).1.length, _, hl, rfl, ?_, ?_, ?_, ?_⟩
  · have e : ps.getD (parts 10 s.data.toList).1.length ByteArray.empty = ps[(parts 10 s.data.toList).1.length] := by simp [hn]
    rw [e]
    have h1 : (bts ps)[(parts 10 s.data.toList).1.length]? = some (parts 10 s.data.toList).2 := by rw [h]; simp
    unfold bts at h1
    rw [List.getElem?_map, List.getElem?_eq_getElem hn] at h1
    simpa using h1
  · rw [take_data, h, List.take_left']; rfl
  · rw [List.length_take]; omega
  · rw [Lib.size_eq]; exact parts_len 10 _

end Go.Proofs.YtfmhapajdnmhoafDoor
namespace Go.Proofs.YtfmhapajdnmhoafDoor
open Go.RowKit

theorem parts_behind (c : UInt8) (i : List (List UInt8)) (r : List UInt8) (hi : ∀ x ∈ i, c ∉ x) : parts c (joinC c i ++ r) = (i ++ (parts c r).1, (parts c r).2) := by
  induction i with
  | nil => simp [joinC]
  | cons x t ih =>
    have := ih (fun y hy => hi y (by simp [hy]))
    simp only [joinC, List.append_assoc, List.cons_append]
    rw [parts_hit c x _ (hi x (by simp)), this]

theorem names_behind (i : List (List UInt8)) (r : List UInt8) (hi : ∀ x ∈ i, (47 : UInt8) ∉ x) : names (joinC 47 i ++ r) = i ++ names r := by
  unfold names; rw [parts_behind 47 i r hi]; simp

theorem names_free (a : List UInt8) (h : (47 : UInt8) ∉ a) : names a = [a] := by unfold names; rw [parts_free 47 a h]; rfl
theorem names_hit (a r : List UInt8) (h : (47 : UInt8) ∉ a) : names (a ++ 47 :: r) = a :: names r := by unfold names; rw [parts_hit 47 a r h]; rfl

/-- The first name begins with what has no slash. -/
theorem names_head (a r : List UInt8) (h : (47 : UInt8) ∉ a) : ∃ t rest, names (a ++ r) = (a ++ t) :: rest := by
  rcases cases_at 47 r with hr | ⟨b, q, hb, rfl⟩
  · exact ⟨r, [], names_free _ (by simp [h, hr])⟩
  · refine ⟨b, names q, ?_⟩
    rw [← List.append_assoc, names_hit (a ++ b) q (by simp [h, hb])]

theorem isNm_slash {x : List UInt8} (h : isNm x = true) : (47 : UInt8) ∉ x := by
  intro hm
  have : (x.all fun c => nb c.toNat) = false := by
    rw [List.all_eq_false]; exact ⟨47, hm, by decide⟩
  simp [isNm, this] at h

theorem pn_bad {p x : List UInt8} (hx : x ∈ names p) (h : isNm x = false) : pn p = 5 := by
  unfold pn
  rw [if_neg]
  rw [List.all_eq_true]
  intro ha
  have := ha x hx
  rw [h] at this
  simp at this

theorem pn_ok {p : List UInt8} (h : ∀ x ∈ names p, isNm x = true) : pn p = 0 := by
  unfold pn
  rw [if_pos (by rw [List.all_eq_true]; exact h)]

/-- What holds while a path is read: the names behind which a slash stood are good; from f on to k there are bytes of names alone. -/
def Reading (p : List UInt8) (done : List (List UInt8)) (f k : Nat) : Prop :=
  f ≤ k ∧ k ≤ p.length ∧ joinC 47 done = p.take f ∧ (∀ x ∈ done, isNm x = true) ∧ ∀ c ∈ (p.take k).drop f, nb c.toNat = true

theorem Reading.start (p : List UInt8) : Reading p [] 0 0 := ⟨Nat.le_refl _, Nat.zero_le _, by simp [joinC], by simp, by simp⟩

theorem Reading.names {p : List UInt8} {done : List (List UInt8)} {f k : Nat} (h : Reading p done f k) : YtfmhapajdnmhoafDoor.names p = done ++ YtfmhapajdnmhoafDoor.names (p.drop f) := by
  have := names_behind done (p.drop f) (fun x hx => isNm_slash (h.2.2.2.1 x hx))
  rw [h.2.2.1, List.take_append_drop] at this
  exact this

theorem Reading.free {p : List UInt8} {done : List (List UInt8)} {f k : Nat} (h : Reading p done f k) : (47 : UInt8) ∉ (p.take k).drop f := fun hm => by
  have := h.2.2.2.2 47 hm
  simp [nb] at this

theorem drop_split (p : List UInt8) (f k : Nat) (hf : f ≤ k) (hk : k < p.length) : p.drop f = (p.take k).drop f ++ p[k] :: p.drop (k + 1) := by
  have h1 : p = p.take k ++ p[k] :: p.drop (k + 1) := by
    rw [← List.drop_eq_getElem_cons hk, List.take_append_drop]
  have h2 : (p.take k ++ p[k] :: p.drop (k + 1)).drop f = (p.take k).drop f ++ p[k] :: p.drop (k + 1) := List.drop_append_of_le_length (by rw [List.length_take]; omega)
  rw [← h1] at h2
  exact h2

theorem Reading.go {p : List UInt8} {done : List (List UInt8)} {f k : Nat} (h : Reading p done f k) (hk : k < p.length) (hb : nb p[k].toNat = true) : Reading p done f (k + 1) := by
  refine ⟨by have := h.1; omega, hk, h.2.2.1, h.2.2.2.1, ?_⟩
  rw [take_drop_snoc _ _ _ h.1 hk]
  intro c hm
  rcases List.mem_append.1 hm with hm | hm
  · exact h.2.2.2.2 c hm
  · rw [List.mem_singleton] at hm; subst hm; exact hb

theorem Reading.badByte {p : List UInt8} {done : List (List UInt8)} {f k : Nat} (h : Reading p done f k) (hk : k < p.length) (hs : p[k] ≠ 47) (hb : nb p[k].toNat = false) : pn p = 5 := by
  have hd := drop_split p f k h.1 hk
  have hfree : (47 : UInt8) ∉ (p.take k).drop f ++ [p[k]] := by
    intro hm
    rcases List.mem_append.1 hm with hm | hm
    · exact h.free hm
    · rw [List.mem_singleton] at hm; exact hs hm.symm
  obtain ⟨t, rest, hn⟩ := names_head ((p.take k).drop f ++ [p[k]]) (p.drop (k + 1)) hfree
  rw [List.append_assoc, List.singleton_append, ← hd] at hn
  refine pn_bad (x := (p.take k).drop f ++ [p[k]] ++ t) (by rw [h.names, hn]; simp) ?_
  exact isNm_no (k := ((p.take k).drop f).length) (c := p[k]) (by simp) hb

theorem Reading.badName {p : List UInt8} {done : List (List UInt8)} {f k : Nat} (h : Reading p done f k) (hk : k = p.length ∨ ∃ h : k < p.length, p[k] = 47) (hb : isNm ((p.take k).drop f) = false) : pn p = 5 := by
  rcases hk with rfl | ⟨hk, e⟩
  · refine pn_bad (x := p.drop f) (by rw [h.names]; rw [List.take_length] at hb; have hf := h.free; rw [List.take_length] at hf; rw [names_free _ hf]; simp) ?_
    rw [List.take_length] at hb; exact hb
  · have hd := drop_split p f k h.1 hk
    rw [e] at hd
    refine pn_bad (x := (p.take k).drop f) (by rw [h.names, hd, names_hit _ _ h.free]; simp) hb

theorem Reading.next {p : List UInt8} {done : List (List UInt8)} {f k : Nat} (h : Reading p done f k) (hk : k < p.length) (e : p[k] = 47) (hb : isNm ((p.take k).drop f) = true) : Reading p (done ++ [(p.take k).drop f]) (k + 1) (k + 1) := by
  refine ⟨Nat.le_refl _, hk, ?_, ?_, by simp⟩
  · rw [joinC_snoc, h.2.2.1]
    have e1 : p.take f = (p.take k).take f := by rw [List.take_take]; congr 1; have := h.1; omega
    rw [e1, ← List.append_assoc, List.take_append_drop, List.take_succ_eq_append_getElem hk, e]
  · intro x hm
    rcases List.mem_append.1 hm with hm | hm
    · exact h.2.2.2.1 x hm
    · rw [List.mem_singleton] at hm; subst hm; exact hb

theorem Reading.done {p : List UInt8} {done : List (List UInt8)} {f : Nat} (h : Reading p done f p.length) (hb : isNm ((p.take p.length).drop f) = true) : pn p = 0 := by
  apply pn_ok
  rw [h.names]
  have hf := h.free
  rw [List.take_length] at hf hb
  rw [names_free _ hf]
  intro x hm
  rcases List.mem_append.1 hm with hm | hm
  · exact h.2.2.2.1 x hm
  · rw [List.mem_singleton] at hm; subst hm; exact hb

theorem isNm_of {x : List UInt8} (h0 : x ≠ []) (h1 : x ≠ [46]) (h2 : x ≠ [46, 46]) (h : ∀ c ∈ x, nb c.toNat = true) : isNm x = true := by
  have ha : (x.all fun c => nb c.toNat) = true := by rw [List.all_eq_true]; exact h
  simp [isNm, ha, h0, h1, h2]

set_option maxHeartbeats 400000 in
theorem pathFault_long (p : ByteArray) (w : World) (h : 20 < (p.size : Int)) : Calls Tryd.prog 11 #[.string p] w fun e w' => e = .returned (.int .i64 3) ∧ w' = w := by
  go_enter Tryd.func11, Tryd.ntmps11
  go_wp2
  go_ret
  exact ⟨rfl, rfl⟩

theorem nb_yes {c : Int} (h : nb c = true) : (97 ≤ c ∧ c ≤ 122) ∨ (48 ≤ c ∧ c ≤ 57) ∨ c = 46 ∨ c = 45 := by simpa [nb] using h
theorem nb_no {c : Int} (h : nb c = false) : (c < 97 ∨ 122 < c) ∧ (c < 48 ∨ 57 < c) ∧ c ≠ 46 ∧ c ≠ 45 := by
  have : ¬ ((97 ≤ c ∧ c ≤ 122) ∨ (48 ≤ c ∧ c ≤ 57) ∨ c = 46 ∨ c = 45) := by simpa [nb] using h
  omega

set_option maxHeartbeats 2000000 in
theorem pathFault_short (p : ByteArray) (w : World) (h : ¬ 20 < (p.size : Int)) : Calls Tryd.prog 11 #[.string p] w fun e w' => e = .returned (.int .i64 (pn p.data.toList)) ∧ w' = w := by
  have hsz : p.size = p.data.toList.length := Lib.size_eq p
  have HSZ : Hid (p.size = p.data.toList.length) := hsz
  clear hsz
  go_enter Tryd.func11, Tryd.ntmps11
  go_wp2
  go_loop [3, 4] (fun f i => ∃ k m : Nat, f = .int .i64 m ∧ i = .int .i64 k ∧ ((∃ done, Reading p.data.toList done m k) ∨ (k = p.size + 1 ∧ pn p.data.toList = 0))) (fun _ i => p.size + 1 - (intOf i).toNat)
  case atStart => exact ⟨0, 0, rfl, rfl, Or.inl ⟨[], Reading.start _⟩⟩
  case round =>
    obtain ⟨k, m, rfl, rfl, hst⟩ := hrel
    rcases hst with ⟨done, hr⟩ | ⟨rfl, hpn⟩
    · have hmk := hr.1
      have hks : k ≤ p.size := by rw [HSZ.out]; exact hr.2.1
      have HR : Hid (Reading p.data.toList done m k) := hr
      clear hr
      by_cases hlt : k < p.size
      · by_cases hsl : ((p[k].toNat : Int) == 47) = true
        · have HSL : Hid (∃ h : k < p.data.toList.length, p.data.toList[k] = 47) := ⟨by rw [← HSZ.out]; exact hlt, (byte_eq p[k] 47).1 hsl⟩
          have hx : (p.extract m k).toList = (p.data.toList.take k).drop m := by rw [Lib.toList_data, extract_list]
          by_cases hn : (p.extract m k).toList.isEmpty = true ∨ ((p.extract m k).toList == [46]) = true ∨ ((p.extract m k).toList == [46, 46]) = true
          · have HPN : Hid (pn p.data.toList = 5) := HR.out.badName (Or.inr HSL.out) (by
              rw [← hx]
              rcases hn with h | h | h
              · have : (p.extract m k).toList = [] := by simpa using h
                rw [this]; rfl
              · rw [beq_iff_eq.1 h]; rfl
              · rw [beq_iff_eq.1 h]; rfl)
            by_cases hn0 : (p.extract m k).toList.isEmpty = true
            · clear hn hx
              go_wp2
              go_ret
              exact ⟨ret_i HPN.out.symm, rfl⟩
            · have hn0 : (p.extract m k).toList.isEmpty = false := by simpa using hn0
              by_cases hn1 : ((p.extract m k).toList == [46]) = true
              · clear hn hx
                go_wp2
                go_ret
                exact ⟨ret_i HPN.out.symm, rfl⟩
              · have hn1 : ((p.extract m k).toList == [46]) = false := by simpa using hn1
                have hn2 : ((p.extract m k).toList == [46, 46]) = true := by
                  rcases hn with h | h | h
                  · rw [hn0] at h; simp at h
                  · rw [hn1] at h; simp at h
                  · exact h
                clear hn hx
                go_wp2
                go_ret
                exact ⟨ret_i HPN.out.symm, rfl⟩
          · have hn0 : (p.extract m k).toList.isEmpty = false := by rw [Bool.eq_false_iff]; exact fun h => hn (Or.inl h)
            have hn1 : ((p.extract m k).toList == [46]) = false := by rw [Bool.eq_false_iff]; exact fun h => hn (Or.inr (Or.inl h))
            have hn2 : ((p.extract m k).toList == [46, 46]) = false := by rw [Bool.eq_false_iff]; exact fun h => hn (Or.inr (Or.inr h))
            have HNX : Hid (isNm ((p.data.toList.take k).drop m) = true) := by
              refine isNm_of ?_ ?_ ?_ HR.out.2.2.2.2
              · rw [← hx]; intro e; rw [e] at hn0; simp at hn0
              · rw [← hx]; intro e; rw [e] at hn1; simp at hn1
              · rw [← hx]; intro e; rw [e] at hn2; simp at hn2
            clear hn hx
            go_wp2
            go_round
            case rel => exact ⟨k + 1, k + 1, by go_num, by go_num, Or.inl ⟨_, HR.out.next HSL.out.1 HSL.out.2 HNX.out⟩⟩
            case measure => simp [intOf]; omega
        · have hsl : ((p[k].toNat : Int) == 47) = false := by simpa using hsl
          have HNS : Hid (p[k] ≠ 47) := fun e => by rw [e] at hsl; simp at hsl
          by_cases hb : nb p[k].toNat = true
          · have HB : Hid (nb p[k].toNat = true) := hb
            rcases nb_yes hb with ⟨h1, h2⟩ | ⟨h1, h2⟩ | h1 | h1
            all_goals
              clear hb
              go_wp2
              go_round
              case rel => exact ⟨k + 1, m, by go_num, by go_num, Or.inl ⟨done, HR.out.go (by rw [← HSZ.out]; exact hlt) HB.out⟩⟩
              case measure => simp [intOf]; omega
          · have hb : nb p[k].toNat = false := by simpa using hb
            have HPN : Hid (pn p.data.toList = 5) := HR.out.badByte (by rw [← HSZ.out]; exact hlt) HNS.out hb
            obtain ⟨h1, h2, h3, h4⟩ := nb_no hb
            have h3 : ((p[k].toNat : Int) != 46) = true := by simpa using h3
            have h4 : ((p[k].toNat : Int) != 45) = true := by simpa using h4
            clear hb
            rcases h1 with h1 | h1
            · rcases h2 with h2 | h2
              · go_wp2
                go_ret
                exact ⟨ret_i HPN.out.symm, rfl⟩
              · go_wp2
                go_ret
                exact ⟨ret_i HPN.out.symm, rfl⟩
            · have h2 : 57 < (p[k].toNat : Int) := by omega
              go_wp2
              go_ret
              exact ⟨ret_i HPN.out.symm, rfl⟩
      · obtain rfl : k = p.size := by omega
        have hx : (p.extract m p.size).toList = (p.data.toList.take p.size).drop m := by rw [Lib.toList_data, extract_list]
        by_cases hn : (p.extract m p.size).toList.isEmpty = true ∨ ((p.extract m p.size).toList == [46]) = true ∨ ((p.extract m p.size).toList == [46, 46]) = true
        · have HPN : Hid (pn p.data.toList = 5) := HR.out.badName (Or.inl HSZ.out) (by
            rw [← hx]
            rcases hn with h | h | h
            · have : (p.extract m p.size).toList = [] := by simpa using h
              rw [this]; rfl
            · rw [beq_iff_eq.1 h]; rfl
            · rw [beq_iff_eq.1 h]; rfl)
          by_cases hn0 : (p.extract m p.size).toList.isEmpty = true
          · clear hn hx
            go_wp2
            go_ret
            exact ⟨ret_i HPN.out.symm, rfl⟩
          · have hn0 : (p.extract m p.size).toList.isEmpty = false := by simpa using hn0
            by_cases hn1 : ((p.extract m p.size).toList == [46]) = true
            · clear hn hx
              go_wp2
              go_ret
              exact ⟨ret_i HPN.out.symm, rfl⟩
            · have hn1 : ((p.extract m p.size).toList == [46]) = false := by simpa using hn1
              have hn2 : ((p.extract m p.size).toList == [46, 46]) = true := by
                rcases hn with h | h | h
                · rw [hn0] at h; simp at h
                · rw [hn1] at h; simp at h
                · exact h
              clear hn hx
              go_wp2
              go_ret
              exact ⟨ret_i HPN.out.symm, rfl⟩
        · have hn0 : (p.extract m p.size).toList.isEmpty = false := by rw [Bool.eq_false_iff]; exact fun h => hn (Or.inl h)
          have hn1 : ((p.extract m p.size).toList == [46]) = false := by rw [Bool.eq_false_iff]; exact fun h => hn (Or.inr (Or.inl h))
          have hn2 : ((p.extract m p.size).toList == [46, 46]) = false := by rw [Bool.eq_false_iff]; exact fun h => hn (Or.inr (Or.inr h))
          have HNX : Hid (pn p.data.toList = 0) := by
            have hr := HR.out
            rw [HSZ.out] at hr hx
            refine hr.done (isNm_of ?_ ?_ ?_ hr.2.2.2.2)
            · rw [← hx, ← HSZ.out]; intro e; rw [e] at hn0; simp at hn0
            · rw [← hx, ← HSZ.out]; intro e; rw [e] at hn1; simp at hn1
            · rw [← hx, ← HSZ.out]; intro e; rw [e] at hn2; simp at hn2
          clear hn hx
          go_wp2
          go_round
          case rel => exact ⟨p.size + 1, p.size + 1, by go_num, by go_num, Or.inr ⟨rfl, HNX.out⟩⟩
          case measure => simp [intOf]
    · have HPN : Hid (pn p.data.toList = 0) := hpn
      clear hpn
      go_wp2
      go_ret
      exact ⟨ret_i HPN.out.symm, rfl⟩

theorem pathFault (p : ByteArray) (w : World) : Calls Tryd.prog 11 #[.string p] w fun e w' => e = .returned (.int .i64 (pf p.data.toList)) ∧ w' = w := by
  by_cases h : 20 < (p.size : Int)
  · have e : pf p.data.toList = 3 := by unfold pf; rw [if_pos (by rw [Lib.size_eq] at h; omega)]
    rw [e]
    exact pathFault_long p w h
  · have e : pf p.data.toList = pn p.data.toList := by unfold pf; rw [if_neg (by rw [Lib.size_eq] at h; omega)]
    rw [e]
    exact pathFault_short p w h

end Go.Proofs.YtfmhapajdnmhoafDoor
