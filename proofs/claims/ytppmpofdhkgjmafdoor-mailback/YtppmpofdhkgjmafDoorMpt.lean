/-
  Walk of mail.Print.
-/
import Derived.Test.YtppmpofdhkgjmafDoorMck
import Derived.Test.YtppmpofdhkgjmafDoorMfs

namespace Go.Proofs.YtppmpofdhkgjmafDoor
open Go.RowKit Dist

theorem join_mtx (f s d : ByteArray) (x : List UInt8) (t : ByteArray) (ht : t.data.toList = ltrs x) :
    (⟨(Lib.join ([(⟨#[70, 114, 111, 109, 58, 32]⟩ : ByteArray) ++ f, (⟨#[83, 117, 98, 106, 101, 99, 116, 58, 32]⟩ : ByteArray) ++ s, ((⟨#[77, 101, 115, 115, 97, 103, 101, 45, 73, 68, 58, 32, 60]⟩ : ByteArray) ++ d) ++ ⟨#[62]⟩, ⟨#[67, 111, 110, 116, 101, 110, 116, 45, 84, 114, 97, 110, 115, 102, 101, 114, 45, 69, 110, 99, 111, 100, 105, 110, 103, 58, 32, 98, 97, 115, 101, 54, 52]⟩, ⟨#[]⟩, t].map (·.data.toList)) (⟨#[10]⟩ : ByteArray).data.toList).toArray⟩ : ByteArray) = ⟨(mtx (mlb (f, s, d, x))).toArray⟩ := by
  rw [mtx_list]
  simp only [List.map_cons, List.map_nil, app_data, ht]
  unfold Lib.join
  congr 2
  simp [List.intercalate, kF, kS, kI, kC]

theorem cells_new_strs (w : World) (xs : List ByteArray) (t : TypeId) : ∀ (j : Nat) x, xs[j]? = some x → (w.alloc (.cells (xs.map Value.string).toArray t)).cell? ⟨w.heap.size, 0 + j, none⟩ = some (.string x) := by
  intro j x hj
  rw [Nat.zero_add, Lib.cell_of_heap (heap_alloc_new w _)]
  simp [hj]

theorem join6 (a b c d e f R : ByteArray) (h : (⟨(Lib.join ([a, b, c, d, e, f].map (·.data.toList)) (⟨#[10]⟩ : ByteArray).data.toList).toArray⟩ : ByteArray) = R) (hl : R.data.toList.length ≤ 60000) (W : World) :
    Calls Tryd.prog 46 #[.slice (some ⟨W.heap.size, 0, none⟩) 6 6, .string ⟨#[10]⟩] (W.alloc (.cells #[.string a, .string b, .string c, .string d, .string e, .string f] 9)) fun e' w' => e' = .returned (.string R) ∧ Below (W.alloc (.cells #[.string a, .string b, .string c, .string d, .string e, .string f] 9)).heap.size (W.alloc (.cells #[.string a, .string b, .string c, .string d, .string e, .string f] 9)) w' := by
  subst h
  exact Tryd.strings_Join W.heap.size 0 6 [a, b, c, d, e, f] ⟨#[10]⟩ _ (cells_new_strs W [a, b, c, d, e, f] 9) (by simp) (by simp) (by simp) (Nat.le_trans hl (by omega))

set_option maxRecDepth 100000 in
set_option maxHeartbeats 1000000 in
theorem printMail (f s d : ByteArray) (x : List UInt8) (am : Option Addr) (cm : Nat) (w : World) (hx : Bya w am x cm) :
    Calls Tryd.prog 19 #[.agg #[.string f, .string s, .string d, .slice am x.length cm]] w fun e w' => e = .returned (.tuple #[.string (prT (mlb (f, s, d, x))), errV (mlf (mlb (f, s, d, x)))]) ∧ Below w.heap.size w w' := by
  have hb0 := below_alloc w (.cells #[.string f, .string s, .string d, .slice am x.length cm] 51)
  have hc0 := fun W (h : Below (w.alloc (.cells #[.string f, .string s, .string d, .slice am x.length cm] 51)).heap.size (w.alloc (.cells #[.string f, .string s, .string d, .slice am x.length cm] 51)) W) => cells4_later h
  have hck := fun W => checkMail f s d x am cm W
  have hen := fun W (h : Below w.heap.size w W) (hm : mlOk (mlb (f, s, d, x))) => encode am x cm W (hx.all h) hm.2
  have HT := join_mtx f s d x
  have HP : prT (mlb (f, s, d, x)) = if mlf (mlb (f, s, d, x)) = 0 then ⟨(mtx (mlb (f, s, d, x))).toArray⟩ else ⟨#[]⟩ := rfl
  obtain ⟨R, hR⟩ : ∃ R, prT (mlb (f, s, d, x)) = R := ⟨_, rfl⟩
  rw [hR] at HP ⊢
  by_cases h0 : mlf (mlb (f, s, d, x)) = 0
  · have hm := mlf_0.1 h0
    rw [if_pos h0] at HP
    have l1 : f.size ≤ 40 := by rw [Lib.size_eq]; exact hm.1.1.2.1
    have l2 : s.size ≤ 40 := by rw [Lib.size_eq]; exact hm.1.2.1.2.1
    have l3 : d.size ≤ 40 := by rw [Lib.size_eq]; exact hm.1.2.2.1.2.1
    have l4 : (⟨(ltrs x).toArray⟩ : ByteArray).size ≤ 60000 := by
      rw [Lib.size_eq]
      show (ltrs x).length ≤ 60000
      have h4 : x.length ≤ 40000 := hm.2
      rw [ltrs_len]; omega
    have hml := mtx_len hm
    replace hen := fun W (h : Below w.heap.size w W) => hen W h hm
    rw [h0, errV_zero] at hck ⊢
    obtain ⟨T, hT⟩ : ∃ T, (⟨(ltrs x).toArray⟩ : ByteArray) = T := ⟨_, rfl⟩
    rw [hT] at l4
    simp only [hT] at hen
    replace HT := HT T (by rw [← hT])
    rw [← HP] at HT
    obtain ⟨n, hn⟩ : ∃ n, x.length = n := ⟨_, rfl⟩
    rw [hn] at hb0 hc0 hck ⊢
    simp only [hn] at hen
    obtain ⟨d0, d1, d2, d3⟩ := hc0 _ (Below.refl _ _)
    have hRl : R.data.toList.length ≤ 60000 := by rw [HP]; exact hml
    have HTT : Hid _ := HT
    have HRL : Hid (R.data.toList.length ≤ 60000) := hRl
    clear HP hR h0 hm hml HT hRl hT hx
    go_enter Tryd.func19, Tryd.ntmps19
    go_wp2_with (first
      | (go_at_call 17; refine (hck _).mono ?_; clear hck; rintro e w1 ⟨rfl, hb1⟩; obtain ⟨d0, d1, d2, d3⟩ := hc0 _ hb1; replace hen := hen w1 (hb0.trans (hb1.mono hb0.size)))
      | (go_at_call 12; refine hen.mono ?_; clear hen; rintro e w2 ⟨rfl, hb2⟩; replace hb2 := hb1.trans (hb2.mono hb1.size); obtain ⟨d0, d1, d2, d3⟩ := hc0 _ hb2; replace hb2 := hb0.trans (hb2.mono hb0.size))
      | (go_at_call 46; refine (join6 _ _ _ _ _ _ R HTT.out HRL.out _).mono ?_; rintro e w3 ⟨rfl, hb3⟩))
    go_ret2
    exact ⟨rfl, (hb2.trans ((below_alloc w2 _).mono hb2.size)).trans (hb3.mono (Nat.le_trans hb2.size (below_alloc w2 _).size))⟩
  · rw [if_neg h0] at HP
    subst HP
    rw [errV_not h0] at hck ⊢
    obtain ⟨n, hn⟩ : ∃ n, x.length = n := ⟨_, rfl⟩
    rw [hn] at hb0 hc0 hck ⊢
    obtain ⟨k, hk⟩ : ∃ k, mlf (mlb (f, s, d, x)) = k := ⟨_, rfl⟩
    rw [hk] at hck ⊢
    clear hk hn hR h0 HT hen hx
    obtain ⟨d0, d1, d2, d3⟩ := hc0 _ (Below.refl _ _)
    go_enter Tryd.func19, Tryd.ntmps19
    go_wp2_with (go_at_call 17; refine (hck _).mono ?_; clear hck; rintro e w1 ⟨rfl, hb1⟩)
    go_ret2
    exact ⟨rfl, hb0.trans (hb1.mono hb0.size)⟩

end Go.Proofs.YtppmpofdhkgjmafDoor
