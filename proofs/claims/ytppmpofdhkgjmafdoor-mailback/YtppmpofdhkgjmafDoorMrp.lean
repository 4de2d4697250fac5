/-
  Walk of mail.read.
-/
import Derived.Test.YtppmpofdhkgjmafDoorMsn
import Derived.Test.YtppmpofdhkgjmafDoorDec
import Derived.Test.YtppmpofdhkgjmafDoorMfs
import Derived.Deep.DrawnRows
import Derived.Deep.RegionHeld

namespace Go.Proofs.YtppmpofdhkgjmafDoor
open Go.RowKit Dist

/-- What is copied into six texts. -/
theorem copy6 (ps : List ByteArray) (g N d : Nat) (w : World) (h6 : ps.length ≤ 6) (hb : ∀ (j : Nat) u, (ps.map Value.string)[j]? = some u → w.cell? ((⟨g, 0, none⟩ : Addr).add j) = some u) (hd : w.heap[d]? = some (.cells #[.string ByteArray.empty, .string ByteArray.empty, .string ByteArray.empty, .string ByteArray.empty, .string ByteArray.empty, .string ByteArray.empty] 131 (0, 0))) (ty : TypeId) :
    (Builtin.copy_ #[83, 83] ty #[.slice (some ⟨d, 0, none⟩) 6 6, .slice (some ⟨g, 0, none⟩) ps.length N]).run Tryd.prog w = .ok (.int .i64 ps.length) (w.setRow d #[.string (ps.getD 0 ByteArray.empty), .string (ps.getD 1 ByteArray.empty), .string (ps.getD 2 ByteArray.empty), .string (ps.getD 3 ByteArray.empty), .string (ps.getD 4 ByteArray.empty), .string (ps.getD 5 ByteArray.empty)]) := by
  have h := run_copy_row (P := Tryd.prog) w 83 83 ty 9 d 0 6 6 ⟨g, 0, none⟩ ps.length N #[.string ByteArray.empty, .string ByteArray.empty, .string ByteArray.empty, .string ByteArray.empty, .string ByteArray.empty, .string ByteArray.empty] 131 (ps.map Value.string) Tryd.underlying83 (by kernel_rfl) hd (by rw [List.length_map]; exact (Nat.min_eq_left h6).symm) hb (by rw [List.length_map]; simpa using h6) (fun u hu => by obtain ⟨b, _, rfl⟩ := List.mem_map.1 hu; rfl)
  have e : ((#[Value.string ByteArray.empty, .string ByteArray.empty, .string ByteArray.empty, .string ByteArray.empty, .string ByteArray.empty, .string ByteArray.empty] : Array Value).toList.take 0 ++ ps.map Value.string ++ (#[Value.string ByteArray.empty, .string ByteArray.empty, .string ByteArray.empty, .string ByteArray.empty, .string ByteArray.empty, .string ByteArray.empty] : Array Value).toList.drop (0 + (ps.map Value.string).length)).toArray = #[.string (ps.getD 0 ByteArray.empty), .string (ps.getD 1 ByteArray.empty), .string (ps.getD 2 ByteArray.empty), .string (ps.getD 3 ByteArray.empty), .string (ps.getD 4 ByteArray.empty), .string (ps.getD 5 ByteArray.empty)] := by
    clear h hd hb
    match ps, h6 with
    | [], _ => simp
    | [x], _ => simp
    | [x, y], _ => simp
    | [x, y, z], _ => simp
    | [x, y, z, v], _ => simp
    | [x, y, z, v, u], _ => simp
    | [x, y, z, v, u, t], _ => simp
  rw [h, e, List.length_map]; rfl

theorem decodeU (s : ByteArray) (hs : s.size ≤ 140737488355328) (w : World) :
    Calls Tryd.prog 15 #[.string s] w fun e w' => ∃ a cap E, e = .returned (.tuple #[.slice a ((dcd s.data.toList).getD []).length cap, E]) ∧ Bya w' a ((dcd s.data.toList).getD []) cap ∧ Nw w a ∧ Below w.heap.size w w' := by
  cases h : dcd s.data.toList with
  | none => exact (decodeBad s hs h w).mono fun e w' ⟨h1, h2⟩ => ⟨none, 0, _, h1, .inl ⟨rfl, fun _ => rfl⟩, fun A hA => by (cases hA), h2⟩
  | some x => exact (decodeOkN s hs x h w).mono fun e w' ⟨a, cap, h1, h2, h3, h4⟩ => ⟨a, cap, _, h1, h2, h3, h4⟩

theorem getD_bts (ps : List ByteArray) (i : Nat) : (ps.getD i ByteArray.empty).data.toList = (bts ps).getD i [] := by
  show _ = (ps.map (·.data.toList)).getD i []
  rw [List.getD_eq_getElem?_getD, List.getD_eq_getElem?_getD, List.getElem?_map]
  cases ps[i]? <;> rfl

theorem splitK_len (t : List UInt8) : ∀ (k : Nat) (s : List UInt8), ∀ x ∈ Lib.splitK t 0 k s, x.length ≤ s.length
  | 0, s, x, hx => by
    obtain rfl : x = s := by simpa [Lib.splitK] using hx
    exact Nat.le_refl _
  | k + 1, s, x, hx => by
    rw [Lib.splitK] at hx
    split at hx
    · obtain rfl : x = s := by simpa using hx
      exact Nat.le_refl _
    · rcases List.mem_cons.1 hx with rfl | hx
      · rw [List.length_take]; exact Nat.min_le_right _ _
      · exact Nat.le_trans (splitK_len t k _ x hx) (by rw [List.length_drop]; omega)
theorem spl_getD_len (t : List UInt8) (n : Nat) (s : List UInt8) (i : Nat) : ((spl t n s).getD i []).length ≤ s.length := by
  rw [List.getD_eq_getElem?_getD]
  cases h : (spl t n s)[i]? with
  | none => exact Nat.zero_le _
  | some x => exact splitK_len t _ s x (List.mem_of_getElem? h)

theorem tp_len (s p : List UInt8) : (Lib.trimPrefix s p).length ≤ s.length := by
  unfold Lib.trimPrefix; split
  · rw [List.length_drop]; omega
  · exact Nat.le_refl _
theorem ts_len (s p : List UInt8) : (Lib.trimSuffix s p).length ≤ s.length := by
  unfold Lib.trimSuffix; split
  · rw [List.length_take]; omega
  · exact Nat.le_refl _

set_option maxRecDepth 100000 in
set_option maxHeartbeats 1000000 in
theorem readMail (s : ByteArray) (hs : s.size ≤ 140737488355328) (w : World) :
    Calls Tryd.prog 50 #[.string s] w fun e w' => ∃ a cap, e = .returned (.agg #[.string (mbl (rd s.data.toList)).1, .string (mbl (rd s.data.toList)).2.1, .string (mbl (rd s.data.toList)).2.2.1, .slice a (mbl (rd s.data.toList)).2.2.2.length cap]) ∧ Bya w' a (mbl (rd s.data.toList)).2.2.2 cap ∧ Nw w a ∧ Below w.heap.size w w' := by
  have hsx := fun W => splitSix s W hs
  have hR : ∀ ps, bts ps = spl [10] 6 s.data.toList → mbl (rd s.data.toList) = (⟨(Lib.trimPrefix (ps.getD 0 ByteArray.empty).data.toList kF).toArray⟩, ⟨(Lib.trimPrefix (ps.getD 1 ByteArray.empty).data.toList kS).toArray⟩, ⟨(Lib.trimSuffix (Lib.trimPrefix (ps.getD 2 ByteArray.empty).data.toList kI) [62]).toArray⟩, (dcd (ps.getD 5 ByteArray.empty).data.toList).getD []) := fun ps h => by
    simp only [getD_bts, h]; rfl
  have hL : ∀ ps, bts ps = spl [10] 6 s.data.toList → ∀ i, (ps.getD i ByteArray.empty).size ≤ 140737488355328 := fun ps h i => by
    rw [Lib.size_eq, getD_bts, h]
    exact Nat.le_trans (spl_getD_len _ _ _ _) (by rw [← Lib.size_eq]; exact hs)
  obtain ⟨M, hM⟩ : ∃ M, mbl (rd s.data.toList) = M := ⟨_, rfl⟩
  rw [hM] at hR ⊢
  have HR : Hid _ := hR
  have HL : Hid _ := hL
  clear hM hR hL hs
  have hcp : ∀ (ps : List ByteArray) (N : Nat), ps.length ≤ 6 → ps.length ≤ N → ∃ W4, (Builtin.copy_ #[83, 83] 3 #[.slice (some ⟨w.heap.size + 1, 0, none⟩) 6 6, .slice (some ⟨w.heap.size + 2, 0, none⟩) ps.length N]).run Tryd.prog (((w.alloc (.cells #[.string ⟨#[]⟩, .string ⟨#[]⟩, .string ⟨#[]⟩, .slice none 0 0] 51)).alloc (.cells #[.string ⟨#[]⟩, .string ⟨#[]⟩, .string ⟨#[]⟩, .string ⟨#[]⟩, .string ⟨#[]⟩, .string ⟨#[]⟩] 131)).drew.alloc (.cells (Lib.cellsOf ps N) 9)) = .ok (.int .i64 ps.length) W4 ∧ Below w.heap.size w W4 ∧ w.heap.size + 2 < W4.heap.size ∧
      W4.heap[w.heap.size]? = some (.cells #[.string ⟨#[]⟩, .string ⟨#[]⟩, .string ⟨#[]⟩, .slice none 0 0] 51 (0, 0)) ∧
      W4.cell? ⟨w.heap.size + 1, 0, none⟩ = some (.string (ps.getD 0 ByteArray.empty)) ∧ W4.cell? ⟨w.heap.size + 1, 1, none⟩ = some (.string (ps.getD 1 ByteArray.empty)) ∧ W4.cell? ⟨w.heap.size + 1, 2, none⟩ = some (.string (ps.getD 2 ByteArray.empty)) ∧ W4.cell? ⟨w.heap.size + 1, 5, none⟩ = some (.string (ps.getD 5 ByteArray.empty)) := by
    intro ps N h6 hN
    have b1 := below_alloc w (.cells #[.string ⟨#[]⟩, .string ⟨#[]⟩, .string ⟨#[]⟩, .slice none 0 0] 51)
    have g1 := heap_alloc_new w (.cells #[.string ⟨#[]⟩, .string ⟨#[]⟩, .string ⟨#[]⟩, .slice none 0 0] 51)
    have s1 : (w.alloc (.cells #[.string ⟨#[]⟩, .string ⟨#[]⟩, .string ⟨#[]⟩, .slice none 0 0] 51)).heap.size = w.heap.size + 1 := by simp
    generalize w.alloc (.cells #[.string ⟨#[]⟩, .string ⟨#[]⟩, .string ⟨#[]⟩, .slice none 0 0] 51) = W1 at b1 g1 s1 ⊢
    have b2 := below_alloc W1 (.cells #[.string ⟨#[]⟩, .string ⟨#[]⟩, .string ⟨#[]⟩, .string ⟨#[]⟩, .string ⟨#[]⟩, .string ⟨#[]⟩] 131)
    have g2 := heap_alloc_new W1 (.cells #[.string ⟨#[]⟩, .string ⟨#[]⟩, .string ⟨#[]⟩, .string ⟨#[]⟩, .string ⟨#[]⟩, .string ⟨#[]⟩] 131)
    have s2 : (W1.alloc (.cells #[.string ⟨#[]⟩, .string ⟨#[]⟩, .string ⟨#[]⟩, .string ⟨#[]⟩, .string ⟨#[]⟩, .string ⟨#[]⟩] 131)).heap.size = w.heap.size + 2 := by simp [s1]
    generalize W1.alloc (.cells #[.string ⟨#[]⟩, .string ⟨#[]⟩, .string ⟨#[]⟩, .string ⟨#[]⟩, .string ⟨#[]⟩, .string ⟨#[]⟩] 131) = W2 at b2 g2 s2 ⊢
    have b3 : Below W2.heap.size W2 W2.drew := ⟨rfl, rfl, rfl, Nat.le_refl _, fun _ _ => rfl⟩
    have g3 := heap_alloc_new W2.drew (.cells (Lib.cellsOf ps N) 9)
    have s3 : W2.drew.heap.size = w.heap.size + 2 := s2
    have b4 := below_alloc W2.drew (.cells (Lib.cellsOf ps N) 9)
    have s4 : (W2.drew.alloc (.cells (Lib.cellsOf ps N) 9)).heap.size = w.heap.size + 3 := by simp [s3]
    generalize W2.drew.alloc (.cells (Lib.cellsOf ps N) 9) = W3 at g3 b4 s4 ⊢
    have b24 : Below W2.heap.size W2 W3 := b3.trans b4
    have d := blk_below b24 (by rw [s2]; omega) (s1 ▸ g2)
    have c := blk_below ((b2.trans (b24.mono b2.size))) (by rw [s1]; omega) g1
    rw [s3] at g3
    refine ⟨_, copy6 ps (w.heap.size + 2) N (w.heap.size + 1) W3 h6 ?_ d 3, ?_, ?_, ?_, ?_, ?_, ?_, ?_⟩
    · intro j u hj
      have hjl : j < ps.length := by
        have := (List.getElem?_eq_some_iff.1 hj).1
        rwa [List.length_map] at this
      have ha : (⟨w.heap.size + 2, 0, none⟩ : Addr).add j = ⟨w.heap.size + 2, j, none⟩ := by
        by_cases h0 : j = 0
        · subst h0; rfl
        · simp [Addr.add, h0]
      rw [ha, Lib.cell_of_heap g3, cellsOf_at ps N j hjl]
      rw [List.getElem?_map] at hj
      simp [hjl] at hj ⊢
      exact hj
    · exact (b1.trans ((b2.trans (b24.mono b2.size)).mono b1.size)).trans ⟨rfl, rfl, rfl, by simp, fun k hk => setRow_other _ _ _ _ (by omega)⟩
    · simp [s4]
    · rw [setRow_other _ _ _ _ (by omega)]; exact c
    all_goals rw [Lib.cell_of_heap (setRow_heap _ _ _ _ _ _ d)]; rfl
  have HCP : Hid (∀ (ps : List ByteArray) (N : Nat), ps.length ≤ 6 → ps.length ≤ N → ∃ W4, (Builtin.copy_ #[83, 83] 3 #[.slice (some ⟨w.heap.size + 1, 0, none⟩) 6 6, .slice (some ⟨w.heap.size + 1 + 1, 0, none⟩) ps.length N]).run Tryd.prog ((((w.alloc (.cells #[.string ⟨#[]⟩, .string ⟨#[]⟩, .string ⟨#[]⟩, .slice none 0 0] 51)).alloc (.cells #[.string ⟨#[]⟩, .string ⟨#[]⟩, .string ⟨#[]⟩, .string ⟨#[]⟩, .string ⟨#[]⟩, .string ⟨#[]⟩] 131)).alloc (.cells (Lib.cellsOf ps N) 9)).drew) = .ok (.int .i64 ps.length) W4 ∧ Below w.heap.size w W4 ∧ w.heap.size + 2 < W4.heap.size ∧
      W4.heap[w.heap.size]? = some (.cells #[.string ⟨#[]⟩, .string ⟨#[]⟩, .string ⟨#[]⟩, .slice none 0 0] 51 (0, 0)) ∧
      W4.cell? ⟨w.heap.size + 1, 0, none⟩ = some (.string (ps.getD 0 ByteArray.empty)) ∧ W4.cell? ⟨w.heap.size + 1, 1, none⟩ = some (.string (ps.getD 1 ByteArray.empty)) ∧ W4.cell? ⟨w.heap.size + 1, 2, none⟩ = some (.string (ps.getD 2 ByteArray.empty)) ∧ W4.cell? ⟨w.heap.size + 1, 5, none⟩ = some (.string (ps.getD 5 ByteArray.empty))) := hcp
  clear hcp
  go_enter Tryd.func50, Tryd.ntmps50
  go_upto_region 2 with fail
  refine wp_region_held_drew (S := fun _ => True) (by kernel_rfl) trivial (fun hHeld => ?_)
  refine wpAnyH_take (i := 0) (v := ?_) rfl (by kernel_rfl) (by kernel_rfl) (by kernel_rfl) (fun _ _ _ h => h) (Or.inl ⟨by rfl, ?_⟩) (by assumption) ?_
  rotate_left
  · intro w' hSw
    go_simp
    try with_reducible rfl
  simp only [Act.put, List.getElem_toArray, List.getElem_cons_zero, List.setIfInBounds_toArray, List.set_cons_zero, List.set_cons_succ]
  refine wpAnyH_take (i := 1) (v := ?_) rfl (by kernel_rfl) (by kernel_rfl) (by kernel_rfl) (fun _ _ _ h => h) (Or.inl ⟨by rfl, ?_⟩) (by assumption) ?_
  rotate_left
  · intro w' hSw
    go_simp
    try with_reducible rfl
  simp only [Act.put, List.getElem_toArray, List.getElem_cons_zero, List.getElem_cons_succ, List.setIfInBounds_toArray, List.set_cons_zero, List.set_cons_succ]
  refine wpAnyH_ready (rs := [2]) (by kernel_rfl) (by simp) ?_
  refine AllReadyH.cons rfl (fun K hK => ?_) AllReadyH.nil
  go_simp
  go_at_call 70; refine (hsx _).mono ?_; rintro e w3 ⟨ps, N, rfl, hps, hp1, hpN, hN6, rfl⟩
  go_wp2_with fail
  refine hK.out _ _ trivial (fun hHeld => ?_)
  clear hK K
  obtain ⟨W4, hcp, hb4, hz4, hm4, c0, c1, c2, c5⟩ := HCP.out ps N (by omega) hpN
  refine wpAnyH_ready (rs := [3]) (by kernel_rfl) (by simp) ?_
  refine AllReadyH.cons rfl (fun K hK => ?_) AllReadyH.nil
  go_simp
  refine hK.out _ _ trivial (fun hHeld => ?_)
  clear hK K
  refine wpAnyH_done (by kernel_rfl) ?_ _
  have hM := HR.out ps hps
  have hL := HL.out ps hps
  obtain ⟨p0, hp0⟩ : ∃ p, ps.getD 0 ByteArray.empty = p := ⟨_, rfl⟩
  obtain ⟨p1, hp1⟩ : ∃ p, ps.getD 1 ByteArray.empty = p := ⟨_, rfl⟩
  obtain ⟨p2, hp2⟩ : ∃ p, ps.getD 2 ByteArray.empty = p := ⟨_, rfl⟩
  obtain ⟨p5, hp5⟩ : ∃ p, ps.getD 5 ByteArray.empty = p := ⟨_, rfl⟩
  have l0 := hL 0
  have l1 := hL 1
  have l2 := hL 2
  have l5 := hL 5
  rw [hp0] at hM c0 l0
  rw [hp1] at hM c1 l1
  rw [hp2] at hM c2 l2
  rw [hp5] at hM c5 l5
  have t0 := fun W => Tryd.strings_TrimPrefix p0 ⟨#[70, 114, 111, 109, 58, 32]⟩ W
  have t1 := fun W => Tryd.strings_TrimPrefix p1 ⟨#[83, 117, 98, 106, 101, 99, 116, 58, 32]⟩ W
  have t2 := fun W => Tryd.strings_TrimPrefix p2 ⟨#[77, 101, 115, 115, 97, 103, 101, 45, 73, 68, 58, 32, 60]⟩ W
  have z0 : (⟨(Lib.trimPrefix p0.data.toList kF).toArray⟩ : ByteArray).size ≤ 140737488355328 := Nat.le_trans (by rw [Lib.size_eq]; exact tp_len _ _) (by rw [← Lib.size_eq]; exact l0)
  have z1 : (⟨(Lib.trimPrefix p1.data.toList kS).toArray⟩ : ByteArray).size ≤ 140737488355328 := Nat.le_trans (by rw [Lib.size_eq]; exact tp_len _ _) (by rw [← Lib.size_eq]; exact l1)
  have z2 : (⟨(Lib.trimPrefix p2.data.toList kI).toArray⟩ : ByteArray).size ≤ 140737488355328 := Nat.le_trans (by rw [Lib.size_eq]; exact tp_len _ _) (by rw [← Lib.size_eq]; exact l2)
  obtain ⟨F, hF⟩ : ∃ F : ByteArray, (⟨(Lib.trimPrefix p0.data.toList kF).toArray⟩ : ByteArray) = F := ⟨_, rfl⟩
  obtain ⟨S, hS⟩ : ∃ F : ByteArray, (⟨(Lib.trimPrefix p1.data.toList kS).toArray⟩ : ByteArray) = F := ⟨_, rfl⟩
  obtain ⟨I, hI⟩ : ∃ F : ByteArray, (⟨(Lib.trimPrefix p2.data.toList kI).toArray⟩ : ByteArray) = F := ⟨_, rfl⟩
  rw [show ((⟨#[70, 114, 111, 109, 58, 32]⟩ : ByteArray).data.toList) = kF from rfl, hF] at t0
  rw [show ((⟨#[83, 117, 98, 106, 101, 99, 116, 58, 32]⟩ : ByteArray).data.toList) = kS from rfl, hS] at t1
  rw [show ((⟨#[77, 101, 115, 115, 97, 103, 101, 45, 73, 68, 58, 32, 60]⟩ : ByteArray).data.toList) = kI from rfl, hI] at t2
  have hIl : Lib.trimPrefix p2.data.toList kI = I.data.toList := by rw [← hI]
  rw [hF] at hM z0
  rw [hS] at hM z1
  rw [hIl] at hM
  rw [hI] at z2
  have t3 := fun W => Tryd.strings_TrimSuffix I ⟨#[62]⟩ W (by omega)
  have z3 : (⟨(Lib.trimSuffix I.data.toList [62]).toArray⟩ : ByteArray).size ≤ 140737488355328 := Nat.le_trans (by rw [Lib.size_eq]; exact ts_len _ _) (by rw [← Lib.size_eq]; exact z2)
  obtain ⟨D, hD⟩ : ∃ F : ByteArray, (⟨(Lib.trimSuffix I.data.toList [62]).toArray⟩ : ByteArray) = F := ⟨_, rfl⟩
  rw [show ((⟨#[62]⟩ : ByteArray).data.toList) = [62] from rfl, hD] at t3
  rw [hD] at hM z3
  have hdc := fun W => decodeU p5 l5 W
  obtain ⟨X, hX⟩ : ∃ X, (dcd p5.data.toList).getD [] = X := ⟨_, rfl⟩
  rw [hX] at hM hdc
  have k0 := fun W => clone F W (by omega)
  have k1 := fun W => clone S W (by omega)
  have k3 := fun W => clone D W (by omega)
  have HM : Hid (M = (F, S, D, X)) := hM
  have HB4 : Hid (Below w.heap.size w W4) := hb4
  have HM4 : Hid _ := hm4
  have hC4 : w.heap.size < W4.heap.size := by omega
  have e2 : w.heap.size + 1 + 1 = w.heap.size + 2 := rfl
  clear hM hL hp0 hp1 hp2 hp5 l0 l1 l2 l5 z0 z1 z2 z3 hF hS hI hD hX hIl hps hpN hN6 hcp hHeld HR HL HCP hb4 hm4 e2 hz4 hsx
  go_wp2_with (first
    | (go_at_call 71; refine (t0 _).mono ?_; clear t0; rintro e w5 ⟨rfl, rfl⟩)
    | (go_at_call 71; refine (t1 _).mono ?_; clear t1; rintro e w5 ⟨rfl, rfl⟩)
    | (go_at_call 71; refine (t2 _).mono ?_; clear t2; rintro e w5 ⟨rfl, rfl⟩)
    | (go_at_call 72; refine (t3 _).mono ?_; clear t3; rintro e w5 ⟨rfl, rfl⟩)
    | (go_at_call 15; refine (hdc _).mono ?_; clear hdc; rintro e w6 ⟨a6, c6, E6, rfl, hy6, hn6, hb6⟩)
    | (go_at_call 73; refine (k0 _).mono ?_; clear k0; rintro e w7 ⟨rfl, hb7⟩)
    | (go_at_call 73; refine (k1 _).mono ?_; clear k1; rintro e w8 ⟨rfl, hb8⟩)
    | (go_at_call 73; refine (k3 _).mono ?_; clear k3))
  rintro e w9 ⟨rfl, hb9⟩
  have hb79 := hb7.trans ((hb8.trans (hb9.mono hb8.size)).mono hb7.size)
  have hb59 := hb6.trans (hb79.mono hb6.size)
  have hblk9 := blk_below hb59 hC4 HM4.out
  have HB9 : Below w.heap.size w w9 := HB4.out.trans (hb59.mono HB4.out.size)
  obtain ⟨u1, u2, u3⟩ := put_four (x := .string F) (y := .string S) (z := .string D) (u := .slice a6 X.length c6) hblk9 HB9
  have HY9 : Hid _ := (hy6.all hb79).other hblk9 u2
  have HN6 : Hid (Nw w a6) := fun A hA => Nat.le_trans HB4.out.size (hn6 A hA)
  have c0 := Lib.cell_of_heap hblk9 0
  have c1 := Lib.cell_of_heap hblk9 1
  have c2 := Lib.cell_of_heap hblk9 2
  have c3 := Lib.cell_of_heap hblk9 3
  have f0 := Lib.frozen_of_heap hblk9 0
  have f1 := Lib.frozen_of_heap hblk9 1
  have f2 := Lib.frozen_of_heap hblk9 2
  have f3 := Lib.frozen_of_heap hblk9 3
  have q0 := Lib.cell_of_heap u1 0
  have q1 := Lib.cell_of_heap u1 1
  have q2 := Lib.cell_of_heap u1 2
  have q3 := Lib.cell_of_heap u1 3
  simp at c0 c1 c2 c3 q0 q1 q2 q3
  replace u3 : Hid _ := u3
  clear hb6 hb7 hb8 hb9 hb79 hb59 hblk9 HB9 u1 u2 hy6 hn6 HM4 HB4 hC4
  go_wp2
  refine bodyPost_ret (v := .agg #[.string F, .string S, .string D, .slice a6 X.length c6]) (by simp [results, Tryd.results50, go_sem, q0, q1, q2, q3]) rfl ?_
  rw [HM.out]
  exact ⟨a6, c6, rfl, HY9.out, HN6.out, u3.out⟩

end Go.Proofs.YtppmpofdhkgjmafDoor
