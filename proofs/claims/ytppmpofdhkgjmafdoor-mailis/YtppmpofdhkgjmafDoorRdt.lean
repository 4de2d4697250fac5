/-
  Walk of base64.read: letters as bytes, four by four.
-/
import Derived.Test.YtppmpofdhkgjmafDoorEnc
import Derived.Test.YtppmpofdhkgjmafDoorRpl
import Derived.Test.YtppmpofdhkgjmafDoorUfd
import Derived.Laws.IdiomStrings

namespace Go.Proofs.YtppmpofdhkgjmafDoor
open Go.RowKit Go.Shelf Dist
attribute [local go_sem] Oper.semAt_some

/-- A text as bytes. -/
theorem conv_bytes (x : List UInt8) (W : World) : ∃ cap W', (convert 9 39 (.string ⟨x.toArray⟩)).run Tryd.prog W = .ok (.slice (some ⟨W.heap.size, 0, none⟩) x.length cap) W' ∧ x.length ≤ cap ∧ Byt W' W.heap.size 0 x ∧ (∀ i, i < x.length → W'.frozen? ⟨W.heap.size, i, none⟩ = false) ∧ Below W.heap.size W W' ∧ W'.heap.size = W.heap.size + 1 := by
  have h := run_bytes_of_string (P := Tryd.prog) W 9 39 5 ⟨x.toArray⟩ Tryd.underlying9 Tryd.underlying39 Tryd.underlying5
  have hx : (⟨x.toArray⟩ : ByteArray).size = x.length := by simp [ByteArray.size]
  have hge := grownCap_ge W (⟨x.toArray⟩ : ByteArray).size 0 5
  rw [hx] at h hge
  have hrow : ∀ i, i < x.length → (bytesRow ⟨x.toArray⟩ (grownCap W x.length 0 5))[i]? = some (.int .u8 ((x.getD i 0).toNat : Int)) := fun i hi => by
    unfold bytesRow
    rw [Array.getElem?_append_left (by simpa using hi)]
    simp [hi]
  have hnew := heap_alloc_new W.drew (.cells (bytesRow ⟨x.toArray⟩ (grownCap W x.length 0 5)) 5 ((bytesRow ⟨x.toArray⟩ (grownCap W x.length 0 5)).size, (bytesRow ⟨x.toArray⟩ (grownCap W x.length 0 5)).size + 1))
  refine ⟨_, _, h, hge, byt_of_row hnew hrow, ?_, (Below.drew (Below.refl _ W)).alloc (Nat.le_refl _) _, by rw [World.size_alloc]; rfl⟩
  intro i hi
  have hlt : i < (bytesRow ⟨x.toArray⟩ (grownCap W x.length 0 5)).size := (Array.getElem?_eq_some_iff.1 (hrow i hi)).1
  clear h hge hrow hx
  generalize bytesRow ⟨x.toArray⟩ (grownCap W x.length 0 5) = R at hlt hnew ⊢
  have hnew' : (W.drew.alloc (.cells R 5 (R.size, R.size + 1))).heap[W.heap.size]? = some (.cells R 5 (R.size, R.size + 1)) := hnew
  simp only [World.frozen?, hnew']
  simp
  omega

/-- A row of bytes that a variable holds. -/
def Hrow (B b : Nat) (l : List UInt8) (W : World) : Prop := ∃ v, Boxed W b 39 v ∧ W.ownsRow B 5 1 v l.length (u8s l)
theorem hrow_own {β : Type} (B0 B b : Nat) (f : β → List UInt8) : OwnFrom B0 (fun s W => Hrow B b (f s) W) := by
  have h := holdsRow_own B b 39 5 1 (fun s : β => (f s).length) (fun s => u8s (f s)) (fun _ _ => True)
  intro s X Y row ⟨v, h1, h2⟩ hg hr
  obtain ⟨v', k1, k2, _⟩ := h s X Y row ⟨v, h1, h2, trivial⟩ hg (fun r e => (hr r e).2)
  exact ⟨v', k1, k2⟩

/-- All blocks below B but b lie as they lay. -/
def Kb (B b : Nat) (W W' : World) : Prop := W.heap.size ≤ W'.heap.size ∧ ∀ k, k < B → k ≠ b → W'.heap[k]? = W.heap[k]?
theorem Kb.refl (B b : Nat) (W : World) : Kb B b W W := ⟨Nat.le_refl _, fun _ _ _ => rfl⟩
theorem Kb.trans {B b : Nat} {X Y Z : World} (h : Kb B b X Y) (k : Kb B b Y Z) : Kb B b X Z := ⟨Nat.le_trans h.1 k.1, fun i hi hb => (k.2 i hi hb).trans (h.2 i hi hb)⟩
theorem Kb.of_below {B b : Nat} {X Y : World} (h : Below B X Y) : Kb B b X Y := ⟨h.size, fun k hk _ => h.block k hk⟩
theorem kb_own {β : Type} {B b : Nat} {W : World} (hB : B ≤ W.heap.size) : OwnFrom B (fun (_ : β) W' => Kb B b W W') := by
  rintro _ X Y row hs hg hr
  refine ⟨Nat.le_trans hs.1 hg.size, fun k hk hb => ?_⟩
  have h3 := hs.1
  refine (hg.block k (by omega) (fun e => ?_)).trans (hs.2 k hk hb)
  have h1 := (hr k e.symm).1
  omega

theorem bya_of_own {W : World} {B : Nat} {ao : Option Addr} {n cap : Nat} {l : List UInt8} (h : W.ownsRow B 5 1 (.slice ao n cap) l.length (u8s l)) : n = l.length ∧ Bya W ao l cap := by
  rcases h.2 with ⟨hv, h0⟩ | ⟨g, cap', cur, hv, _, hg, hnc, _⟩
  · cases hv
    exact ⟨h0.symm, .inl ⟨h0, fun _ => rfl⟩⟩
  · cases hv
    refine ⟨rfl, .inr ⟨g, 0, rfl, hnc, fun i hi => ?_⟩⟩
    have hc := h.cells (g := g) rfl i (.int .u8 ((l.getD i 0).toNat : Int)) (by simp [u8s, hi])
    have ha : (⟨g, 0, none⟩ : Addr).add i = ⟨g, 0 + i, none⟩ := by
      by_cases h0 : i = 0
      · subst h0; rfl
      · simp [Addr.add, h0]
    rw [ha] at hc
    exact hc
/-- Where it lies is new. -/
def Nw (w : World) (a : Option Addr) : Prop := ∀ A, a = some A → w.heap.size ≤ A.block
theorem new_of_own {W : World} {B : Nat} {e : TypeId} {k : Nat} {ao : Option Addr} {n cap m : Nat} {xs : List Value} (h : W.ownsRow B e k (.slice ao n cap) m xs) : ∀ A, ao = some A → B ≤ A.block := by
  intro A hA
  rcases h.2 with ⟨hv, _⟩ | ⟨g, cap', cur, hv, hB, _⟩
  · cases hv; cases hA
  · cases hv; cases hA; exact hB
theorem Byt.kb {B b : Nat} {W W' : World} {g off : Nat} {l : List UInt8} (h : Byt W g off l) (hk : Kb B b W W') (h1 : g < B) (h2 : g ≠ b) : Byt W' g off l := fun i hi => (World.cell?_of_block (w := W) (a := ⟨g, off + i, none⟩) (hk.2 g h1 h2)).trans (h i hi)

/-- What is copied into four. -/
theorem copy4 (t : List UInt8) (g o c d : Nat) (w : World) (h4 : t.length ≤ 4) (hb : Byt w g o t) (hd : w.heap[d]? = some (.cells #[.int .u8 0, .int .u8 0, .int .u8 0, .int .u8 0] 92 (0, 0))) (ty : TypeId) :
    (Builtin.copy_ #[39, 39] ty #[.slice (some ⟨d, 0, none⟩) 4 4, .slice (some ⟨g, o, none⟩) t.length c]).run Tryd.prog w = .ok (.int .i64 t.length) (w.setRow d #[.int .u8 ((fil t).getD 0 0).toNat, .int .u8 ((fil t).getD 1 0).toNat, .int .u8 ((fil t).getD 2 0).toNat, .int .u8 ((fil t).getD 3 0).toNat]) := by
  have h := run_copy_row (P := Tryd.prog) w 39 39 ty 5 d 0 4 4 ⟨g, o, none⟩ t.length c #[.int .u8 0, .int .u8 0, .int .u8 0, .int .u8 0] 92 (u8s t) Tryd.underlying39 (by kernel_rfl) hd (by rw [u8s_len]; exact (Nat.min_eq_left h4).symm) hb.get (by rw [u8s_len]; simpa using h4) (u8s_one t)
  have e : ((#[Value.int .u8 0, .int .u8 0, .int .u8 0, .int .u8 0] : Array Value).toList.take 0 ++ u8s t ++ (#[Value.int .u8 0, .int .u8 0, .int .u8 0, .int .u8 0] : Array Value).toList.drop (0 + (u8s t).length)).toArray = #[.int .u8 ((fil t).getD 0 0).toNat, .int .u8 ((fil t).getD 1 0).toNat, .int .u8 ((fil t).getD 2 0).toNat, .int .u8 ((fil t).getD 3 0).toNat] := by
    clear h hd hb
    match t, h4 with
    | [], _ => simp [u8s, fil]
    | [x], _ => simp [u8s, fil]
    | [x, y], _ => simp [u8s, fil]
    | [x, y, z], _ => simp [u8s, fil]
    | [x, y, z, v], _ => simp [u8s, fil]
  rw [h, e, u8s_len]; rfl
theorem fil_four {t : List UInt8} (h4 : t.length ≤ 4) : fil t = [(fil t).getD 0 0, (fil t).getD 1 0, (fil t).getD 2 0, (fil t).getD 3 0] := by
  match t, h4 with
  | [], _ => rfl
  | [x], _ => rfl
  | [x, y], _ => rfl
  | [x, y, z], _ => rfl
  | [x, y, z, v], _ => rfl

/-- An append in a round, where its run is known by an equation. -/
theorem opIn_append_run {F : Fence} {n : Nat} {P : Program} {w : World} {o : Oper} {a : Act} {K : Act → World → Prop} {Q : Exit → Act → World → Prop} (s x : Operand) (t : TypeId)
    (ho : o.op = .call { callee := .builtin .append, args := #[s, x], argTypes := #[t, t] }) (v u : Value) (hs : a.eval s = v) (hx : a.eval x = u) {v' : Value} {w' : World}
    (hr : (Builtin.append_ #[t, t] o.type #[v, u]).run P w = .ok v' w') (h : K (a.put o.dst v') w') : o.wpIn F n P a w K Q := by
  unfold Oper.wpIn
  refine ⟨?_, ?_⟩
  · simp [Oper.about, ho, resolve, Target.leads, Sem.run_pure]
  · rw [Oper.semAt_plain F _ _ (by rw [ho]; intro c hc'; cases hc')]
    simp [execOp, ho, resolve, invoke, builtin, hs, hx, hr, Result.andThen]
    exact h

set_option maxRecDepth 100000 in
set_option maxHeartbeats 1000000 in
theorem readInN (n : Nat) (hn : 8 ≤ n) (s : ByteArray) (hs : s.size ≤ 140737488355328) (w : World) :
    CallsIn Fence.wide n Tryd.prog 41 #[.string s] w fun e w' => ∃ a cap, e = .returned (.slice a (rdb s.data.toList).length cap) ∧ Bya w' a (rdb s.data.toList) cap ∧ Nw w a ∧ Below w.heap.size w w' := by
  have h1 : 1 ≤ n := by omega
  refine callsIn_of_wp_marks Tryd.func41 rfl trivial ?_ rfl
  simp only [Tryd.ntmps41, List.size_toArray, List.length_cons, List.length_nil, Nat.reduceAdd, Nat.reduceSub, Array.replicate_succ, Array.replicate_zero, List.push_toArray, List.append_toArray, List.nil_append, List.cons_append]
  gi_wp2_with (first | (refine ⟨trivial, ?_⟩; gi_at_call 66; refine (callsIn_wide.2 (replaceAll s hs _)).mono ?_; rintro e w' ⟨rfl, hb1⟩; obtain ⟨cp, w2, hcv, hcp, hby, _, hb2, hs2⟩ := conv_bytes (no10 s.data.toList) w') | (refine ⟨trivial, ?_⟩; gi_at_call 35; refine (callsIn_wide.2 (chunk (some ⟨w'.heap.size, 0, none⟩) (no10 s.data.toList).length cp 4 (by omega) _)).mono ?_; rintro e w3 ⟨rfl, rfl⟩))
  have hB1 := below_alloc w (.cells #[.slice none 0 0] 39)
  have hs0 : (w.alloc (.cells #[.slice none 0 0] 39)).heap.size = w.heap.size + 1 := World.size_alloc _ _
  have hs1 := hb1.size
  have bO : Boxed w2 w.heap.size 39 (.slice none 0 0) := (hb2.block _ (by omega)).trans ((hb1.block _ (by omega)).trans (heap_alloc_new w _))
  have bS := (Boxed.new w2 39 (.slice (some ⟨w'.heap.size, 0, none⟩) (no10 s.data.toList).length cp)).alloc (.cells #[.int .i64 4] 3)
  have bN := Boxed.new (w2.alloc (.cells #[.slice (some ⟨w'.heap.size, 0, none⟩) (no10 s.data.toList).length cp] 39)) 3 (.int .i64 4)
  simp only [World.size_alloc] at bN
  have hxl : (no10 s.data.toList).length ≤ 140737488355328 := Nat.le_trans (no10_le _) (by rw [← Lib.size_eq]; exact hs)
  have hRd : Hid (rdb s.data.toList = pca 4 (fun p => unf (fil p)) (no10 s.data.toList)) := rfl
  generalize no10 s.data.toList = x at hcv hcp hby bS bN hxl hRd ⊢
  clear hcv
  have bb : Below w2.heap.size w2 ((w2.alloc (.cells #[.slice (some ⟨w'.heap.size, 0, none⟩) x.length cp] 39)).alloc (.cells #[.int .i64 4] 3)) := ((Below.refl _ w2).alloc (Nat.le_refl _) _).alloc (by simp) _
  have hsz : ((w2.alloc (.cells #[.slice (some ⟨w'.heap.size, 0, none⟩) x.length cp] 39)).alloc (.cells #[.int .i64 4] 3)).heap.size = w2.heap.size + 2 := by simp
  obtain ⟨W0, hW0⟩ : ∃ W0, (w2.alloc (.cells #[.slice (some ⟨w'.heap.size, 0, none⟩) x.length cp] 39)).alloc (.cells #[.int .i64 4] 3) = W0 := ⟨_, rfl⟩
  rw [hW0] at bb bS bN hsz ⊢
  clear hW0
  replace bO : Boxed W0 w.heap.size 39 (.slice none 0 0) := (bb.block _ (by omega)).trans bO
  have hB0 : Below w.heap.size w W0 := ((hB1.trans (hb1.mono (by omega))).trans (hb2.mono (by omega))).trans (bb.mono (by omega))
  replace hby : Byt W0 w'.heap.size 0 x := hby.below bb (by omega)
  rw [hs2] at bS bN hsz
  refine wpIn_rangeFunc_ownH rfl h1 (gf := 63) (lb := #[.pointer (some ⟨w'.heap.size + 1, 0, none⟩), .pointer (some ⟨w'.heap.size + 1 + 1, 0, none⟩)]) rfl trivial (enters_of Tryd.func63 (by kernel_rfl) rfl)
    (chunk_stops (n - 1) (by omega) (w'.heap.size + 1) (w'.heap.size + 1 + 1) (some ⟨w'.heap.size, 0, none⟩) x.length cp 4 (by omega) (by omega) (by omega) (.inr ⟨_, _, rfl, hcp⟩) W0 (by omega) (by omega) bS.cell bN.cell)
    (fun h k => Two.trans h k) (Two.put (by omega) (by omega)) (Below.refl _ _) (fun _ => rfl)
    (fun pre W => Hrow W0.heap.size w.heap.size (pre.flatMap fun k => unf (fil (pce 4 x k.1))) W ∧ Below w.heap.size w W ∧ Kb W0.heap.size w.heap.size W0 W)
    (fun _ _ _ => False)
    (OwnFrom.and (hrow_own _ _ _ _) (OwnFrom.and (ownFrom_below (Nat.le_refl _) (by omega)) (kb_own (Nat.le_refl _))))
    (fun _ _ _ _ _ hs _ _ => hs)
    ⟨⟨_, bO, World.ownsRow_nil _ _ _ _⟩, hB0, Kb.refl _ _ _⟩
    (fun y a' _ => a' = { tmps := #[.string s, undef, .slice none 0 0, .pointer (some ⟨w.heap.size, 0, none⟩), pcw (some ⟨w'.heap.size, 0, none⟩) 4 x.length y.1, undef, .string s, .string ⟨x.toArray⟩, .slice (some ⟨w'.heap.size, 0, none⟩) x.length cp, .func (.func 63) #[] #[.pointer (some ⟨w'.heap.size + 1, 0, none⟩), .pointer (some ⟨w'.heap.size + 1 + 1, 0, none⟩)], pcw (some ⟨w'.heap.size, 0, none⟩) 4 x.length y.1, undef, undef, undef, undef, undef, undef, undef, undef], defers := [] })
    (fun _ _ _ _ _ _ hs _ _ => hs)
    ?assign ?body ?done ?stop
  case assign =>
    rintro l2 pre y W K hI hK
    gi_wp2
    exact hK _ _ (KeepsFrom.refl _ _) (Two.refl _ _ _) hI rfl
  case body =>
    rintro l2 pre y a' W hl2 ⟨r, hr⟩ ⟨⟨v, bV, hown⟩, hBW, hKb⟩ rfl hlt
    have hyk : y.1 * 4 < x.length := (pcn_lt (by omega)).1 y.2
    have hpl := pce_len 4 x y.1
    have hbt : Byt W w'.heap.size (0 + y.1 * 4) (pce 4 x y.1) := (hby.kb hKb (by omega) (by omega)).part _ _
    rw [pcw_some, ← hpl]
    have HACC : Hid ((pre ++ [y]).flatMap (fun k => unf (fil (pce 4 x k.1))) = pre.flatMap (fun k => unf (fil (pce 4 x k.1))) ++ unf (fil (pce 4 x y.1))) := by
      show (pre ++ [y]).flatMap (fun k => unf (fil (pce 4 x k.1))) = _
      rw [List.flatMap_append]; simp
    have hal : (pre.flatMap fun k => unf (fil (pce 4 x k.1))).length ≤ 3 * pre.length := flat_le _ 3 (fun k => unf_le _) pre
    have hpn : 4 * pre.length < 140737488355328 + 4 := by
      have h2 : pcn 4 x.length ≤ (140737488355328 + 3) / 4 := by unfold pcn; omega
      omega
    generalize hpc : pce 4 x y.1 = t at hbt hpl HACC ⊢
    generalize (pre.flatMap fun k => unf (fil (pce 4 x k.1))) = acc at hown hal HACC
    have ht1 : 1 ≤ t.length := by omega
    have ht4 : t.length ≤ 4 := by omega
    generalize 0 + y.1 * 4 = o2 at hbt ⊢
    clear hpc hyk hpl
    have h1' : 1 ≤ n - 1 - 1 := by omega
    have hsW := hKb.1
    obtain ⟨W5, hcp4, hb5, hs5, d0, d1, d2, d3⟩ : ∃ W5, (Builtin.copy_ #[39, 39] 3 #[.slice (some ⟨W.heap.size, 0, none⟩) 4 4, .slice (some ⟨w'.heap.size, o2, none⟩) t.length t.length]).run Tryd.prog (W.alloc (.cells #[.int .u8 0, .int .u8 0, .int .u8 0, .int .u8 0] 92)) = .ok (.int .i64 t.length) W5 ∧ Below W.heap.size W W5 ∧ W5.heap.size = W.heap.size + 1 ∧
        W5.cell? ⟨W.heap.size, 0, none⟩ = some (.int .u8 ((fil t).getD 0 0).toNat) ∧ W5.cell? ⟨W.heap.size, 1, none⟩ = some (.int .u8 ((fil t).getD 1 0).toNat) ∧ W5.cell? ⟨W.heap.size, 2, none⟩ = some (.int .u8 ((fil t).getD 2 0).toNat) ∧ W5.cell? ⟨W.heap.size, 3, none⟩ = some (.int .u8 ((fil t).getD 3 0).toNat) := by
      have hd := heap_alloc_new W (.cells #[.int .u8 0, .int .u8 0, .int .u8 0, .int .u8 0] 92)
      refine ⟨_, copy4 t w'.heap.size o2 t.length W.heap.size _ ht4 (hbt.all (below_alloc W _)) hd _, (below_alloc W _).trans ⟨rfl, rfl, rfl, by simp, fun k hk => setRow_other _ _ _ _ (by omega)⟩, by simp, ?_, ?_, ?_, ?_⟩
      all_goals rw [Lib.cell_of_heap (setRow_heap _ _ _ _ _ _ hd)]; rfl
    have hfl := fil_four ht4
    generalize (fil t).getD 0 0 = c0 at d0 hfl
    generalize (fil t).getD 1 0 = c1 at d1 hfl
    generalize (fil t).getD 2 0 = c2 at d2 hfl
    generalize (fil t).getD 3 0 = c3 at d3 hfl
    rw [hfl] at HACC
    have cV : W5.cell? ⟨w.heap.size, 0, none⟩ = some v := (hb5.cell (p := ⟨w.heap.size, 0, none⟩) (by have := hBW.size; have := bV.lt; omega)).trans bV.cell
    obtain ⟨i0, hi0, hz0, hz1, hz2⟩ := info_parts Tryd.info5
    have hWb := bV.lt
    have hBs := hBW.size
    have hBs0 := hB0.size
    have KV : Hid (∀ w6, Below W5.drew.heap.size W5.drew w6 → w6.cell? ⟨w.heap.size, 0, none⟩ = some v) := fun w6 h => (h.cell (p := ⟨w.heap.size, 0, none⟩) (by have : W5.drew.heap.size = W5.heap.size := rfl; show w.heap.size < _; omega)).trans cV
    have KA : Hid (∀ w6 g, Below W5.drew.heap.size W5.drew w6 → Byt w6 g 0 (unf [c0, c1, c2, c3]) → ∃ ao m cap w7, (Builtin.append_ #[39, 39] 39 #[v, .slice (some ⟨g, 0, none⟩) (unf [c0, c1, c2, c3]).length 3]).run Tryd.prog w6 = .ok (.slice ao m cap) w7 ∧ w7.cell? ⟨w.heap.size, 0, none⟩ = some v ∧ w7.frozen? ⟨w.heap.size, 0, none⟩ = false ∧
        Hid (Hrow W0.heap.size w.heap.size (acc ++ unf [c0, c1, c2, c3]) (w7.setCell ⟨w.heap.size, 0, none⟩ (.slice ao m cap)) ∧ Below w.heap.size W (w7.setCell ⟨w.heap.size, 0, none⟩ (.slice ao m cap)) ∧ Kb W0.heap.size w.heap.size W (w7.setCell ⟨w.heap.size, 0, none⟩ (.slice ao m cap)) ∧ KeepsFrom W0.heap.size W (w7.setCell ⟨w.heap.size, 0, none⟩ (.slice ao m cap)))) := by
      intro w6 g h hbg
      have h56 : Below W.heap.size W w6 := hb5.trans ((⟨h.os, h.tape, h.output, h.size, h.block⟩ : Below W5.heap.size W5 w6).mono (by omega))
      have hu := unf_le [c0, c1, c2, c3]
      have hown6 := own_all hown h56
      have hs6 := h56.size
      have hv6 : Boxed w6 w.heap.size 39 v := (h56.block _ hWb).trans bV
      obtain ⟨v', w7, hap, hown7, hg7, _⟩ := run_append_own (P := Tryd.prog) w6 W0.heap.size 39 39 5 i0 (.int .u8 0) 1 1 Tryd.underlying39 hi0 hz0 hz1 hz2 rfl (by decide) v acc.length (u8s acc) hown6 ⟨g, 0, none⟩ (unf [c0, c1, c2, c3]).length 3 (u8s (unf [c0, c1, c2, c3])) (by rw [u8s_len]; omega) hbg.get (u8s_one _) (by unfold maxLen; omega) (by omega) (by omega)
      obtain ⟨ao, m, cap, rfl⟩ : ∃ ao m cap, v' = .slice ao m cap := by
        rcases hown7.2 with ⟨hv, _⟩ | ⟨g, cap, cur, hv, _⟩
        · exact ⟨_, _, _, hv⟩
        · exact ⟨_, _, _, hv⟩
      have hv7 : Boxed w7 w.heap.size 39 v := hv6.kept hg7 (hv6.not_row (by decide) hown6)
      have hrow : ∀ k, v.ownBlock = some k → W0.heap.size ≤ k := fun k e => (hown6.lt k e).1
      refine ⟨ao, m, cap, w7, hap, hv7.cell, hv7.frozen, ⟨_, hv7.set _, ?_⟩, ?_, ?_, ?_⟩
      · rw [List.length_append, u8s_app]
        exact hown7.kept (grownBy_setCell' w7 _ _) (.inr (hv7.not_row (by decide) hown7).symm)
      · exact ((h56.mono (B' := w.heap.size) (by omega)).grown hg7 (by omega) (fun k e => by have := hrow k e; omega)).setCell (p := ⟨w.heap.size, 0, none⟩) (Nat.le_refl _) _
      · refine ⟨Nat.le_trans hs6 (Nat.le_trans hg7.size (by simp [World.setCell])), fun k hk hne => ?_⟩
        rw [Below.heap_setCell _ _ _ _ hne, hg7.block k (by omega) (fun e => by have := hrow k e.symm; omega)]
        exact h56.block k (by omega)
      · have k1 : KeepsOthers W w6 := ⟨hs6, fun k o hk _ => (h56.block k (Array.getElem?_eq_some_iff.1 hk).1).trans hk⟩
        refine ((k1.trans (KeepsOthers.of_grownBy hg7 fun j o ej hj => ?_)).trans (KeepsOthers.setCell _ _ _)).from _
        rcases hown6.2 with ⟨rfl, _⟩ | ⟨g', cap', cur, rfl, _, hgb, _⟩
        · simp [Value.ownBlock] at ej
        · obtain rfl : g' = j := by simpa [Value.ownBlock] using ej
          rw [hgb] at hj; cases hj; rfl
    have hbp : Below W5.drew.heap.size W5.drew W5.drew := Below.refl _ _
    clear hown bV hal hfl hbt hb5 hi0 hz0 hz1 hz2
    gi_wp2
    refine wpIn_region_any (by kernel_rfl) ?_
    change wpAnyIn _ _ _ _ _ _ _ _ _ (World.drew _)
    refine wpAnyIn_ready (rs := [0, 1]) (by kernel_rfl) (by simp) ?_
    refine AllReadyIn.cons rfl (fun K hK => ?_) (AllReadyIn.cons rfl (fun K hK => ?_) AllReadyIn.nil)
    · go_simp
      refine hK _ _ ?_
      clear hK K
      refine wpAnyIn_ready (rs := [1]) (by kernel_rfl) (by simp) ?_
      refine AllReadyIn.cons rfl (fun K hK => ?_) AllReadyIn.nil
      go_simp
      refine hK _ _ ?_
      clear hK K
      refine wpAnyIn_ready (rs := [2]) (by kernel_rfl) (by simp) ?_
      refine AllReadyIn.cons rfl (fun K hK => ?_) AllReadyIn.nil
      go_simp
      gi_wp2_with (refine ⟨trivial, ?_⟩; gi_at_call 67; refine (CallsIn.inRound l2 (callsIn_wide.2 (unfoldOf c0 c1 c2 c3 _))).mono ?_; rintro e w6 ⟨g, rfl, hbg, hb6⟩; have hbp6 := hbp.trans (hb6.mono hbp.size); have cV6 := KV.out _ hbp6; obtain ⟨ao, m, cap, w7, hap, cV7, fV7, HF⟩ := KA.out w6 g hbp6 hbg)
      refine wpAnyIn_ready (rs := [3]) (by kernel_rfl) (by simp) ?_
      refine AllReadyIn.cons rfl (fun K hK => ?_) AllReadyIn.nil
      rw [if_pos (by rfl)]
      refine opIn_append_run _ _ 39 (by rfl) _ _ (by rfl) (by rfl) hap ?_
      refine hK _ _ ?_
      clear hK K
      refine wpAnyIn_ready (rs := [4]) (by kernel_rfl) (by simp) ?_
      refine AllReadyIn.cons rfl (fun K hK => ?_) AllReadyIn.nil
      go_simp
      refine hK _ _ ?_
      clear hK K
      refine wpAnyIn_done (by kernel_rfl) ?_ _
      gi_wp2
      obtain ⟨f1, f2, f3, f4⟩ := HF.out
      refine ⟨f4, ⟨f3.2 _ (by omega) (by omega), f3.2 _ (by omega) (by omega)⟩, ?_, hBW.trans f2, hKb.trans f3⟩
      rw [HACC.out]
      exact f1
    · go_simp
      refine hK _ _ ?_
      clear hK K
      refine wpAnyIn_ready (rs := [0, 2]) (by kernel_rfl) (by simp) ?_
      refine AllReadyIn.cons rfl (fun K hK => ?_) (AllReadyIn.cons rfl (fun K hK => ?_) AllReadyIn.nil)
      · go_simp
        refine hK _ _ ?_
        clear hK K
        refine wpAnyIn_ready (rs := [2]) (by kernel_rfl) (by simp) ?_
        refine AllReadyIn.cons rfl (fun K hK => ?_) AllReadyIn.nil
        go_simp
        gi_wp2_with (refine ⟨trivial, ?_⟩; gi_at_call 67; refine (CallsIn.inRound l2 (callsIn_wide.2 (unfoldOf c0 c1 c2 c3 _))).mono ?_; rintro e w6 ⟨g, rfl, hbg, hb6⟩; have hbp6 := hbp.trans (hb6.mono hbp.size); have cV6 := KV.out _ hbp6; obtain ⟨ao, m, cap, w7, hap, cV7, fV7, HF⟩ := KA.out w6 g hbp6 hbg)
        refine wpAnyIn_ready (rs := [3]) (by kernel_rfl) (by simp) ?_
        refine AllReadyIn.cons rfl (fun K hK => ?_) AllReadyIn.nil
        rw [if_pos (by rfl)]
        refine opIn_append_run _ _ 39 (by rfl) _ _ (by rfl) (by rfl) hap ?_
        refine hK _ _ ?_
        clear hK K
        refine wpAnyIn_ready (rs := [4]) (by kernel_rfl) (by simp) ?_
        refine AllReadyIn.cons rfl (fun K hK => ?_) AllReadyIn.nil
        go_simp
        refine hK _ _ ?_
        clear hK K
        refine wpAnyIn_done (by kernel_rfl) ?_ _
        gi_wp2
        obtain ⟨f1, f2, f3, f4⟩ := HF.out
        refine ⟨f4, ⟨f3.2 _ (by omega) (by omega), f3.2 _ (by omega) (by omega)⟩, ?_, hBW.trans f2, hKb.trans f3⟩
        rw [HACC.out]
        exact f1
      · go_simp
        gi_wp2_with (refine ⟨trivial, ?_⟩; gi_at_call 67; refine (CallsIn.inRound l2 (callsIn_wide.2 (unfoldOf c0 c1 c2 c3 _))).mono ?_; rintro e w6 ⟨g, rfl, hbg, hb6⟩; have hbp6 := hbp.trans (hb6.mono hbp.size); have cV6 := KV.out _ hbp6; obtain ⟨ao, m, cap, w7, hap, cV7, fV7, HF⟩ := KA.out w6 g hbp6 hbg)
        refine wpAnyIn_ready (rs := [0]) (by kernel_rfl) (by simp) ?_
        refine AllReadyIn.cons rfl (fun K hK => ?_) AllReadyIn.nil
        go_simp
        refine hK _ _ ?_
        clear hK K
        refine wpAnyIn_ready (rs := [3]) (by kernel_rfl) (by simp) ?_
        refine AllReadyIn.cons rfl (fun K hK => ?_) AllReadyIn.nil
        rw [if_pos (by rfl)]
        refine opIn_append_run _ _ 39 (by rfl) _ _ (by rfl) (by rfl) hap ?_
        refine hK _ _ ?_
        clear hK K
        refine wpAnyIn_ready (rs := [4]) (by kernel_rfl) (by simp) ?_
        refine AllReadyIn.cons rfl (fun K hK => ?_) AllReadyIn.nil
        go_simp
        refine hK _ _ ?_
        clear hK K
        refine wpAnyIn_done (by kernel_rfl) ?_ _
        gi_wp2
        obtain ⟨f1, f2, f3, f4⟩ := HF.out
        refine ⟨f4, ⟨f3.2 _ (by omega) (by omega), f3.2 _ (by omega) (by omega)⟩, ?_, hBW.trans f2, hKb.trans f3⟩
        rw [HACC.out]
        exact f1
  case done =>
    rintro D ys W hD rfl ⟨⟨v, bV, hown⟩, hBW, hKb⟩ hK
    rw [fin_flat _ (fun k => unf (fil (pce 4 x k)))] at hown
    rw [show (List.range (pcn 4 x.length)).flatMap (fun k => unf (fil (pce 4 x k))) = rdb s.data.toList from hRd.out.symm] at hown
    have cV := bV.cell
    obtain ⟨ao, n', cap, rfl⟩ : ∃ ao n' cap, v = .slice ao n' cap := by
      rcases hown.2 with ⟨hv, _⟩ | ⟨g, cap, cur, hv, _⟩
      · exact ⟨_, _, _, hv⟩
      · exact ⟨_, _, _, hv⟩
    gi_wp2
    refine ⟨by simp, .inl ⟨_, _, rfl, run_takeDeferred hK, ?_⟩⟩
    refine ⟨_, results_tmp rfl _ _ _, ?_⟩
    obtain ⟨rfl, hby2⟩ := bya_of_own (ownsRow_putObj hown (.deferred none) hK rfl)
    exact ⟨ao, cap, rfl, hby2, fun A hA => Nat.le_trans (by omega) (new_of_own hown A hA), hBW.trans (belowK_b (w := w) (Nat.le_refl _) W D _ _ (by omega) hK rfl rfl)⟩
  case stop =>
    rintro D c pre W _ _ h _
    exact h.elim

theorem readOfN (s : ByteArray) (hs : s.size ≤ 140737488355328) (w : World) :
    Calls Tryd.prog 41 #[.string s] w fun e w' => ∃ a cap, e = .returned (.slice a (rdb s.data.toList).length cap) ∧ Bya w' a (rdb s.data.toList) cap ∧ Nw w a ∧ Below w.heap.size w w' :=
  callsIn_wide.1 (readInN 8 (Nat.le_refl _) s hs w)
theorem readOf (s : ByteArray) (hs : s.size ≤ 140737488355328) (w : World) :
    Calls Tryd.prog 41 #[.string s] w fun e w' => ∃ a cap, e = .returned (.slice a (rdb s.data.toList).length cap) ∧ Bya w' a (rdb s.data.toList) cap ∧ Below w.heap.size w w' :=
  (readOfN s hs w).mono fun _ _ ⟨a, cap, h1, h2, _, h4⟩ => ⟨a, cap, h1, h2, h4⟩

end Go.Proofs.YtppmpofdhkgjmafDoor
