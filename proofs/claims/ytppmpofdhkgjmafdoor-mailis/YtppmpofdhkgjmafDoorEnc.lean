/-
  Walk of base64.Encode: a range over a function in the body of one.
-/
import Derived.Test.YtppmpofdhkgjmafDoorFld
import Derived.Test.YtppmpofdhkgjmafDoorChk

namespace Go.Proofs.YtppmpofdhkgjmafDoor
open Go.RowKit Go.Shelf Dist
attribute [local go_sem] Oper.semAt_some

/-- Bytes that came in, nil or not. -/
def Bya (W : World) (a : Option Addr) (l : List UInt8) (cap : Nat) : Prop := (l.length = 0 ∧ (a = none → cap = 0)) ∨ ∃ b off, a = some ⟨b, off, none⟩ ∧ l.length ≤ cap ∧ Byt W b off l
theorem Byt.all {w w' : World} {b off : Nat} {l : List UInt8} (h : Byt w b off l) (hb : Below w.heap.size w w') : Byt w' b off l := fun i hi => (hb.cell (p := ⟨b, off + i, none⟩) (World.block_lt_of_cell? _ _ (h i hi))).trans (h i hi)
theorem Bya.all {w w' : World} {a : Option Addr} {l : List UInt8} {cap : Nat} (h : Bya w a l cap) (hb : Below w.heap.size w w') : Bya w' a l cap := by
  rcases h with h | ⟨b, off, h1, h2, h3⟩
  · exact .inl h
  · exact .inr ⟨b, off, h1, h2, h3.all hb⟩
theorem Bya.at {W : World} {a : Option Addr} {l : List UInt8} {cap : Nat} (h : Bya W a l cap) : l.length = 0 ∨ (∃ b off, a = some ⟨b, off, none⟩ ∧ l.length ≤ cap) := by
  rcases h with h | ⟨b, off, h1, h2, _⟩
  · exact .inl h.1
  · exact .inr ⟨b, off, h1, h2⟩

theorem own_all {B : Nat} {e : TypeId} {k : Nat} {v : Value} {n : Nat} {xs : List Value} {w w' : World} (h : w.ownsRow B e k v n xs) (hb : Below w.heap.size w w') : w'.ownsRow B e k v n xs := by
  refine ⟨h.1, ?_⟩
  rcases h.2 with h0 | ⟨g, cap, cur, hv, hB, hh, hr⟩
  · exact .inl h0
  · have hg : g < w.heap.size := by
      by_cases e : g < w.heap.size
      · exact e
      · rw [Array.getElem?_eq_none (by omega)] at hh; cases hh
    exact .inr ⟨g, cap, cur, hv, hB, blk_below hb hg hh, hr⟩
theorem isb_own {β : Type} (B : Nat) (T e : TypeId) (B0 b : Nat) (f : β → List Value) : OwnFrom B (fun s W => Lib.IsBuilder T e B0 b (f s) W) := by
  have one : ∀ (p : Value) (s : β) X Y row, Lib.BuilderAt T e B0 b p (f s) X → X.grownBy Y row → (∀ r, row = some r → B ≤ r ∧ ∃ o : Obj, X.heap[r]? = some o ∧ o.isCells = false) → Lib.BuilderAt T e B0 b p (f s) Y := by
    rintro p s X Y row ⟨hB, v, hv, hr, hne⟩ hg hrow
    refine ⟨hB, v, ?_, hr.kept hg ?_, hne⟩
    · refine (hg.block b (Array.getElem?_eq_some_iff.1 hv).1 (fun e' => ?_)).trans hv
      obtain ⟨_, o, ho, hc⟩ := hrow b e'.symm
      rw [hv] at ho; cases ho; cases hc
    · rcases hr.2 with ⟨rfl, _⟩ | ⟨g, cap, cur, rfl, _, hgb, _⟩
      · exact .inl rfl
      · refine .inr fun e' => ?_
        obtain ⟨_, o, ho, hc⟩ := hrow g (by simpa [Value.ownBlock] using e'.symm)
        rw [hgb] at ho; cases ho; cases hc
  rintro s X Y row (h | h) hg hr
  · exact .inl (one _ _ _ _ _ h hg hr)
  · exact .inr (one _ _ _ _ _ h hg hr)
theorem wk_own {β : Type} {e : TypeId} {B n₀ b : Nat} {W : World} (hB : W.heap.size ≤ B) (hn : n₀ ≤ W.heap.size) : OwnFrom B (fun (_ : β) W' => Wk e n₀ b W W') := by
  rintro _ X Y row hs hg hr
  refine ⟨hs.1.grown hg (Nat.le_trans hn hs.1.size) (fun k e => Nat.le_trans hn (Nat.le_trans hB (hr k e).1)), fun k o hk hb hn => ?_⟩
  · have hX := hs.2 k o hk hb hn
    refine (hg.block k (Array.getElem?_eq_some_iff.1 hX).1 (fun e => ?_)).trans hX
    have h1 := (hr k e.symm).1
    have h2 := (Array.getElem?_eq_some_iff.1 hk).1
    omega

theorem Wk.boxed {e t : TypeId} {B b k : Nat} {X Y : World} {v : Value} (h : Wk e B b X Y) (hk : Boxed X k t v) (hb : k ≠ b) (ht : t ≠ e) : Boxed Y k t v :=
  h.2 k _ hk hb (fun cs fr e' => ht (by cases e'; rfl))
theorem Wk.keeps {e T : TypeId} {B b : Nat} {X Y : World} {bs : List Value} (h : Wk e B b X Y) (hb : Lib.IsBuilder T e B b bs X) : KeepsOthers X Y := by
  rcases hb with hb | hb
  · exact h.others hb
  · exact h.others hb
theorem two_of {s n : Nat} {X Y : World} {t u : TypeId} {v z : Value} (h1 : Boxed X s t v) (h2 : Boxed Y s t v) (h3 : Boxed X n u z) (h4 : Boxed Y n u z) : Two s n X Y := ⟨Eq.trans h2 (Eq.symm h1), Eq.trans h4 (Eq.symm h3)⟩

theorem fin_flat (K : Nat) (f : Nat → List UInt8) : (List.finRange K).flatMap (fun k => f k.1) = (List.range K).flatMap f := by
  have e : (List.finRange K).map (fun k => k.1) = List.range K := by
    apply List.ext_getElem
    · simp
    · intro i h1 h2; simp
  rw [← e, List.flatMap_map]

theorem flat_le {α : Type} (f : α → List UInt8) (c : Nat) (h : ∀ x, (f x).length ≤ c) : ∀ pre : List α, (pre.flatMap f).length ≤ c * pre.length
  | [] => by simp
  | x :: r => by
    have h1 := flat_le f c h r
    have h2 := h x
    rw [List.flatMap_cons, List.length_append, List.length_cons, Nat.mul_succ]
    omega
theorem f4_len {t : List UInt8} (h : t.length ≤ 3) : (f4 t).length ≤ 4 := by
  unfold f4
  rw [pd4_len, List.length_map, sxs_len]; omega
theorem enl_len {p : List UInt8} (h : p.length ≤ 57) : (enl p).length ≤ 77 := by
  unfold enl
  rw [List.length_append, pca3, pd4_len, List.length_map, sxs_len, List.length_singleton]; omega
theorem pcw_some (b off c len k : Nat) : pcw (some ⟨b, off, none⟩) c len k = .slice (some ⟨b, off + k * c, none⟩) (min c (len - k * c)) (min c (len - k * c)) := rfl
theorem pce_len (n : Nat) (l : List UInt8) (k : Nat) : (pce n l k).length = min n (l.length - k * n) := by unfold pce; rw [List.length_take, List.length_drop]

/-- The four letters laid in a block of their own. -/
theorem four_new (w : World) (c0 c1 c2 c3 : UInt8) :
    Byt (w.alloc (.cells #[.int .u8 c0.toNat, .int .u8 c1.toNat, .int .u8 c2.toNat, .int .u8 c3.toNat] 92)) w.heap.size 0 [c0, c1, c2, c3] ∧
    Below w.heap.size w (w.alloc (.cells #[.int .u8 c0.toNat, .int .u8 c1.toNat, .int .u8 c2.toNat, .int .u8 c3.toNat] 92)) := by
  refine ⟨?_, below_alloc w _⟩
  have hb4 := heap_alloc_new w (.cells #[.int .u8 c0.toNat, .int .u8 c1.toNat, .int .u8 c2.toNat, .int .u8 c3.toNat] 92)
  refine byt_of_row hb4 fun i hi => ?_
  have hi : i < 4 := hi
  rcases (by omega : i = 0 ∨ i = 1 ∨ i = 2 ∨ i = 3) with rfl | rfl | rfl | rfl <;> simp

set_option maxRecDepth 100000 in
set_option maxHeartbeats 1000000 in
theorem encodeIn (n : Nat) (hn : 8 ≤ n) (a : Option Addr) (l : List UInt8) (cap : Nat) (w : World) (ha : Bya w a l cap) (hl : l.length ≤ 40000) :
    CallsIn Fence.wide n Tryd.prog 12 #[.slice a l.length cap] w fun e w' => e = .returned (.tuple #[.string ⟨(ltrs l).toArray⟩, .nilIface]) ∧ Below w.heap.size w w' := by
  have h1 : 1 ≤ n := by omega
  refine callsIn_of_wp_marks Tryd.func12 rfl trivial ?_ rfl
  simp only [Tryd.ntmps12, List.size_toArray, List.length_cons, List.length_nil, Nat.reduceAdd, Nat.reduceSub, Array.replicate_succ, Array.replicate_zero, List.push_toArray, List.append_toArray, List.nil_append, List.cons_append]
  gi_wp2_with (refine ⟨trivial, ?_⟩; gi_at_call 35; refine (callsIn_wide.2 (chunk a l.length cap 57 (by omega) _)).mono ?_; rintro e w' ⟨rfl, rfl⟩)
  have bS := (Boxed.new (w.alloc (.cells #[.pointer none, .slice none 0 0] 88)) 39 (.slice a l.length cap)).alloc (.cells #[.int .i64 57] 3)
  have bN := Boxed.new ((w.alloc (.cells #[.pointer none, .slice none 0 0] 88)).alloc (.cells #[.slice a l.length cap] 39)) 3 (.int .i64 57)
  simp only [World.size_alloc] at bS bN
  have bB : Lib.IsBuilder 88 5 w.heap.size w.heap.size (u8s []) (((w.alloc (.cells #[.pointer none, .slice none 0 0] 88)).alloc (.cells #[.slice a l.length cap] 39)).alloc (.cells #[.int .i64 57] 3)) := by
    refine .inl ⟨Nat.le_refl _, .slice none 0 0, ?_, World.ownsRow_nil _ _ _ _, by simp [Value.ownBlock]⟩
    exact (Below.heap_alloc _ _ _ (by simp; omega)).trans ((Below.heap_alloc _ _ _ (by simp)).trans (heap_alloc_new w _))
  have hB0 : Below w.heap.size w (((w.alloc (.cells #[.pointer none, .slice none 0 0] 88)).alloc (.cells #[.slice a l.length cap] 39)).alloc (.cells #[.int .i64 57] 3)) := (((Below.refl _ w).alloc (Nat.le_refl _) _).alloc (by simp) _).alloc (by simp; omega) _
  have hsz : (((w.alloc (.cells #[.pointer none, .slice none 0 0] 88)).alloc (.cells #[.slice a l.length cap] 39)).alloc (.cells #[.int .i64 57] 3)).heap.size = w.heap.size + 3 := by simp
  obtain ⟨W0, hW0⟩ : ∃ W0, ((w.alloc (.cells #[.pointer none, .slice none 0 0] 88)).alloc (.cells #[.slice a l.length cap] 39)).alloc (.cells #[.int .i64 57] 3) = W0 := ⟨_, rfl⟩
  rw [hW0] at bB bS bN hB0 hsz ⊢
  clear hW0
  refine wpIn_rangeFunc_ownH rfl h1 (gf := 63) (lb := #[.pointer (some ⟨w.heap.size + 1, 0, none⟩), .pointer (some ⟨w.heap.size + 1 + 1, 0, none⟩)]) rfl trivial (enters_of Tryd.func63 (by kernel_rfl) rfl)
    (chunk_stops (n - 1) (by omega) (w.heap.size + 1) (w.heap.size + 1 + 1) a l.length cap 57 (by omega) (by omega) (by omega) ha.at W0 (by omega) (by omega) bS.cell bN.cell)
    (fun h k => Two.trans h k) (Two.put (by omega) (by omega)) (Below.refl _ _) (fun _ => rfl)
    (fun pre W => Lib.IsBuilder 88 5 w.heap.size w.heap.size (u8s (pre.flatMap fun k => enl (pce 57 l k.1))) W ∧ Wk 5 w.heap.size w.heap.size W0 W)
    (fun _ _ _ => False)
    (OwnFrom.and (isb_own _ _ _ _ _ _) (wk_own (Nat.le_refl _) (by omega)))
    (fun _ _ _ _ _ hs _ _ => hs)
    ⟨bB, Wk.refl _ _ _ _⟩
    (fun x a' _ => a' = { tmps := #[.slice a l.length cap, undef, .string { data := #[] }, .nilIface, .pointer (some ⟨w.heap.size, 0, none⟩), pcw a 57 l.length x.1, undef, undef, .slice a l.length cap, .int .i64 l.length, .bool (decide (40000 < (l.length : Int))), undef, .slice a l.length cap, .func (.func 63) #[] #[.pointer (some ⟨w.heap.size + 1, 0, none⟩), .pointer (some ⟨w.heap.size + 1 + 1, 0, none⟩)], pcw a 57 l.length x.1, undef, undef, undef, undef, undef, undef, undef, undef, undef], defers := [] })
    (fun _ _ _ _ _ _ hs _ _ => hs)
    ?assign ?body ?done ?stop
  case assign =>
    rintro l2 pre x W K hI hK
    gi_wp2
    exact hK _ _ (KeepsFrom.refl _ _) (Two.refl _ _ _) hI rfl
  case body =>
    rintro l2 pre x a' W hl2 ⟨r, hr⟩ ⟨hBd, hWk⟩ rfl hlt
    have hxk : x.1 * 57 < l.length := (pcn_lt (by omega)).1 x.2
    rcases ha with ⟨h0, _⟩ | ⟨b, off, rfl, hcap, hby⟩
    · exact absurd hxk (by omega)
    have hbp : Byt W b (off + x.1 * 57) (pce 57 l x.1) := (hby.all (hB0.trans hWk.1)).part _ _
    have hpl := pce_len 57 l x.1
    have hbw : b < w.heap.size := World.block_lt_of_cell? _ _ (hby 0 (by omega))
    rw [pcw_some, ← hpl]
    have hacc : u8s ((pre ++ [x]).flatMap fun k => enl (pce 57 l k.1)) = u8s (pre.flatMap fun k => enl (pce 57 l k.1)) ++ u8s (enl (pce 57 l x.1)) := by rw [List.flatMap_append, u8s_app]; simp
    have HACC : Hid (u8s ((pre ++ [x]).flatMap fun k => enl (pce 57 l k.1)) = u8s (pre.flatMap fun k => enl (pce 57 l k.1)) ++ u8s (enl (pce 57 l x.1))) := hacc
    have hlen1 : pre.length ≤ 702 := by
      have h2 : pcn 57 l.length ≤ 703 := by unfold pcn; omega
      omega
    have hal : (pre.flatMap fun k => enl (pce 57 l k.1)).length ≤ 77 * pre.length := flat_le _ 77 (fun k => enl_len (by rw [pce_len]; exact Nat.min_le_left _ _)) pre
    generalize hpc : pce 57 l x.1 = pc at hbp hpl HACC ⊢
    generalize (pre.flatMap fun k => enl (pce 57 l k.1)) = acc at hBd hal HACC
    have hp1 : 1 ≤ pc.length := by omega
    have hp57 : pc.length ≤ 57 := by omega
    generalize off + x.1 * 57 = o1 at hbp ⊢
    clear hacc hby hpc hxk hpl
    have h1' : 1 ≤ n - 1 - 1 := by omega
    gi_wp2_with (refine ⟨trivial, ?_⟩; gi_at_call 35; refine (CallsIn.inRound l2 (callsIn_wide.2 (chunk (some ⟨b, o1, none⟩) pc.length pc.length 3 (by omega) _))).mono ?_; rintro e w' ⟨rfl, rfl⟩)
    have cS := (Boxed.new W 39 (.slice (some ⟨b, o1, none⟩) pc.length pc.length)).alloc (.cells #[.int .i64 3] 3)
    have cN := Boxed.new (W.alloc (.cells #[.slice (some ⟨b, o1, none⟩) pc.length pc.length] 39)) 3 (.int .i64 3)
    simp only [World.size_alloc] at cN
    have hBW : w.heap.size ≤ W.heap.size := Nat.le_trans hB0.size hWk.1.size
    have cB : Lib.IsBuilder 88 5 w.heap.size w.heap.size (u8s acc) ((W.alloc (.cells #[.slice (some ⟨b, o1, none⟩) pc.length pc.length] 39)).alloc (.cells #[.int .i64 3] 3)) :=
      (isb_own 0 _ _ _ _ (fun _ : Unit => u8s acc)).alloc (s := ()) _ ((isb_own 0 _ _ _ _ (fun _ : Unit => u8s acc)).alloc (s := ()) _ hBd)
    have hW1 : Wk 5 w.heap.size w.heap.size W ((W.alloc (.cells #[.slice (some ⟨b, o1, none⟩) pc.length pc.length] 39)).alloc (.cells #[.int .i64 3] 3)) := ((Wk.refl _ _ _ W).alloc hBW _).alloc (by simp; omega) _
    have hr1 : ((W.alloc (.cells #[.slice (some ⟨b, o1, none⟩) pc.length pc.length] 39)).alloc (.cells #[.int .i64 3] 3)).heap[l2]? = some (.loop r) := hW1.2 l2 _ hr (by omega) (fun cs fz e => by cases e)
    have hs1 : ((W.alloc (.cells #[.slice (some ⟨b, o1, none⟩) pc.length pc.length] 39)).alloc (.cells #[.int .i64 3] 3)).heap.size = W.heap.size + 2 := by simp
    obtain ⟨W1, hW1e⟩ : ∃ W1, (W.alloc (.cells #[.slice (some ⟨b, o1, none⟩) pc.length pc.length] 39)).alloc (.cells #[.int .i64 3] 3) = W1 := ⟨_, rfl⟩
    rw [hW1e] at cB cS cN hW1 hr1 hs1 ⊢
    clear hW1e
    refine wpIn_rangeFunc_ownN (l₀ := l2) (r₀ := r) rfl hr1 h1' (gf := 63) (lb := #[.pointer (some ⟨W.heap.size, 0, none⟩), .pointer (some ⟨W.heap.size + 1, 0, none⟩)]) rfl trivial (enters_of Tryd.func63 (by kernel_rfl) rfl)
      ((chunk_stops (n - 1 - 1 - 1) (by omega) W.heap.size (W.heap.size + 1) (some ⟨b, o1, none⟩) pc.length pc.length 3 (by omega) (by omega) (by omega) (.inr ⟨b, o1, rfl, Nat.le_refl _⟩) W1 (by omega) (by omega) cS.cell cN.cell).inRound l2)
      (fun h k => Two.trans h k) (Two.put (by omega) (by omega)) (Below.refl _ _) (fun _ => rfl)
      (fun pre' W' => Lib.IsBuilder 88 5 w.heap.size w.heap.size (u8s (acc ++ pre'.flatMap fun k => f4 (pce 3 pc k.1))) W' ∧ Wk 5 w.heap.size w.heap.size W1 W')
      (fun _ _ _ => False)
      (OwnFrom.and (isb_own _ _ _ _ _ _) (wk_own (Nat.le_refl _) (by omega)))
      (fun _ _ _ _ _ hs _ _ => hs)
      ⟨by simpa using cB, Wk.refl _ _ _ _⟩
      (fun y a'' _ => a'' = { tmps := #[.slice (some ⟨b, off, none⟩) l.length cap, undef, .string { data := #[] }, .nilIface, .pointer (some ⟨w.heap.size, 0, none⟩), .slice (some ⟨b, o1, none⟩) pc.length pc.length, pcw (some ⟨b, o1, none⟩) 3 pc.length y.1, undef, .slice (some ⟨b, off, none⟩) l.length cap, .int .i64 l.length, .bool (decide (40000 < (l.length : Int))), undef, .slice (some ⟨b, off, none⟩) l.length cap, .func (.func 63) #[] #[.pointer (some ⟨w.heap.size + 1, 0, none⟩), .pointer (some ⟨w.heap.size + 1 + 1, 0, none⟩)], .slice (some ⟨b, o1, none⟩) pc.length pc.length, .slice (some ⟨b, o1, none⟩) pc.length pc.length, .func (.func 63) #[] #[.pointer (some ⟨W.heap.size, 0, none⟩), .pointer (some ⟨W.heap.size + 1, 0, none⟩)], pcw (some ⟨b, o1, none⟩) 3 pc.length y.1, undef, undef, undef, undef, undef, undef], defers := [] })
      (fun _ _ _ _ _ _ hs _ _ => hs)
      ?assign2 ?body2 ?done2 ?stop2
    case assign2 =>
      rintro l3 pre' y W' K hI hK
      gi_wp2
      exact hK _ _ (KeepsFrom.refl _ _) (Two.refl _ _ _) hI rfl
    case body2 =>
      rintro l3 pre' y a'' W' _ _ ⟨hBd2, hWk2⟩ rfl hlt2
      have hyk : y.1 * 3 < pc.length := (pcn_lt (by omega)).1 y.2
      have hbt : Byt W' b (o1 + y.1 * 3) (pce 3 pc y.1) := (hbp.below (hW1.trans hWk2).1 hbw).part _ _
      have hpl := pce_len 3 pc y.1
      rw [pcw_some, ← hpl]
      have HACC2 : Hid (u8s (acc ++ (pre' ++ [y]).flatMap fun k => f4 (pce 3 pc k.1)) = u8s (acc ++ pre'.flatMap fun k => f4 (pce 3 pc k.1)) ++ u8s (f4 (pce 3 pc y.1))) := by
        show u8s (acc ++ (pre' ++ [y]).flatMap fun k => f4 (pce 3 pc k.1)) = _
        rw [List.flatMap_append, ← List.append_assoc, u8s_app]; simp
      have hal2 : (pre'.flatMap fun k => f4 (pce 3 pc k.1)).length ≤ 4 * pre'.length := flat_le _ 4 (fun k => f4_len (by rw [pce_len]; exact Nat.min_le_left _ _)) pre'
      have hlen2 : pre'.length ≤ 19 := by
        have h2 : pcn 3 pc.length ≤ 19 := by unfold pcn; omega
        omega
      generalize hpc : pce 3 pc y.1 = t at hbt hpl HACC2 ⊢
      generalize (pre'.flatMap fun k => f4 (pce 3 pc k.1)) = acc2 at hBd2 hal2 HACC2
      have ht1 : 1 ≤ t.length := by omega
      have ht3 : t.length ≤ 3 := by omega
      generalize o1 + y.1 * 3 = o2 at hbt ⊢
      clear hpc hyk hpl
      have h2' : 1 ≤ n - 1 - 1 - 1 - 1 := by omega
      have hsW := hWk2.1.size
      have hwr : ∀ w2, Below W'.heap.size W' w2 → Calls Tryd.prog 37 #[.pointer (some ⟨w.heap.size, 0, none⟩), .slice (some ⟨w2.heap.size, 0, none⟩) 4 4] (w2.alloc (.cells #[.int .u8 (flt t 0).toNat, .int .u8 (flt t 1).toNat, .int .u8 (flt t 2).toNat, .int .u8 (flt t 3).toNat] 92)) fun e w' => e = .returned (.tuple #[.int .i64 4, .nilIface]) ∧ (Lib.IsBuilder 88 5 w.heap.size w.heap.size (u8s (acc ++ acc2) ++ u8s (f4 t)) w' ∧ Wk 5 w.heap.size w.heap.size W' w') := by
        intro w2 hb2
        obtain ⟨hby4, hbl4⟩ := four_new w2 (flt t 0) (flt t 1) (flt t 2) (flt t 3)
        rw [flt_f4 t ht1 ht3] at hby4
        have hs2 := hb2.size
        have hall : Wk 5 w.heap.size w.heap.size W' (w2.alloc (.cells #[.int .u8 (flt t 0).toNat, .int .u8 (flt t 1).toNat, .int .u8 (flt t 2).toNat, .int .u8 (flt t 3).toNat] 92)) := Wk.of_below (hb2.trans (hbl4.mono hs2)) (by omega)
        generalize (w2.alloc (.cells #[.int .u8 (flt t 0).toNat, .int .u8 (flt t 1).toNat, .int .u8 (flt t 2).toNat, .int .u8 (flt t 3).toNat] 92)) = w4 at hby4 hbl4 hall ⊢
        have hf : (f4 t).length = 4 := by rw [← flt_f4 t ht1 ht3]; rfl
        have hBd4 : Lib.IsBuilder 88 5 w.heap.size w.heap.size (u8s (acc ++ acc2)) w4 := by
          have step : ∀ p, Lib.BuilderAt 88 5 w.heap.size w.heap.size p (u8s (acc ++ acc2)) W' → Lib.BuilderAt 88 5 w.heap.size w.heap.size p (u8s (acc ++ acc2)) w4 := by
            rintro p ⟨h0, v, hh, hown, hne⟩
            have hbb := hb2.trans (hbl4.mono hs2)
            exact ⟨h0, v, (hbb.block _ (Array.getElem?_eq_some_iff.1 hh).1).trans hh, own_all hown hbb, hne⟩
          rcases hBd2 with h | h
          · exact .inl (step _ h)
          · exact .inr (step _ h)
        have := write w.heap.size w.heap.size _ (f4 t) w2.heap.size 0 4 w4 hBd4 hby4 (by omega) (by rw [u8s_len, List.length_append, hf]; omega) (by have := hall.1.size; omega)
        rw [hf] at this
        refine this.mono ?_
        rintro e w5 ⟨rfl, h5, k5⟩
        exact ⟨rfl, .inr h5, hall.trans k5⟩
      have hfo := foldOf t b o2 t.length W' ht1 ht3 hbt
      gi_wp2_with (first | (refine ⟨trivial, ?_⟩; gi_at_call 36; refine (CallsIn.inRound l3 (callsIn_wide.2 hfo)).mono ?_; rintro e w2 ⟨rfl, hb2⟩; replace hwr := hwr w2 hb2) | (refine ⟨trivial, ?_⟩; gi_at_call 37; refine (CallsIn.inRound l3 (callsIn_wide.2 hwr)).mono ?_; rintro e w5 ⟨rfl, hb5, hk5⟩))
      have hall := hWk2.trans hk5
      have hn1 : W.heap.size ≠ w.heap.size := by have := hWk.1.size; omega
      have hn2 : W.heap.size + 1 ≠ w.heap.size := by omega
      refine ⟨(hk5.keeps hBd2).from _, two_of (hWk2.boxed cS hn1 (by decide)) (hall.boxed cS hn1 (by decide)) (hWk2.boxed cN hn2 (by decide)) (hall.boxed cN hn2 (by decide)), ?_, hall⟩
      rw [HACC2.out]
      exact hb5
    case done2 =>
      rintro ys W' rfl ⟨hBd2, hWk2⟩
      rw [fin_flat _ (fun k => f4 (pce 3 pc k)), show (List.range (pcn 3 pc.length)).flatMap (fun k => f4 (pce 3 pc k)) = pca 3 f4 pc from rfl] at hBd2
      have hel : (pca 3 f4 pc).length ≤ 76 := by rw [pca3, pd4_len, List.length_map, sxs_len]; omega
      have hwr := writeStr w.heap.size w.heap.size _ { data := #[10] } W' hBd2 (by rw [u8s_len, List.length_append]; show _ + 1 ≤ _; omega) (by have := hWk2.1.size; omega)
      gi_wp2_with (refine ⟨trivial, ?_⟩; gi_at_call 38; refine (CallsIn.inRound l2 (callsIn_wide.2 hwr)).mono ?_; rintro e w3 ⟨rfl, hb3, hk3⟩)
      have hall := (hW1.trans hWk2).trans hk3
      refine ⟨(hall.keeps hBd).from _, two_of (hWk.boxed bS (by omega) (by decide)) ((hWk.trans hall).boxed bS (by omega) (by decide)) (hWk.boxed bN (by omega) (by decide)) ((hWk.trans hall).boxed bN (by omega) (by decide)), ?_, hWk.trans hall⟩
      rw [HACC.out]
      refine .inr ?_
      have e : u8s acc ++ u8s (enl pc) = u8s (acc ++ pca 3 f4 pc) ++ Lib.strCells { data := #[10] } := by
        unfold enl
        rw [u8s_app, u8s_app, List.append_assoc]; rfl
      rw [e]
      exact hb3
    case stop2 =>
      rintro c pre' W' _ h
      exact h.elim
  case done =>
    rintro D ys W hD rfl ⟨hBd, hWk⟩ hK
    rw [fin_flat _ (fun k => enl (pce 57 l k)), show (List.range (pcn 57 l.length)).flatMap (fun k => enl (pce 57 l k)) = ltrs l from pca57 l] at hBd
    have hst := Tryd.Builder_String_any_k w.heap.size w.heap.size (ltrs l) W (Lib.IsBuilderF.of hBd) (by have := hWk.1.size; omega)
    gi_wp2_with (refine ⟨trivial, ?_⟩; gi_at_call 39; refine (callsIn_wide.2 hst).mono ?_; rintro e w3 ⟨rfl, _, hb3, ho3⟩)
    have hK3 : w3.heap[D]? = some (.deferred (some [])) := ho3 D _ hK (by simp; omega) (fun cs fz e => by cases e)
    refine ⟨by simp, .inl ⟨_, _, rfl, run_takeDeferred hK3, ?_⟩⟩
    exact ⟨_, results_tmp2 rfl _ _ _, rfl, ((hB0.trans hWk.1).trans hb3).trans (belowK_b (w := w) (Nat.le_refl _) w3 D _ _ (by omega) hK3 rfl rfl)⟩
  case stop =>
    rintro D c pre W _ _ h _
    exact h.elim

theorem encode (a : Option Addr) (l : List UInt8) (cap : Nat) (w : World) (ha : Bya w a l cap) (hl : l.length ≤ 40000) :
    Calls Tryd.prog 12 #[.slice a l.length cap] w fun e w' => e = .returned (.tuple #[.string ⟨(ltrs l).toArray⟩, .nilIface]) ∧ Below w.heap.size w w' :=
  callsIn_wide.1 (encodeIn 8 (Nat.le_refl _) a l cap w ha hl)

end Go.Proofs.YtppmpofdhkgjmafDoor
