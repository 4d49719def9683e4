/-
  Layer 12: what the loop over the iterator collects; From.
-/
import Derived.RangeFuncNested
import Derived.Maps.AppendAt
import Derived.Test.YtojmhkdlaalifaaRefW
import Derived.Test.YtojmhkdlaalifaaRefB
namespace Go.Proofs.Ytojmhkdlaalifaa
open Go.RowKit Go.Shelf
set_option linter.unusedVariables false
set_option linter.unusedSimpArgs false
attribute [local go_sem] Oper.semAt_some

/-- indices as cells -/
def nats12 (l : List Nat) : List Value := i64s (l.map fun k : Nat => (k : Int))
theorem nats12_snoc (l : List Nat) (x : Nat) : nats12 (l ++ [x]) = nats12 l ++ [.int .i64 (x : Int)] := by simp [nats12, i64s]

/-- what the loop's body keeps: the items collected, the condition's variable, all below as it was -/
def Col12 (w : World) (mv : Value) (pre : List Nat) (W : World) : Prop :=
  (∃ v, Boxed W (w.heap.size + 1) 22 v ∧ W.ownsRow (w.heap.size + 1) 3 1 v pre.length (nats12 pre) ∧ True) ∧ (Boxed W (w.heap.size + 3) 51 mv ∧ Below w.heap.size w W)

theorem Col12.own (w : World) (mv : Value) (B : Nat) (hB : w.heap.size ≤ B) : OwnFrom B (Col12 w mv) :=
  OwnFrom.and (Own.from (holdsRow_own (w.heap.size + 1) (w.heap.size + 1) 22 3 1 (fun pre : List Nat => pre.length) (fun pre => nats12 pre) (fun _ _ => True)) _)
    (OwnFrom.and (Own.from (boxed_own (w.heap.size + 3) 51 (fun _ : List Nat => mv)) _) (ownFrom_below (Nat.le_refl _) hB))

theorem Col12.step {w W w1 : World} {v v' mv : Value} {pre : List Nat} {x : Nat} {tmp : Obj} (hv : Boxed W (w.heap.size + 1) 22 v) (hrow : W.ownsRow (w.heap.size + 1) 3 1 v pre.length (nats12 pre)) (hm : Boxed W (w.heap.size + 3) 51 mv) (hB : Below w.heap.size w W)
    (hown' : w1.ownsRow (w.heap.size + 1) 3 1 v' (pre.length + 1) (nats12 pre ++ [.int .i64 (x : Int)])) (hgrow : (W.alloc tmp).grownBy w1 v.ownBlock) (B : Nat) :
    Boxed w1 (w.heap.size + 1) 22 v ∧ KeepsFrom B W (w1.setCell ⟨w.heap.size + 1, 0, none⟩ v') ∧ KpR12 (w.heap.size + 1) (w.heap.size + 3) W (w1.setCell ⟨w.heap.size + 1, 0, none⟩ v') ∧ Col12 w mv (pre ++ [x]) (w1.setCell ⟨w.heap.size + 1, 0, none⟩ v') := by
  obtain ⟨hv1, hv2, hr2, hk2, hb2⟩ := hv.appended (by decide) hrow (by have := hv.lt; omega) (Nat.le_refl _) hown' hgrow
  have hm1 : Boxed w1 (w.heap.size + 3) 51 mv := (hm.alloc tmp).kept hgrow (hm.not_row (by decide) hrow)
  have hm2 := hm1.other (B' := w.heap.size + 1) (by omega) v'
  refine ⟨hv1, hk2.from _, ⟨hb2, ?_⟩, ⟨v', hv2, ?_, trivial⟩, hm2, hB.trans (hb2.mono (by omega))⟩
  · rw [show W.heap[w.heap.size + 3]? = _ from hm]; exact hm2
  · rw [nats12_snoc, List.length_append]; exact hr2

theorem Col12.fin {w W : World} {mv : Value} {ys : List Nat} {D : Nat} (h : Col12 w mv ys W) (hK : W.heap[D]? = some (.deferred (some []))) (hD : w.heap.size ≤ D) :
    ∃ v, Boxed W (w.heap.size + 1) 22 v ∧ ∃ A k c, v = .slice A k c ∧ Ints (W.putObj D (.deferred none)) A k c (ys.map fun k : Nat => (k : Int)) ∧ Below w.heap.size w (W.putObj D (.deferred none)) ∧ Newer w.heap.size A := by
  obtain ⟨⟨v, hv, hrow, _⟩, _, hB⟩ := h
  have hr2 := ownsRow_putObj hrow (.deferred none) hK rfl
  obtain ⟨A, c, rfl, hI⟩ := Ints.of_own hr2
  exact ⟨_, hv, A, _, c, rfl, hI, hB.trans (belowK_b (w := w) (Nat.le_refl _) W D _ _ hD hK rfl rfl), (Newer.of_own hrow).mono (by omega)⟩

set_option maxRecDepth 100000 in
theorem meetsF (k x m : Int) (b : Nat) (w : World) (h : w.cell? ⟨b, 0, none⟩ = some (.int .i64 m)) :
    Calls Try.prog 26 #[.int .i64 k, .int .i64 x, .pointer (some ⟨b, 0, none⟩)] w fun e w' => e = .returned (.bool (decide (m ≤ x))) ∧ w = w' := by
  go_enter Try.func26, Try.ntmps26
  go_wp2
  go_ret
  exact ⟨rfl, rfl⟩

theorem kept_from (L : List Int) (m : Int) (n : Nat) : (keptR12 (fun j => decide (m ≤ L.getD j 0)) n).map (fun j : Nat => (j : Int)) = fromR12 L m n := rfl

set_option maxRecDepth 100000 in
set_option maxHeartbeats 2000000 in
theorem From12_any {v : Value} {A : Option Addr} {n : Nat} {L : List Int} (m : Int) (w : World) (h : Own12 w v A n L) :
    Calls Try.prog 19 #[v, .int .i64 m] w fun e w' => ∃ A' k c', e = .returned (.slice A' k c') ∧ Ints w' A' k c' (fromR12 L m n) ∧ Below w.heap.size w w' ∧ Newer w.heap.size A' := by
  have O : Hid (∀ W, Below w.heap.size w W → Calls Try.prog 24 #[v] W fun e w' => e = .returned (.slice A n n) ∧ W = w') := fun W hb => own12_any W (h.below hb)
  have HI := Lib.hid h.ints
  have hm := h.most
  clear h
  refine (callsIn_wide (n := 2)).1 ?_
  refine callsIn_of_wp_marks Try.func19 rfl trivial ?_ rfl
  simp only [Try.ntmps19, List.size_toArray, List.length_cons, List.length_nil, Nat.reduceAdd, Nat.reduceSub, Array.replicate_succ, Array.replicate_zero, List.push_toArray, List.append_toArray, List.nil_append, List.cons_append]
  gi_wp2_with (first
    | (refine ⟨trivial, ?_⟩; gi_at_call 24; refine (callsIn_wide.2 (O.out _ (((Below.refl _ w).alloc (Nat.le_refl _) _).alloc (by simp) _))).mono ?_; rintro e w' ⟨rfl, rfl⟩)
    | (refine ⟨trivial, ?_⟩; gi_at_call 25; refine (callsIn_wide.2 (where_in _ _ _ _ _ _)).mono ?_; rintro e w' ⟨rfl, rfl⟩))
  clear O
  obtain ⟨W0, hW0⟩ : ∃ W0, ((((w.alloc (.cells #[.int .i64 m] 3)).alloc (.cells #[.slice none 0 0] 22)).alloc (.cells #[.slice A n n] 22)).alloc (.cells #[.func (.func 26) #[] #[.pointer (some ⟨w.heap.size, 0, none⟩)]] 51)) = W0 := ⟨_, rfl⟩
  have hsz : W0.heap.size = w.heap.size + 4 := by rw [← hW0]; simp
  have b0 : Boxed W0 w.heap.size 3 (.int .i64 m) := by rw [← hW0]; exact (((Boxed.new w _ _).alloc _).alloc _).alloc _
  have bO : Boxed W0 (w.heap.size + 1) 22 (.slice none 0 0) := by
    have := Boxed.new (w.alloc (.cells #[.int .i64 m] 3)) 22 (.slice none 0 0)
    rw [World.size_alloc] at this
    rw [← hW0]; exact (this.alloc _).alloc _
  have bC : Boxed W0 (w.heap.size + 2) 22 (.slice A n n) := by
    have := Boxed.new ((w.alloc (.cells #[.int .i64 m] 3)).alloc (.cells #[.slice none 0 0] 22)) 22 (.slice A n n)
    rw [World.size_alloc, World.size_alloc] at this
    rw [← hW0]; exact this.alloc _
  have bM : Boxed W0 (w.heap.size + 3) 51 (.func (.func 26) #[] #[.pointer (some ⟨w.heap.size, 0, none⟩)]) := by
    have := Boxed.new (((w.alloc (.cells #[.int .i64 m] 3)).alloc (.cells #[.slice none 0 0] 22)).alloc (.cells #[.slice A n n] 22)) 51 (.func (.func 26) #[] #[.pointer (some ⟨w.heap.size, 0, none⟩)])
    rw [World.size_alloc, World.size_alloc, World.size_alloc] at this
    rw [← hW0]; exact this
  have hB0 : Below w.heap.size w W0 := by rw [← hW0]; exact ((((Below.refl _ w).alloc (Nat.le_refl _) _).alloc (by simp) _).alloc (by simp; omega) _).alloc (by simp; omega) _
  simp only [hW0]
  clear hW0
  have hI0 := HI.out.below hB0
  have hst := where_stops 26 (.pointer (some ⟨w.heap.size, 0, none⟩)) (fun j => decide (m ≤ L.getD j 0)) (enters_of Try.func26 (by kernel_rfl) rfl) (w.heap.size + 2) (w.heap.size + 3) (w.heap.size + 1) A n n L W0 (by omega) bC.cell bM.cell hI0
    (fun h0 ad e => by
      obtain ⟨b, off, e2, hl, _⟩ := HI.out.row.lit (by rw [i64s_length]; exact h0)
      rw [e] at e2
      cases e2; exact Nat.lt_succ_of_lt hl)
    (fun W' k hk hb => by
      have hc : W'.cell? ⟨w.heap.size, 0, none⟩ = some (.int .i64 m) := (hb.cell (p := ⟨w.heap.size, 0, none⟩) (Nat.lt_succ_self _)).trans b0.cell
      have := meetsF (k : Int) L[k] m w.heap.size W' hc
      rwa [show L[k] = L.getD k 0 by simp [List.getD_eq_getElem?_getD, hk]] at this ⊢)
  have HST := Lib.hid hst
  clear hst
  refine wpIn_rangeFunc_ownG rfl (Nat.le_succ 1) (gf := 28) (lb := #[.pointer (some ⟨w.heap.size + 2, 0, none⟩), .pointer (some ⟨w.heap.size + 3, 0, none⟩)]) rfl trivial (enters_of Try.func28 (by kernel_rfl) rfl)
    HST.out KpR12.trans (KpR12.put (by omega) (by omega)) (Below.refl _ _) (fun _ => rfl)
    (Col12 w (.func (.func 26) #[] #[.pointer (some ⟨w.heap.size, 0, none⟩)]))
    (fun _ _ _ => False)
    (Col12.own _ _ _ (by omega))
    (fun _ _ _ _ _ hs _ _ => hs)
    ⟨⟨_, bO, World.ownsRow_nil _ _ _ _, trivial⟩, bM, hB0⟩
    (fun x => { tmps := #[v, .int .i64 m, undef, .pointer (some ⟨w.heap.size, 0, none⟩), .slice none 0 0, .pointer (some ⟨w.heap.size + 1, 0, none⟩), .int .i64 (x : Int), v, .slice A n n, .func (.func 26) #[] #[.pointer (some ⟨w.heap.size, 0, none⟩)], .func (.func 28) #[] #[.pointer (some ⟨w.heap.size + 1 + 1, 0, none⟩), .pointer (some ⟨w.heap.size + 1 + 1 + 1, 0, none⟩)], .int .i64 (x : Int), undef, undef, undef, undef, undef], defers := [] }) ?assign ?body ?done ?stop
  case assign =>
    intro l x W K hK
    gi_wp2
    exact hK
  case body =>
    rintro l pre x W ⟨⟨u, hv, hrow, _⟩, hbm, hB⟩ hlt
    have hc := hv.cell
    obtain ⟨i0, hi, hz0, hz1, hz2⟩ := info_parts info_i64
    gi_wp2_with (gi_at_builtin; refine wpListIn_append_own _ rfl _ _ 22 rfl (w.heap.size + 1) 3 i0 (.int .i64 0) 1 8 Try.underlying22 hi hz0 hz1 hz2 rfl (by decide) _ _ _ rfl (hrow.alloc _) ⟨W.heap.size, 0, none⟩ 1 1 [.int .i64 (x : Int)] rfl rfl (cell_one_new _ _ _) (by simp [Value.oneCell']) (by simp only [maxLen]; omega) (by omega) (by have := hv.lt; simp; omega) ?_; intro v' w1 hown' hgrow _; obtain ⟨g', cap', rfl⟩ := ownsRow_succ hown'; obtain ⟨hv1, hk2, hp2, hC2⟩ := Col12.step hv hrow hbm hB hown' hgrow W0.heap.size; have hc1 := hv1.cell; have hf1 := hv1.frozen)
    exact ⟨hk2, hp2, hC2⟩
  case done =>
    rintro D ys W hD rfl hC hK
    obtain ⟨u, hv, A', k, c', rfl, hI, hb, hN⟩ := hC.fin hK (by omega)
    have hc := hv.cell
    gi_wp2
    refine ⟨by simp, .inl ⟨_, _, rfl, run_takeDeferred hK, ?_⟩⟩
    exact ⟨_, results_tmp rfl _ _ _, A', k, c', rfl, by rw [← kept_from]; exact hI, hb, hN⟩
  case stop =>
    rintro D c pre W _ _ h _
    exact h.elim

end Go.Proofs.Ytojmhkdlaalifaa
