/-
  Layer 12: Differ.
-/
import Derived.Test.YtojmhkdlaalifaaRefF
namespace Go.Proofs.Ytojmhkdlaalifaa
open Go.RowKit Go.Shelf
set_option linter.unusedVariables false
set_option linter.unusedSimpArgs false
attribute [local go_sem] Oper.semAt_some

set_option maxRecDepth 100000 in
set_option maxHeartbeats 800000 in
theorem meetsD (k : Nat) (x : Int) (b : Nat) {B : Option Addr} {m d : Nat} {Lb : List Int} (w : World) (h : w.cell? ⟨b, 0, none⟩ = some (.slice B m d)) (hI : Ints w B m d Lb) (hk0 : k ≤ 65536) :
    Calls Try.prog 27 #[.int .i64 (k : Int), .int .i64 x, .pointer (some ⟨b, 0, none⟩)] w fun e w' => e = .returned (.bool (!(decide (k < m) && decide (x = Lb.getD k 0)))) ∧ w = w' := by
  have hle := hI.le
  have hl := hI.len
  have hcap := hI.cap
  by_cases hk : k < m
  · obtain ⟨b1, off, hB, _, hc⟩ := hI.row.lit (by rw [i64s_length]; omega)
    have hck := hc k _ (i64s_at Lb k (by omega))
    rw [show Lb.getD k 0 = Lb[k]'(by omega) by simp [List.getD_eq_getElem?_getD, show k < Lb.length by omega]]
    subst hB
    generalize Lb[k]'(by omega) = y at *
    have hr : (!(decide (k < m) && decide (x = y))) = (x != y) := by rw [decide_eq_true hk]; by_cases e : x = y <;> simp [e]
    rw [hr]
    obtain ⟨r, hr2⟩ : ∃ r, (x != y) = r := ⟨_, rfl⟩
    rw [hr2]
    have hd : decide ((m : Int) ≤ (k : Int)) = false := by simp; omega
    have hd2 : decide (m ≤ k) = false := by simp; omega
    clear hc hI hr hl
    go_enter Try.func27, Try.ntmps27
    go_wp2
    go_ret
    exact ⟨rfl, rfl⟩
  · have hr : (!(decide (k < m) && decide (x = Lb.getD k 0))) = true := by simp [hk]
    rw [hr]
    have hd : decide ((m : Int) ≤ (k : Int)) = true := by simp; omega
    have hd2 : decide (m ≤ k) = true := by simp; omega
    clear hI hr hl
    go_enter Try.func27, Try.ntmps27
    go_wp2
    go_ret
    exact ⟨rfl, rfl⟩

set_option maxRecDepth 100000 in
set_option maxHeartbeats 2000000 in
theorem Differ12_keep {A B : Option Addr} {n c m d : Nat} {La Lb : List Int} (w : World) (hA : Ints w A n c La) (hB : Ints w B m d Lb) (hn : n ≤ 65536) (hm : m ≤ n) :
    Calls Try.prog 21 #[.slice A n c, .slice B m d] w fun e w' => ∃ A' k c', e = .returned (.slice A' k c') ∧ Ints w' A' k c' (difR12 La Lb n) ∧ Below w.heap.size w w' ∧ Newer w.heap.size A' := by
  have HA := Lib.hid hA
  have HB := Lib.hid hB
  have hcA := hA.cap
  have hmA := hA.most
  have hcB := hB.cap
  have hmB := hB.most
  clear hA hB
  have hd : decide ((n : Int) < (m : Int)) = false := by simp; omega
  refine (callsIn_wide (n := 2)).1 ?_
  refine callsIn_of_wp_marks Try.func21 rfl trivial ?_ rfl
  simp only [Try.ntmps21, List.size_toArray, List.length_cons, List.length_nil, Nat.reduceAdd, Nat.reduceSub, Array.replicate_succ, Array.replicate_zero, List.push_toArray, List.append_toArray, List.nil_append, List.cons_append]
  gi_wp2_with (refine ⟨trivial, ?_⟩; gi_at_call 25; refine (callsIn_wide.2 (where_in _ _ _ _ _ _)).mono ?_; rintro e w' ⟨rfl, rfl⟩)
  obtain ⟨W0, hW0⟩ : ∃ W0, ((((w.alloc (.cells #[.slice B m d] 22)).alloc (.cells #[.slice none 0 0] 22)).alloc (.cells #[.slice A n c] 22)).alloc (.cells #[.func (.func 27) #[] #[.pointer (some ⟨w.heap.size, 0, none⟩)]] 51)) = W0 := ⟨_, rfl⟩
  have hsz : W0.heap.size = w.heap.size + 4 := by rw [← hW0]; simp
  have b0 : Boxed W0 w.heap.size 22 (.slice B m d) := by rw [← hW0]; exact (((Boxed.new w _ _).alloc _).alloc _).alloc _
  have bO : Boxed W0 (w.heap.size + 1) 22 (.slice none 0 0) := by
    have := Boxed.new (w.alloc (.cells #[.slice B m d] 22)) 22 (.slice none 0 0)
    rw [World.size_alloc] at this
    rw [← hW0]; exact (this.alloc _).alloc _
  have bC : Boxed W0 (w.heap.size + 2) 22 (.slice A n c) := by
    have := Boxed.new ((w.alloc (.cells #[.slice B m d] 22)).alloc (.cells #[.slice none 0 0] 22)) 22 (.slice A n c)
    rw [World.size_alloc, World.size_alloc] at this
    rw [← hW0]; exact this.alloc _
  have bM : Boxed W0 (w.heap.size + 3) 51 (.func (.func 27) #[] #[.pointer (some ⟨w.heap.size, 0, none⟩)]) := by
    have := Boxed.new (((w.alloc (.cells #[.slice B m d] 22)).alloc (.cells #[.slice none 0 0] 22)).alloc (.cells #[.slice A n c] 22)) 51 (.func (.func 27) #[] #[.pointer (some ⟨w.heap.size, 0, none⟩)])
    rw [World.size_alloc, World.size_alloc, World.size_alloc] at this
    rw [← hW0]; exact this
  have hB0 : Below w.heap.size w W0 := by rw [← hW0]; exact ((((Below.refl _ w).alloc (Nat.le_refl _) _).alloc (by simp) _).alloc (by simp; omega) _).alloc (by simp; omega) _
  simp only [hW0]
  clear hW0
  have hst := where_stops 27 (.pointer (some ⟨w.heap.size, 0, none⟩)) (difB12 La Lb) (enters_of Try.func27 (by kernel_rfl) rfl) (w.heap.size + 2) (w.heap.size + 3) (w.heap.size + 1) A n c La W0 (by omega) bC.cell bM.cell (HA.out.below hB0)
    (fun h0 ad e => by
      obtain ⟨b, off, e2, hl, _⟩ := HA.out.row.lit (by rw [i64s_length]; exact h0)
      rw [e] at e2
      cases e2; exact Nat.lt_succ_of_lt hl)
    (fun W' k hk hb => by
      have hc : W'.cell? ⟨w.heap.size, 0, none⟩ = some (.slice B m d) := (hb.cell (p := ⟨w.heap.size, 0, none⟩) (Nat.lt_succ_self _)).trans b0.cell
      have hI2 := (HB.out.below hB0).below ((Below.refl W0.heap.size W0))
      have hI3 : Ints W' B m d Lb := HB.out.below (hB0.trans (hb.mono (by omega)))
      have := meetsD k La[k] w.heap.size W' hc hI3 (by have := HA.out.len; omega)
      rwa [show (!(decide (k < m) && decide (La[k] = Lb.getD k 0))) = difB12 La Lb k by simp [difB12, hk, HB.out.len, List.getD_eq_getElem?_getD]] at this)
  have HST := Lib.hid hst
  clear hst
  refine wpIn_rangeFunc_ownG rfl (Nat.le_succ 1) (gf := 28) (lb := #[.pointer (some ⟨w.heap.size + 2, 0, none⟩), .pointer (some ⟨w.heap.size + 3, 0, none⟩)]) rfl trivial (enters_of Try.func28 (by kernel_rfl) rfl)
    HST.out KpR12.trans (KpR12.put (by omega) (by omega)) (Below.refl _ _) (fun _ => rfl)
    (Col12 w (.func (.func 27) #[] #[.pointer (some ⟨w.heap.size, 0, none⟩)]))
    (fun _ _ _ => False)
    (Col12.own _ _ _ (by omega))
    (fun _ _ _ _ _ hs _ _ => hs)
    ⟨⟨_, bO, World.ownsRow_nil _ _ _ _, trivial⟩, bM, hB0⟩
    (fun x => { tmps := #[.slice A n c, .slice B m d, undef, .pointer (some ⟨w.heap.size, 0, none⟩), .slice none 0 0, .pointer (some ⟨w.heap.size + 1, 0, none⟩), .int .i64 (x : Int), .slice A n c, .int .i64 (n : Int), .slice B m d, .int .i64 (m : Int), .bool false, undef, undef, .slice A n c, .func (.func 27) #[] #[.pointer (some ⟨w.heap.size, 0, none⟩)], .func (.func 28) #[] #[.pointer (some ⟨w.heap.size + 1 + 1, 0, none⟩), .pointer (some ⟨w.heap.size + 1 + 1 + 1, 0, none⟩)], .int .i64 (x : Int), undef, undef, undef, undef, undef], defers := [] }) ?assign ?body ?done ?stop
  case assign =>
    intro l x W K hK
    gi_wp2
    exact hK
  case body =>
    rintro l pre x W ⟨⟨u, hv, hrow, _⟩, hbm, hB⟩ hlt
    have hc := hv.cell
    obtain ⟨i0, hi, hz0, hz1, hz2⟩ := info_parts info_i64
    gi_wp2_with (gi_at_builtin; refine wpListIn_append_own _ rfl _ _ 22 rfl (w.heap.size + 1) 3 i0 (.int .i64 0) 1 8 Try.underlying22 hi hz0 hz1 hz2 rfl (by decide) _ _ _ rfl (hrow.alloc _) ⟨W.heap.size, 0, none⟩ 1 1 [.int .i64 (x : Int)] rfl rfl (cell_one_new _ _ _) (by simp [Value.oneCell']) (by simp only [maxLen]; omega) (by omega) (by have := hv.lt; simp; omega) ?_; intro v' w1 hown' hgrow _; obtain ⟨g', cap', rfl⟩ := ownsRow_succ hown'; obtain ⟨hv1, hk2, hp2, hC2⟩ := Col12.step hv hrow hbm hB hown' hgrow W0.heap.size; have hc1 := hv1.cell; have hf1 := hv1.frozen)
    exact ⟨hk2, hp2, hC2⟩
  case done =>
    rintro D ys W hD rfl hC hK
    obtain ⟨u, hv, A', k, c', rfl, hI, hb, hN⟩ := hC.fin hK (by omega)
    have hc := hv.cell
    gi_wp2
    refine ⟨by simp, .inl ⟨_, _, rfl, run_takeDeferred hK, ?_⟩⟩
    exact ⟨_, results_tmp rfl _ _ _, A', k, c', rfl, hI, hb, hN⟩
  case stop =>
    rintro D c pre W _ _ h _
    exact h.elim

set_option maxRecDepth 100000 in
set_option maxHeartbeats 2000000 in
theorem Differ12_swap {A B : Option Addr} {n c m d : Nat} {La Lb : List Int} (w : World) (hA : Ints w A n c La) (hB : Ints w B m d Lb) (hm : m ≤ 65536) (hn : n < m) :
    Calls Try.prog 21 #[.slice A n c, .slice B m d] w fun e w' => ∃ A' k c', e = .returned (.slice A' k c') ∧ Ints w' A' k c' (difR12 Lb La m) ∧ Below w.heap.size w w' ∧ Newer w.heap.size A' := by
  have HA := Lib.hid hA
  have HB := Lib.hid hB
  have hcA := hA.cap
  have hmA := hA.most
  have hcB := hB.cap
  have hmB := hB.most
  clear hA hB
  have hd : decide ((n : Int) < (m : Int)) = true := by simp; omega
  refine (callsIn_wide (n := 2)).1 ?_
  refine callsIn_of_wp_marks Try.func21 rfl trivial ?_ rfl
  simp only [Try.ntmps21, List.size_toArray, List.length_cons, List.length_nil, Nat.reduceAdd, Nat.reduceSub, Array.replicate_succ, Array.replicate_zero, List.push_toArray, List.append_toArray, List.nil_append, List.cons_append]
  gi_wp2_with (refine ⟨trivial, ?_⟩; gi_at_call 25; refine (callsIn_wide.2 (where_in _ _ _ _ _ _)).mono ?_; rintro e w' ⟨rfl, rfl⟩)
  obtain ⟨W0, hW0⟩ : ∃ W0, ((((w.alloc (.cells #[.slice A n c] 22)).alloc (.cells #[.slice none 0 0] 22)).alloc (.cells #[.slice B m d] 22)).alloc (.cells #[.func (.func 27) #[] #[.pointer (some ⟨w.heap.size, 0, none⟩)]] 51)) = W0 := ⟨_, rfl⟩
  have hsz : W0.heap.size = w.heap.size + 4 := by rw [← hW0]; simp
  have b0 : Boxed W0 w.heap.size 22 (.slice A n c) := by rw [← hW0]; exact (((Boxed.new w _ _).alloc _).alloc _).alloc _
  have bO : Boxed W0 (w.heap.size + 1) 22 (.slice none 0 0) := by
    have := Boxed.new (w.alloc (.cells #[.slice A n c] 22)) 22 (.slice none 0 0)
    rw [World.size_alloc] at this
    rw [← hW0]; exact (this.alloc _).alloc _
  have bC : Boxed W0 (w.heap.size + 2) 22 (.slice B m d) := by
    have := Boxed.new ((w.alloc (.cells #[.slice A n c] 22)).alloc (.cells #[.slice none 0 0] 22)) 22 (.slice B m d)
    rw [World.size_alloc, World.size_alloc] at this
    rw [← hW0]; exact this.alloc _
  have bM : Boxed W0 (w.heap.size + 3) 51 (.func (.func 27) #[] #[.pointer (some ⟨w.heap.size, 0, none⟩)]) := by
    have := Boxed.new (((w.alloc (.cells #[.slice A n c] 22)).alloc (.cells #[.slice none 0 0] 22)).alloc (.cells #[.slice B m d] 22)) 51 (.func (.func 27) #[] #[.pointer (some ⟨w.heap.size, 0, none⟩)])
    rw [World.size_alloc, World.size_alloc, World.size_alloc] at this
    rw [← hW0]; exact this
  have hB0 : Below w.heap.size w W0 := by rw [← hW0]; exact ((((Below.refl _ w).alloc (Nat.le_refl _) _).alloc (by simp) _).alloc (by simp; omega) _).alloc (by simp; omega) _
  simp only [hW0]
  clear hW0
  have hst := where_stops 27 (.pointer (some ⟨w.heap.size, 0, none⟩)) (difB12 Lb La) (enters_of Try.func27 (by kernel_rfl) rfl) (w.heap.size + 2) (w.heap.size + 3) (w.heap.size + 1) B m d Lb W0 (by omega) bC.cell bM.cell (HB.out.below hB0)
    (fun h0 ad e => by
      obtain ⟨b, off, e2, hl, _⟩ := HB.out.row.lit (by rw [i64s_length]; exact h0)
      rw [e] at e2
      cases e2; exact Nat.lt_succ_of_lt hl)
    (fun W' k hk hb => by
      have hc : W'.cell? ⟨w.heap.size, 0, none⟩ = some (.slice A n c) := (hb.cell (p := ⟨w.heap.size, 0, none⟩) (Nat.lt_succ_self _)).trans b0.cell
      have hI2 := (HA.out.below hB0).below ((Below.refl W0.heap.size W0))
      have hI3 : Ints W' A n c La := HA.out.below (hB0.trans (hb.mono (by omega)))
      have := meetsD k Lb[k] w.heap.size W' hc hI3 (by have := HB.out.len; omega)
      rwa [show (!(decide (k < n) && decide (Lb[k] = La.getD k 0))) = difB12 Lb La k by simp [difB12, hk, HA.out.len, List.getD_eq_getElem?_getD]] at this)
  have HST := Lib.hid hst
  clear hst
  refine wpIn_rangeFunc_ownG rfl (Nat.le_succ 1) (gf := 28) (lb := #[.pointer (some ⟨w.heap.size + 2, 0, none⟩), .pointer (some ⟨w.heap.size + 3, 0, none⟩)]) rfl trivial (enters_of Try.func28 (by kernel_rfl) rfl)
    HST.out KpR12.trans (KpR12.put (by omega) (by omega)) (Below.refl _ _) (fun _ => rfl)
    (Col12 w (.func (.func 27) #[] #[.pointer (some ⟨w.heap.size, 0, none⟩)]))
    (fun _ _ _ => False)
    (Col12.own _ _ _ (by omega))
    (fun _ _ _ _ _ hs _ _ => hs)
    ⟨⟨_, bO, World.ownsRow_nil _ _ _ _, trivial⟩, bM, hB0⟩
    (fun x => { tmps := #[.slice B m d, .slice B m d, undef, .pointer (some ⟨w.heap.size, 0, none⟩), .slice none 0 0, .pointer (some ⟨w.heap.size + 1, 0, none⟩), .int .i64 (x : Int), .slice A n c, .int .i64 (n : Int), .slice B m d, .int .i64 (m : Int), .bool true, .slice B m d, .slice A n c, .slice B m d, .func (.func 27) #[] #[.pointer (some ⟨w.heap.size, 0, none⟩)], .func (.func 28) #[] #[.pointer (some ⟨w.heap.size + 1 + 1, 0, none⟩), .pointer (some ⟨w.heap.size + 1 + 1 + 1, 0, none⟩)], .int .i64 (x : Int), undef, undef, undef, undef, undef], defers := [] }) ?assign ?body ?done ?stop
  case assign =>
    intro l x W K hK
    gi_wp2
    exact hK
  case body =>
    rintro l pre x W ⟨⟨u, hv, hrow, _⟩, hbm, hB⟩ hlt
    have hc := hv.cell
    obtain ⟨i0, hi, hz0, hz1, hz2⟩ := info_parts info_i64
    gi_wp2_with (gi_at_builtin; refine wpListIn_append_own _ rfl _ _ 22 rfl (w.heap.size + 1) 3 i0 (.int .i64 0) 1 8 Try.underlying22 hi hz0 hz1 hz2 rfl (by decide) _ _ _ rfl (hrow.alloc _) ⟨W.heap.size, 0, none⟩ 1 1 [.int .i64 (x : Int)] rfl rfl (cell_one_new _ _ _) (by simp [Value.oneCell']) (by simp only [maxLen]; omega) (by omega) (by have := hv.lt; simp; omega) ?_; intro v' w1 hown' hgrow _; obtain ⟨g', cap', rfl⟩ := ownsRow_succ hown'; obtain ⟨hv1, hk2, hp2, hC2⟩ := Col12.step hv hrow hbm hB hown' hgrow W0.heap.size; have hc1 := hv1.cell; have hf1 := hv1.frozen)
    exact ⟨hk2, hp2, hC2⟩
  case done =>
    rintro D ys W hD rfl hC hK
    obtain ⟨u, hv, A', k, c', rfl, hI, hb, hN⟩ := hC.fin hK (by omega)
    have hc := hv.cell
    gi_wp2
    refine ⟨by simp, .inl ⟨_, _, rfl, run_takeDeferred hK, ?_⟩⟩
    exact ⟨_, results_tmp rfl _ _ _, A', k, c', rfl, hI, hb, hN⟩
  case stop =>
    rintro D c pre W _ _ h _
    exact h.elim

theorem difB12_comm (a b : List Int) (i : Nat) : difB12 a b i = difB12 b a i := by
  unfold difB12
  rw [Bool.and_comm (decide (i < a.length)), show decide (a.getD i 0 = b.getD i 0) = decide (b.getD i 0 = a.getD i 0) from decide_eq_decide.2 eq_comm]
theorem difR12_comm (a b : List Int) (k : Nat) : difR12 a b k = difR12 b a k := by
  unfold difR12
  rw [show (fun i => difB12 a b i) = fun i => difB12 b a i from funext fun i => difB12_comm a b i]

theorem Differ12_any {A B : Option Addr} {n c m d : Nat} {La Lb : List Int} (w : World) (hA : Ints w A n c La) (hB : Ints w B m d Lb) (hn : n ≤ 65536) (hm : m ≤ 65536) :
    Calls Try.prog 21 #[.slice A n c, .slice B m d] w fun e w' => ∃ A' k c', e = .returned (.slice A' k c') ∧ Ints w' A' k c' (difR12 La Lb (mostR12 La Lb)) ∧ Below w.heap.size w w' ∧ Newer w.heap.size A' := by
  have e : mostR12 La Lb = max n m := by rw [mostR12, hA.len, hB.len]
  rw [e]
  by_cases h : m ≤ n
  · rw [Nat.max_eq_left h]
    exact Differ12_keep w hA hB hn h
  · rw [Nat.max_eq_right (by omega), difR12_comm]
    exact Differ12_swap w hA hB hm (by omega)

end Go.Proofs.Ytojmhkdlaalifaa
