/-
  Joined, on top of PolB: RegS 0, RegI 9, PolS 3, PolU 1, PolV 1, PgE 2, PgF 2, MemN 1, MemC 1, MemP 1, PgC 8, PgN 3, PolLawC 8, PolIv 33, PolLawD 1.
-/
import Derived.Test.YtlmpaelcnnnkfaaJPolB00
import Derived.Test.YtlmpaelcnnnkfaaJPolB01
import Derived.Test.YtlmpaelcnnnkfaaJPolB02
import Derived.Test.YtlmpaelcnnnkfaaJPolB03
import Derived.Test.YtlmpaelcnnnkfaaJPolB04
import Derived.Test.YtlmpaelcnnnkfaaJPolB05
import Derived.Test.YtlmpaelcnnnkfaaJPolB06
import Derived.Test.YtlmpaelcnnnkfaaJPolB07
import Derived.Test.YtlmpaelcnnnkfaaJPolB08
import Derived.Test.YtlmpaelcnnnkfaaJPolB09
import Derived.Test.YtlmpaelcnnnkfaaJPolB10
import Derived.Test.YtlmpaelcnnnkfaaJPolB11
import Derived.Test.YtlmpaelcnnnkfaaJPolB12
import Derived.Test.YtlmpaelcnnnkfaaJPolB13
import Derived.Test.YtlmpaelcnnnkfaaJPolB14
import Derived.Test.YtlmpaelcnnnkfaaJPolB15
import Derived.Test.YtlmpaelcnnnkfaaJPolB16
import Derived.Test.YtlmpaelcnnnkfaaJPolB17
import Derived.Test.YtlmpaelcnnnkfaaJPolB18
import Derived.Test.YtlmpaelcnnnkfaaJPolB19
import Derived.Test.YtlmpaelcnnnkfaaJPolB20
import Derived.Test.YtlmpaelcnnnkfaaJPolB21
import Derived.Deep.RegionHeld3
import Derived.Deep.AppendLies
import Derived.Laws.Small
/-
  A region that draws its order: operations that a guard strikes, all at once.
-/
namespace Go.Proofs.Ytlmpaelcnnnkfaa
set_option linter.unusedVariables false
set_option linter.unusedSimpArgs false

section
variable {P : Program} {ops : Array Oper} {Q : Exit → Act → World → Prop} {md : Region.Mode} {S : World → Prop}

end

end Go.Proofs.Ytlmpaelcnnnkfaa

/-
  A region that draws its order, by an invariant of what is listed, the frame and the world: each operation once, whatever came before it.
-/
namespace Go.Proofs.Ytlmpaelcnnnkfaa
set_option linter.unusedVariables false
set_option linter.unusedSimpArgs false

/-- is operation j listed -/
def lst (l : Array Bool) (j : Nat) : Bool := l.getD j true
theorem lst_other {l : Array Bool} {i j : Nat} (h : i ≠ j) : lst (l.setIfInBounds i true) j = lst l j := by
  unfold lst
  rw [getD_set_ne true h]
section
variable {P : Program} {ops : Array Oper} {Q : Exit → Act → World → Prop} {md : Region.Mode}
theorem ready_un {l : Array Bool} {i : Nat} (h : i ∈ Region.ready md ops l) (hs : l.size = ops.size) : i < ops.size ∧ lst l i = false := by
  obtain ⟨h1, o, ho, _⟩ := mem_ready.1 h
  exact ⟨(Array.getElem?_eq_some_iff.1 ho).1, h1⟩
/-- what an operation waits for is listed -/
theorem ready_dep {l : Array Bool} {i : Nat} (h : i ∈ Region.ready md ops l) {o : Oper} (ho : ops[i]? = some o) {k : Nat} (hk : (o.after.toList.any fun e => Region.binds md e && e.on == k) = true) (hl : k < l.size) : lst l k = true := by
  obtain ⟨_, o', ho', hall⟩ := mem_ready.1 h
  rw [ho] at ho'
  cases ho'
  obtain ⟨e, hem, he⟩ := List.any_eq_true.1 hk
  simp only [Bool.and_eq_true, beq_iff_eq] at he
  have := hall e (by simpa using hem) he.1
  rw [he.2] at this
  unfold lst
  simpa [hl] using this
/-- where nothing is ready, what waits for nothing that is not listed is listed -/
theorem ready_none {l : Array Bool} (hr : Region.ready md ops l = []) {j : Nat} {o : Oper} (ho : ops[j]? = some o) (hd : (o.after.toList.all fun e => !Region.binds md e || l.getD e.on false) = true) : lst l j = true := by
  cases h : lst l j with
  | true => rfl
  | false =>
    have : j ∈ Region.ready md ops l := mem_ready.2 ⟨h, o, ho, fun e he hb => by
      have := List.all_eq_true.1 hd e (by simpa using he)
      rw [hb] at this
      simpa using this⟩
    rw [hr] at this
    cases this
theorem lst_get {l : Array Bool} {j : Nat} (hj : j < l.size) (h : lst l j = true) : l[j]?.getD false = true := by
  unfold lst at h
  simpa [hj] using h
theorem un_less {l : Array Bool} {i : Nat} (hi : i < l.size) (h : lst l i = false) : (l.setIfInBounds i true).toList.count false + 1 ≤ l.toList.count false := by
  have hil : i < l.toList.length := by simpa using hi
  have hli : l.toList[i] = false := by
    unfold lst at h
    simpa [hi] using h
  rw [Array.toList_setIfInBounds, List.count_set hil, hli]
  have : 0 < l.toList.count false := List.count_pos_iff.2 (hli ▸ List.getElem_mem hil)
  rw [if_pos (by rfl), if_neg (by decide)]
  omega
theorem wpAny_inv (Inv : Array Bool → Act → World → Prop) (hsz : ∀ l a w, Inv l a w → l.size = ops.size)
    (step : ∀ l a w i, Inv l a w → i ∈ Region.ready md ops l → wpOp P ops Q i (Inv (l.setIfInBounds i true)) a w)
    (fin : ∀ l a w, Inv l a w → Region.ready md ops l = [] → Q .normal a w) :
    ∀ fuel l a w, l.toList.count false ≤ fuel → Inv l a w → wpAny P md ops Q fuel l a w
  | 0, l, a, w, hf, h => by
    have hr : Region.ready md ops l = [] := by
      rw [List.eq_nil_iff_forall_not_mem]
      intro i hi
      have hs := hsz l a w h
      obtain ⟨h1, h2⟩ := ready_un hi hs
      have := un_less (l := l) (i := i) (by omega) h2
      omega
    exact ⟨hr, fin l a w h hr⟩
  | fuel + 1, l, a, w, hf, h => ⟨fin l a w h, fun i hi => by
    have hs := hsz l a w h
    obtain ⟨h1, h2⟩ := ready_un hi hs
    have hl := un_less (l := l) (i := i) (by omega) h2
    exact wpOp_mono (fun a' w' h' => wpAny_inv Inv hsz step fin fuel _ a' w' (by omega) h') (step l a w i h hi)⟩
theorem wp_region_inv {id : Nat} {a : Act} {w : World} (Inv : Array Bool → Act → World → Prop) (hm : P.follows .mixedOrders = true) (hsz : ∀ l a w, Inv l a w → l.size = ops.size) (h0 : Inv (Array.replicate ops.size false) a w.drew)
    (step : ∀ l a w i, Inv l a w → i ∈ Region.ready .any ops l → wpOp P ops Q i (Inv (l.setIfInBounds i true)) a w)
    (fin : ∀ l a w, Inv l a w → Region.ready .any ops l = [] → Q .normal a w) : (Code.region id ops true).wp P Q a w :=
  wp_region_any hm (wpAny_inv Inv hsz step fin _ _ a w.drew (by rw [Array.toList_replicate, List.count_replicate]; simp) h0)
end
end Go.Proofs.Ytlmpaelcnnnkfaa

/-
  Layer 18: the reference's Find.
-/
namespace Go.Proofs.Ytlmpaelcnnnkfaa
open Go.RowKit
set_option linter.unusedVariables false
set_option linter.unusedSimpArgs false

/-- a device as a value, in a variable -/
def devV18 (d : Dev18) (A : Option Addr) (m c : Nat) : Value := .agg #[.int .i64 d.id, .int .i64 d.tx, .int .i64 d.made, .int .i64 d.snap, .slice A m c]
theorem DevC.load {w : World} {b : Nat} {a0 a1 a2 a3 : Int} {A : Option Addr} {n c : Nat} (h : DevC w b (.int .i64 a0) (.int .i64 a1) (.int .i64 a2) (.int .i64 a3) (.slice A n c)) : (loadVar 32 ⟨b, 0, none⟩).run Try.prog w = .ok (.agg #[.int .i64 a0, .int .i64 a1, .int .i64 a2, .int .i64 a3, .slice A n c]) w := run_loadVar_row w b _ _ _ _ _ h Try.underlying32 rfl (by kernel_rfl)
theorem DevC.set5 {w : World} {b : Nat} {v0 v1 v2 v3 v4 : Value} (h : DevC w b v0 v1 v2 v3 v4) (a0 a1 a2 a3 a4 : Value) : DevC (((((w.setCell ⟨b, 0, none⟩ a0).setCell ⟨b, 1, none⟩ a1).setCell ⟨b, 2, none⟩ a2).setCell ⟨b, 3, none⟩ a3).setCell ⟨b, 4, none⟩ a4) b a0 a1 a2 a3 a4 := by
  have h1 : Blk w b 32 [v0, v1, v2, v3, v4] := h
  exact ((((h1.set 0 a0).set 1 a1).set 2 a2).set 3 a3).set 4 a4
end Go.Proofs.Ytlmpaelcnnnkfaa

/-
  Layer 18: the reference's SameDevice.
-/
namespace Go.Proofs.Ytlmpaelcnnnkfaa
open Go.RowKit
set_option linter.unusedVariables false
set_option linter.unusedSimpArgs false

theorem SamD18.eq {a b : Dev18} (h : SamD18 a b) : a = b := by
  cases a; cases b
  obtain ⟨h1, h2, h3, h4, h5⟩ := h
  simp only at h1 h2 h3 h4 h5
  subst h1 h2 h3 h4 h5
  rfl

end Go.Proofs.Ytlmpaelcnnnkfaa

/-
  Layer 18: the reference's Same.
-/
namespace Go.Proofs.Ytlmpaelcnnnkfaa
open Go.RowKit
set_option linter.unusedVariables false
set_option linter.unusedSimpArgs false

/-- are pools the same -/
def SamP18 (p q : Pol18) : Prop := p.tx = q.tx ∧ p.time = q.time ∧ p.unit = q.unit ∧ p.data = q.data ∧ p.devs = q.devs
end Go.Proofs.Ytlmpaelcnnnkfaa

/-
  Layer 18: slices.Equal of mappings; alike.
-/
namespace Go.Proofs.Ytlmpaelcnnnkfaa
open Go.RowKit
set_option linter.unusedVariables false
set_option linter.unusedSimpArgs false

set_option maxRecDepth 100000 in
set_option maxHeartbeats 1600000 in
theorem EqualMaps_any18 (A A2 : Option Addr) (n c n2 c2 : Nat) (l l2 : List (Int × Int × Int)) (w : World) (h : Trs w A n c l) (h2 : Trs w A2 n2 c2 l2) (r : Bool) (hr : decide (l = l2) = r) :
    Calls Try.prog 36 #[.slice A n c, .slice A2 n2 c2] w fun e w' => e = .returned (.bool r) ∧ Below w.heap.size w w' := by
  have hle : n ≤ 9223372036854775807 := Nat.le_trans h.cap h.most
  have hle2 : n2 ≤ 9223372036854775807 := Nat.le_trans h2.cap h2.most
  have hl := h.len
  have hl2 := h2.len
  by_cases hn : n = n2
  · subst hn
    have HR := Lib.hid hr
    have HC := Lib.hid (fun (k : Nat) (hk : k < n) => trs_at18 h hk)
    have HC2 := Lib.hid (fun (k : Nat) (hk : k < n) => trs_at18 h2 hk)
    clear h h2 hr
    go_enter Try.func36, Try.ntmps36
    go_wp2
    go_loopw [13] (fun i wr => ∃ k : Nat, k ≤ n ∧ i = .int .i64 k ∧ Hid (l.take k = l2.take k) ∧ Hid (Below w.heap.size w wr)) (fun i _ => n - (intOf i).toNat)
    case atStart => exact ⟨0, by omega, rfl, rfl, Below.refl _ _⟩
    case round =>
      obtain ⟨k, hk, rfl, hT, hbel⟩ := hrel
      by_cases hlt : k < n
      · obtain ⟨b, off, x0, x1, x2, rfl, hb, hx, hkl, d0, d1, d2⟩ := HC.out k hlt
        obtain ⟨b2, off2, y0, y1, y2, rfl, hb2, hy, hkl2, e0, e1, e2⟩ := HC2.out k hlt
        rw [getD18 hkl] at hx
        rw [getD18 hkl2] at hy
        have c0 := (hbel.out.cell (p := ⟨b, off + k * 3, none⟩) hb).trans d0
        have c1 := (hbel.out.cell (p := ⟨b, off + k * 3 + 1, none⟩) hb).trans d1
        have c2 := (hbel.out.cell (p := ⟨b, off + k * 3 + 2, none⟩) hb).trans d2
        have g0 := (hbel.out.cell (p := ⟨b2, off2 + k * 3, none⟩) hb2).trans e0
        have g1 := (hbel.out.cell (p := ⟨b2, off2 + k * 3 + 1, none⟩) hb2).trans e1
        have g2 := (hbel.out.cell (p := ⟨b2, off2 + k * 3 + 2, none⟩) hb2).trans e2
        clear d0 d1 d2 e0 e1 e2
        by_cases hxy : x0 = y0 ∧ x1 = y1 ∧ x2 = y2
        · obtain ⟨rfl, rfl, rfl⟩ := hxy
          have hT1 : Hid (l.take (k + 1) = l2.take (k + 1)) := by
            rw [List.take_succ_eq_append_getElem hkl, List.take_succ_eq_append_getElem hkl2, hT.out, hx, hy]; rfl
          clear hx hy
          go_wp2
          go_region
          all_goals go_wp2
          all_goals go_roundw
          all_goals first
            | exact ⟨k + 1, by omega, by push_cast; rfl, hT1, hbel.out.drew⟩
            | (simp only [intOf]; omega)
        · obtain rfl : false = r := by
            rw [← HR.out]
            symm
            apply decide_eq_false
            intro h
            subst h
            rw [hx] at hy
            exact hxy (by simpa using hy)
          clear hx hy
          have hc3 : ¬ x0 = y0 ∨ (x0 = y0 ∧ ¬ x1 = y1) ∨ (x0 = y0 ∧ x1 = y1 ∧ ¬ x2 = y2) := by
            by_cases a : x0 = y0
            · by_cases b : x1 = y1
              · by_cases c : x2 = y2
                · exact absurd ⟨a, b, c⟩ hxy
                · exact .inr (.inr ⟨a, b, c⟩)
              · exact .inr (.inl ⟨a, b⟩)
            · exact .inl a
          clear hxy
          rcases hc3 with hne | ⟨rfl, hne⟩ | ⟨rfl, rfl, hne⟩
          all_goals
            go_wp2
            go_region
            all_goals go_wp2
            all_goals go_ret
            all_goals exact ⟨rfl, hbel.out.drew⟩
      · obtain rfl : k = n := by omega
        obtain rfl : true = r := by
          rw [← HR.out]
          symm
          apply decide_eq_true
          have := hT.out
          rwa [List.take_of_length_le (by omega), List.take_of_length_le (by omega)] at this
        go_wp2
        go_ret
        exact ⟨rfl, hbel.out⟩
  · obtain rfl : false = r := by
      rw [← hr]
      symm
      apply decide_eq_false
      intro h
      subst h
      omega
    have hnI : ¬ (n : Int) = (n2 : Int) := by omega
    clear h h2 hr
    go_enter Try.func36, Try.ntmps36
    go_wp2
    go_ret
    exact ⟨rfl, Below.refl _ _⟩

set_option maxRecDepth 100000 in
set_option maxHeartbeats 3200000 in
theorem alike_any18 (a b : Dev18) (A A2 : Option Addr) (n c n2 c2 : Nat) (w : World) (h : Trs w A n c a.maps) (h2 : Trs w A2 n2 c2 b.maps) (r : Bool) (hr : decide (SamD18 a b) = r) :
    Calls Try.prog 28 #[devV18 a A n c, devV18 b A2 n2 c2] w fun e w' => e = .returned (.bool r) ∧ Below w.heap.size w w' := by
  obtain ⟨W0, hW0⟩ : ∃ W0, w.alloc (.cells #[.int .i64 a.id, .int .i64 a.tx, .int .i64 a.made, .int .i64 a.snap, .slice A n c] 32) = W0 := ⟨_, rfl⟩
  obtain ⟨W1, hW1⟩ : ∃ W1, W0.alloc (.cells #[.int .i64 b.id, .int .i64 b.tx, .int .i64 b.made, .int .i64 b.snap, .slice A2 n2 c2] 32) = W1 := ⟨_, rfl⟩
  have hs0 : W0.heap.size = w.heap.size + 1 := by rw [← hW0]; exact World.size_alloc _ _
  have hb0 : Below w.heap.size w W0 := by rw [← hW0]; exact (Below.refl _ _).alloc (Nat.le_refl _) _
  have hb01 : Below W0.heap.size W0 W1 := by rw [← hW1]; exact (Below.refl _ _).alloc (Nat.le_refl _) _
  have hb1 : Below w.heap.size w W1 := hb0.trans (hb01.mono (by omega))
  have hR0 : DevC W0 w.heap.size (.int .i64 a.id) (.int .i64 a.tx) (.int .i64 a.made) (.int .i64 a.snap) (.slice A n c) := by rw [← hW0]; exact heap_alloc_new w _
  have hR1 : DevC W1 w.heap.size (.int .i64 a.id) (.int .i64 a.tx) (.int .i64 a.made) (.int .i64 a.snap) (.slice A n c) := (hb01.block _ (by omega)).trans hR0
  have hV1 : DevC W1 (w.heap.size + 1) (.int .i64 b.id) (.int .i64 b.tx) (.int .i64 b.made) (.int .i64 b.snap) (.slice A2 n2 c2) := by
    have := heap_alloc_new W0 (.cells #[.int .i64 b.id, .int .i64 b.tx, .int .i64 b.made, .int .i64 b.snap, .slice A2 n2 c2] 32)
    rw [hW1, hs0] at this
    exact this
  obtain ⟨⟨x0, x1, x2, x3, x4⟩, _⟩ := hR1.cs
  obtain ⟨⟨y0, y1, y2, y3, y4⟩, _⟩ := hV1.cs
  have HB := Lib.hid hb1
  have SM := Lib.hid (EqualMaps_any18 A A2 n c n2 c2 a.maps b.maps W1 (h.below hb1) (h2.below hb1) _ rfl)
  have hr' : (r = true) = (a.id = b.id ∧ a.tx = b.tx ∧ a.made = b.made ∧ a.snap = b.snap ∧ decide (a.maps = b.maps) = true) := by
    rw [← hr, decide_eq_true_eq, decide_eq_true_eq]
    rfl
  unfold devV18
  generalize decide (a.maps = b.maps) = rm at *
  clear h h2 hr hb0 hb01 hb1 hR0 hR1 hV1
  generalize a.id = u0 at *
  generalize a.tx = u1 at *
  generalize a.made = u2 at *
  generalize a.snap = u3 at *
  generalize b.id = z0 at *
  generalize b.tx = z1 at *
  generalize b.made = z2 at *
  generalize b.snap = z3 at *
  by_cases e0 : u0 = z0
  · by_cases e1 : u1 = z1
    · by_cases e2 : u2 = z2
      · by_cases e3 : u3 = z3
        · obtain rfl : r = rm := by cases r <;> cases rm <;> simp [e0, e1, e2, e3] at hr' <;> rfl
          subst e0 e1 e2 e3
          clear hr'
          go_enter Try.func28, Try.ntmps28
          go_wp2_with (go_at_call 36; (with_reducible refine (SM.out).mono ?_); rintro e w3 ⟨rfl, hb3⟩; have HB3 := Lib.hid (HB.out.trans (hb3.mono HB.out.size)); clear hb3)
          go_ret
          exact ⟨rfl, HB3.out⟩
        · obtain rfl : r = false := by cases r <;> simp [e3] at hr' <;> rfl
          subst e0 e1 e2
          clear hr'
          go_enter Try.func28, Try.ntmps28
          go_wp2
          go_ret
          exact ⟨rfl, HB.out⟩
      · obtain rfl : r = false := by cases r <;> simp [e2] at hr' <;> rfl
        subst e0 e1
        clear hr'
        go_enter Try.func28, Try.ntmps28
        go_wp2
        go_ret
        exact ⟨rfl, HB.out⟩
    · obtain rfl : r = false := by cases r <;> simp [e1] at hr' <;> rfl
      subst e0
      clear hr'
      go_enter Try.func28, Try.ntmps28
      go_wp2
      go_ret
      exact ⟨rfl, HB.out⟩
  · obtain rfl : r = false := by cases r <;> simp [e0] at hr' <;> rfl
    clear hr'
    go_enter Try.func28, Try.ntmps28
    go_wp2
    go_ret
    exact ⟨rfl, HB.out⟩
end Go.Proofs.Ytlmpaelcnnnkfaa

/-
  Layer 18: slices.EqualFunc of devices; Same.
-/
namespace Go.Proofs.Ytlmpaelcnnnkfaa
open Go.RowKit
set_option linter.unusedVariables false
set_option linter.unusedSimpArgs false

set_option maxRecDepth 100000 in
set_option maxHeartbeats 3200000 in
theorem EqualDevs_any18 (ds es : List Dev18) (A A2 : Option Addr) (n c n2 c2 : Nat) (w : World) (h : Dvs w A n c ds) (h2 : Dvs w A2 n2 c2 es) (r : Bool) (hr : r = true ↔ ds = es) :
    Calls Try.prog 27 #[.slice A n c, .slice A2 n2 c2, .func (.func 28) #[] #[]] w fun e w' => e = .returned (.bool r) ∧ Below w.heap.size w w' := by
  have hle : n ≤ 9223372036854775807 := Nat.le_trans h.cap h.most
  have hle2 : n2 ≤ 9223372036854775807 := Nat.le_trans h2.cap h2.most
  have hl := h.len
  have hl2 := h2.len
  have HD := Lib.hid h
  have HD2 := Lib.hid h2
  have HR := Lib.hid hr
  clear h h2 hr
  by_cases hn : n = n2
  · subst hn
    go_enter Try.func27, Try.ntmps27
    go_wp2
    go_loopw [17] (fun i wr => ∃ k : Nat, k ≤ n ∧ i = .int .i64 k ∧ Hid (ds.take k = es.take k) ∧ Hid (Below w.heap.size w wr)) (fun i _ => n - (intOf i).toNat)
    case atStart => exact ⟨0, by omega, rfl, rfl, Below.refl _ _⟩
    case round =>
      obtain ⟨k, hk, rfl, hT, hbel⟩ := hrel
      by_cases hlt : k < n
      · obtain ⟨b, off, A', m, c', rfl, hb, d0, d1, d2, d3, d4, hTm⟩ := HD.out.at18 hlt
        obtain ⟨b2, off2, A3, m3, c3, rfl, hb2, f0, f1, f2, f3, f4, hTm2⟩ := HD2.out.at18 hlt
        have g0 := (hbel.out.cell (p := ⟨b, off + k * 5, none⟩) hb).trans d0
        have g1 := (hbel.out.cell (p := ⟨b, off + k * 5 + 1, none⟩) hb).trans d1
        have g2 := (hbel.out.cell (p := ⟨b, off + k * 5 + 2, none⟩) hb).trans d2
        have g3 := (hbel.out.cell (p := ⟨b, off + k * 5 + 3, none⟩) hb).trans d3
        have g4 := (hbel.out.cell (p := ⟨b, off + k * 5 + 4, none⟩) hb).trans d4
        have hbw := hbel.out.alloc hbel.out.size (.cells #[.int .i64 (ds.getD k zero18).id, .int .i64 (ds.getD k zero18).tx, .int .i64 (ds.getD k zero18).made, .int .i64 (ds.getD k zero18).snap, .slice A' m c'] 32)
        have k0 := (hbw.cell (p := ⟨b2, off2 + k * 5, none⟩) hb2).trans f0
        have k1 := (hbw.cell (p := ⟨b2, off2 + k * 5 + 1, none⟩) hb2).trans f1
        have k2 := (hbw.cell (p := ⟨b2, off2 + k * 5 + 2, none⟩) hb2).trans f2
        have k3 := (hbw.cell (p := ⟨b2, off2 + k * 5 + 3, none⟩) hb2).trans f3
        have k4 := (hbw.cell (p := ⟨b2, off2 + k * 5 + 4, none⟩) hb2).trans f4
        have hbw2 := hbw.alloc hbw.size (.cells #[.int .i64 (es.getD k zero18).id, .int .i64 (es.getD k zero18).tx, .int .i64 (es.getD k zero18).made, .int .i64 (es.getD k zero18).snap, .slice A3 m3 c3] 32)
        obtain ⟨q, hq⟩ : ∃ q, decide (SamD18 (ds.getD k zero18) (es.getD k zero18)) = q := ⟨_, rfl⟩
        have SD := Lib.hid ((alike_any18 (ds.getD k zero18) (es.getD k zero18) A' A3 m c' m3 c3 _ (hTm.below hbw2) (hTm2.below hbw2) q hq).mono fun e w' ⟨h1, h3⟩ => (show e = Ending.returned (.bool q) ∧ Below w.heap.size w w' from ⟨h1, hbw2.trans (h3.mono hbw2.size)⟩))
        unfold devV18 at SD
        have hkl : k < ds.length := by omega
        have hkl2 : k < es.length := by omega
        have hsam : SamD18 (ds.getD k zero18) (es.getD k zero18) ↔ ds[k] = es[k] := by
          rw [getD18 hkl, getD18 hkl2]
          exact ⟨fun h => h.eq, fun h => by rw [h]; exact ⟨rfl, rfl, rfl, rfl, rfl⟩⟩
        have YES : Hid (q = true → ds.take (k + 1) = es.take (k + 1)) := fun e => by
          rw [List.take_succ_eq_append_getElem hkl, List.take_succ_eq_append_getElem hkl2, hT.out, hsam.1 (of_decide_eq_true (hq.trans e))]
        have NO : Hid (q = false → false = r) := fun e => by
          cases r
          · rfl
          · exfalso
            have h3 := HR.out.1 rfl
            subst h3
            exact of_decide_eq_false (hq.trans e) (hsam.2 rfl)
        have HBW := Lib.hid hbw2
        clear hbw hbw2 d0 d1 d2 d3 d4 f0 f1 f2 f3 f4 hTm hTm2 hq hsam hkl hkl2
        generalize (ds.getD k zero18).id = x0 at *
        generalize (ds.getD k zero18).tx = x1 at *
        generalize (ds.getD k zero18).made = x2 at *
        generalize (ds.getD k zero18).snap = x3 at *
        generalize (es.getD k zero18).id = y0 at *
        generalize (es.getD k zero18).tx = y1 at *
        generalize (es.getD k zero18).made = y2 at *
        generalize (es.getD k zero18).snap = y3 at *
        cases q with
        | true =>
          have hT1 := Lib.hid (YES.out rfl)
          clear YES NO
          go_wp2_with (go_at_call 28; (with_reducible refine (SD.out).mono ?_); rintro e w6 ⟨rfl, hb6⟩; have HB6 := Lib.hid hb6; clear hb6)
          go_roundw
          all_goals first
            | exact ⟨k + 1, by omega, by push_cast; rfl, hT1, HB6⟩
            | (simp only [intOf]; omega)
        | false =>
          obtain rfl := NO.out rfl
          clear YES NO
          go_wp2_with (go_at_call 28; (with_reducible refine (SD.out).mono ?_); rintro e w6 ⟨rfl, hb6⟩; have HB6 := Lib.hid hb6; clear hb6)
          go_ret
          exact ⟨rfl, HB6.out⟩
      · obtain rfl : k = n := by omega
        obtain rfl : true = r := (HR.out.2 (by
          have := hT.out
          rwa [List.take_of_length_le (by omega), List.take_of_length_le (by omega)] at this)).symm
        go_wp2
        go_ret
        exact ⟨rfl, hbel.out⟩
  · obtain rfl : false = r := by
      cases r
      · rfl
      · exfalso
        have h3 := HR.out.1 rfl
        subst h3
        omega
    have hnI : ¬ (n : Int) = (n2 : Int) := by omega
    go_enter Try.func27, Try.ntmps27
    go_wp2
    go_ret
    exact ⟨rfl, Below.refl _ _⟩

set_option maxRecDepth 100000 in
set_option maxHeartbeats 3200000 in
theorem Same_any18 (p q : Pol18) (A A2 : Option Addr) (n c n2 c2 : Nat) (w : World) (h : Dvs w A n c p.devs) (h2 : Dvs w A2 n2 c2 q.devs) (r : Bool) (hr : r = true ↔ SamP18 p q) :
    Calls Try.prog 10 #[polV18 p A n c, polV18 q A2 n2 c2] w fun e w' => e = .returned (.bool r) ∧ Below w.heap.size w w' := by
  obtain ⟨W0, hW0⟩ : ∃ W0, w.alloc (.cells #[.int .i64 p.tx, .int .i64 p.time, .int .i64 p.unit, .int .i64 p.data, .slice A n c] 24) = W0 := ⟨_, rfl⟩
  obtain ⟨W1, hW1⟩ : ∃ W1, W0.alloc (.cells #[.int .i64 q.tx, .int .i64 q.time, .int .i64 q.unit, .int .i64 q.data, .slice A2 n2 c2] 24) = W1 := ⟨_, rfl⟩
  have hs0 : W0.heap.size = w.heap.size + 1 := by rw [← hW0]; exact World.size_alloc _ _
  have hs1 : W1.heap.size = w.heap.size + 2 := by rw [← hW1, World.size_alloc, hs0]
  have hb0 : Below w.heap.size w W0 := by rw [← hW0]; exact (Below.refl _ _).alloc (Nat.le_refl _) _
  have hb01 : Below W0.heap.size W0 W1 := by rw [← hW1]; exact (Below.refl _ _).alloc (Nat.le_refl _) _
  have hb1 : Below w.heap.size w W1 := hb0.trans (hb01.mono (by omega))
  have hR0 : PolC W0 w.heap.size (.int .i64 p.tx) (.int .i64 p.time) (.int .i64 p.unit) (.int .i64 p.data) (.slice A n c) := by rw [← hW0]; exact heap_alloc_new w _
  have hR1 : PolC W1 w.heap.size (.int .i64 p.tx) (.int .i64 p.time) (.int .i64 p.unit) (.int .i64 p.data) (.slice A n c) := (hb01.block _ (by omega)).trans hR0
  have hV1 : PolC W1 (w.heap.size + 1) (.int .i64 q.tx) (.int .i64 q.time) (.int .i64 q.unit) (.int .i64 q.data) (.slice A2 n2 c2) := by
    have := heap_alloc_new W0 (.cells #[.int .i64 q.tx, .int .i64 q.time, .int .i64 q.unit, .int .i64 q.data, .slice A2 n2 c2] 24)
    rw [hW1, hs0] at this
    exact this
  obtain ⟨x0, x1, x2, x3, x4⟩ := hR1.cs
  obtain ⟨y0, y1, y2, y3, y4⟩ := hV1.cs
  have HB := Lib.hid hb1
  have EQ : Hid (∀ r, (r = true ↔ p.devs = q.devs) → Calls Try.prog 27 #[.slice A n c, .slice A2 n2 c2, .func (.func 28) #[] #[]] W1 fun e w' => e = .returned (.bool r) ∧ Below w.heap.size w w') := fun r hr => (EqualDevs_any18 p.devs q.devs A A2 n c n2 c2 W1 (h.below hb1) (h2.below hb1) r hr).mono fun e w' ⟨h1, h3⟩ => ⟨h1, hb1.trans (h3.mono hb1.size)⟩
  have hr' : (r = true) = (p.tx = q.tx ∧ p.time = q.time ∧ p.unit = q.unit ∧ p.data = q.data ∧ p.devs = q.devs) := propext hr
  clear h h2 hr hb0 hb01 hb1 hR0 hR1 hV1
  unfold polV18
  generalize p.devs = ds at *
  generalize q.devs = es at *
  generalize p.tx = u0 at *
  generalize p.time = u1 at *
  generalize p.unit = u2 at *
  generalize p.data = u3 at *
  generalize q.tx = z0 at *
  generalize q.time = z1 at *
  generalize q.unit = z2 at *
  generalize q.data = z3 at *
  by_cases e0 : u0 = z0
  · by_cases e1 : u1 = z1
    · by_cases e2 : u2 = z2
      · by_cases e3 : u3 = z3
        · subst e0 e1 e2 e3
          have EQ2 := Lib.hid (EQ.out r (by rw [hr']; simp))
          clear hr' EQ
          go_enter Try.func10, Try.ntmps10
          go_wp2_with (go_at_call 27; (with_reducible refine (EQ2.out).mono ?_); rintro e w3 ⟨rfl, hb3⟩; have HB3 := Lib.hid hb3; clear hb3)
          go_ret
          exact ⟨rfl, HB3.out⟩
        · obtain rfl : r = false := by cases r <;> simp [e3] at hr' <;> rfl
          subst e0 e1 e2
          clear hr' EQ
          go_enter Try.func10, Try.ntmps10
          go_wp2
          go_ret
          exact ⟨rfl, HB.out⟩
      · obtain rfl : r = false := by cases r <;> simp [e2] at hr' <;> rfl
        subst e0 e1
        clear hr' EQ
        go_enter Try.func10, Try.ntmps10
        go_wp2
        go_ret
        exact ⟨rfl, HB.out⟩
    · obtain rfl : r = false := by cases r <;> simp [e1] at hr' <;> rfl
      subst e0
      clear hr' EQ
      go_enter Try.func10, Try.ntmps10
      go_wp2
      go_ret
      exact ⟨rfl, HB.out⟩
  · obtain rfl : r = false := by cases r <;> simp [e0] at hr' <;> rfl
    clear hr' EQ
    go_enter Try.func10, Try.ntmps10
    go_wp2
    go_ret
    exact ⟨rfl, HB.out⟩
end Go.Proofs.Ytlmpaelcnnnkfaa

/-
  Texts, and structs of three integers, in a block of their own: one read, one stored.
-/
namespace Go.Proofs.Ytlmpaelcnnnkfaa
open Go.RowKit
set_option linter.unusedVariables false
set_option linter.unusedSimpArgs false

theorem triC_one (l : List (Int × Int × Int)) : ∀ u ∈ triC l, u.oneCell' = true := by
  induction l with
  | nil => intro u hu; cases hu
  | cons x r ih =>
    intro u hu
    simp only [triC, List.mem_cons] at hu
    rcases hu with rfl | rfl | rfl | hu
    · rfl
    · rfl
    · rfl
    · exact ih u hu
end Go.Proofs.Ytlmpaelcnnnkfaa

/-
  Words for memory, third part: append of elements of several cells.
-/
namespace Go.Proofs.Ytlmpaelcnnnkfaa
open Go.RowKit
set_option linter.unusedVariables false
set_option linter.unusedSimpArgs false

/-- append of a row of elements of 'size' cells each, whatever its address -/
theorem wpList_append_rowS {P : Program} (w : World) {ops : Array Oper} {rest : List Oper} {o : Oper} {a : Act} {Q : Exit → Act → World → Prop} (hgd : o.guard = none) (s x : Operand) (t : TypeId)
    (ho : o.op = .call { callee := .builtin .append, args := #[s, x], argTypes := #[t, t] })
    (base : Nat) (e : TypeId) (size : Nat) (z : Value) (bytes : Nat) (ht : P.underlying t = some (.slice e)) (hi : (P.info? e).map (fun i => (i.zero, i.size, i.bytes)) = some (some z, size, bytes)) (hzs : z.cells.size = size) (hsz : 0 < size)
    (v : Value) (n : Nat) (xs : List Value) (hs : a.eval s = v) (hown : Hid (w.ownsRow base e size v n xs)) (hb : base ≤ w.heap.size)
    (ao : Option Addr) (news : List Value) (m c : Nat) (hx : a.eval x = .slice ao m c) (hl : news.length = m * size) (hr : Row w ao news) (h1 : ∀ u ∈ news, u.oneCell' = true)
    (hn : (n + m) * bytes ≤ 140737488355328) (hby : 1 ≤ bytes)
    (h : ∀ v' w', Hid (w'.ownsRow base e size v' (n + m) (xs ++ news)) → base ≤ w'.heap.size → Below base w w' → wpList P ops Q rest (a.put o.dst v') w') :
    wpList P ops Q (o :: rest) a w := by
  obtain ⟨i0, hi0, hz0, hz1, hz2⟩ := info_parts hi
  have hnm : n + m ≤ 140737488355328 := Nat.le_trans (Nat.le_mul_of_pos_right _ (by omega)) hn
  cases ao with
  | some ad =>
    refine wpList_append_own _ hgd s x t ho base e i0 z size bytes ht hi0 hz0 hz1 hz2 hzs hsz v n xs hs hown.out ad m c news hx hl
      (fun j u hj => hr.at_ hj) h1 (by simp only [maxLen]; omega) hn hb ?_
    intro v' w' hown' hg _
    have hbw : Below base w w' := (Below.refl _ _).grown hg hb (fun k hk => (hown.out.lt k hk).1)
    exact h v' w' hown' (Nat.le_trans hb hbw.size) hbw
  | none =>
    have hnews : news = [] := by
      match news, hr with
      | [], _ => rfl
      | y :: r, hr => obtain ⟨ad, e, _⟩ := hr 0 y rfl; cases e
    subst hnews
    obtain rfl : m = 0 := by
      rcases Nat.eq_zero_or_pos m with h0 | h0
      · exact h0
      · have := Nat.mul_pos h0 hsz; simp at hl; omega
    refine wpList_plain hgd fun K hK => ?_
    have hrun := run_append_none_any (P := P) w base t o.type e i0 size ht hi0 v n xs hown.out c
    unfold Oper.wp
    simp [execOp, ho, resolve, invoke, builtin, hs, hx, hrun, Result.andThen]
    exact hK _ _ (h v w (by simpa using hown) hb (Below.refl _ _))

end Go.Proofs.Ytlmpaelcnnnkfaa

/-
  append onto a row of the call's own, all other blocks kept, and where the new slice lies: its old block, or a new one.
-/
namespace Go.Proofs.Ytlmpaelcnnnkfaa
open Go.RowKit
set_option linter.unusedVariables false
set_option linter.unusedSimpArgs false

theorem wpList_append_liesG {P : Program} (w : World) {ops : Array Oper} {rest : List Oper} {o : Oper} {a : Act} {Q : Exit → Act → World → Prop} (hgd : o.guard = none) (s x : Operand) (t : TypeId)
    (ho : o.op = .call { callee := .builtin .append, args := #[s, x], argTypes := #[t, t] })
    (base : Nat) (e : TypeId) (size : Nat) (z : Value) (bytes : Nat) (ht : P.underlying t = some (.slice e)) (hi : (P.info? e).map (fun i => (i.zero, i.size, i.bytes)) = some (some z, size, bytes)) (hzs : z.cells.size = size) (hsz : 0 < size)
    (v : Value) (n : Nat) (xs : List Value) (hs : a.eval s = v) (hown : Hid (w.ownsRow base e size v n xs)) (hb : base ≤ w.heap.size)
    (ad : Addr) (news : List Value) (m c : Nat) (hx : a.eval x = .slice (some ad) m c) (hl : news.length = m * size) (hr : Row w (some ad) news) (h1 : ∀ u ∈ news, u.oneCell' = true)
    (hm : 0 < m) (hn : (n + m) * bytes ≤ 140737488355328) (hby : 1 ≤ bytes)
    (h : ∀ g cap w', Hid (w'.ownsRow base e size (.slice (some ⟨g, 0, none⟩) (n + m) cap) (n + m) (xs ++ news)) → Hid (w.grownBy w' v.ownBlock) → Hid (v.ownBlock = some g ∨ g = w.heap.size) → wpList P ops Q rest (a.put o.dst (.slice (some ⟨g, 0, none⟩) (n + m) cap)) w') :
    wpList P ops Q (o :: rest) a w := by
  obtain ⟨i0, hi0, hz0, hz1, hz2⟩ := info_parts hi
  have hnm : n + m ≤ 140737488355328 := Nat.le_trans (Nat.le_mul_of_pos_right _ (by omega)) hn
  exact wpList_append_lies w hgd s x t ho base e i0 z size bytes ht hi0 hz0 hz1 hz2 hzs hsz v n xs hs hown.out ad m c news hx hl (fun j u hj => hr.at_ hj) h1 hm (by simp only [maxLen]; omega) hn hb _ rfl
    fun g cap w' h2 h3 h4 _ => h g cap w' h2 h3 h4

end Go.Proofs.Ytlmpaelcnnnkfaa

/-
  Layer 18: apart; devices in blocks of their own; Copy.
-/
namespace Go.Proofs.Ytlmpaelcnnnkfaa
open Go.RowKit
set_option linter.unusedVariables false
set_option linter.unusedSimpArgs false

/-! ### rows of mappings -/
theorem Trs.row18 {w : World} {A : Option Addr} {n c : Nat} {l : List (Int × Int × Int)} (h : Trs w A n c l) : Row w A (triC l) := fun i v hi => by
  have hil : i < (triC l).length := by
    by_cases hh : i < (triC l).length
    · exact hh
    · rw [List.getElem?_eq_none (by omega)] at hi; cases hi
  rw [triC_length] at hil
  have hk : i / 3 < l.length := by omega
  obtain ⟨ad, rfl, h0, h1, h2⟩ := h.row (i / 3) hk
  obtain ⟨t0, t1, t2⟩ := triC_at l (i / 3) hk
  refine ⟨ad, rfl, ?_⟩
  rcases (by omega : i = i / 3 * 3 ∨ i = i / 3 * 3 + 1 ∨ i = i / 3 * 3 + 2) with e | e | e
  · rw [e] at hi ⊢
    rw [t0] at hi
    cases hi
    exact h0
  · rw [e] at hi ⊢
    rw [t1] at hi
    cases hi
    exact h1
  · rw [e] at hi ⊢
    rw [t2] at hi
    cases hi
    exact h2
theorem info_map18 : (Try.prog.info? 43).map (fun i => (i.zero, i.size, i.bytes)) = some (some (.agg #[.int .i64 0, .int .i64 0, .int .i64 0]), 3, 24) := by kernel_rfl
theorem own_mono18 {w : World} {b b' : Nat} {e : TypeId} {size n : Nat} {v : Value} {xs : List Value} (h : w.ownsRow b e size v n xs) (hb : b' ≤ b) : w.ownsRow b' e size v n xs := by
  refine ⟨h.1, ?_⟩
  rcases h.2 with hn | ⟨g, cap, cur, hv, hg, rest⟩
  · exact .inl hn
  · exact .inr ⟨g, cap, cur, hv, Nat.le_trans hb hg, rest⟩
theorem own_grown18 {X Y : World} {b b2 : Nat} {e e2 : TypeId} {s s2 n n2 : Nat} {v v2 : Value} {xs xs2 : List Value} (h : X.ownsRow b e s v n xs) (h2 : X.ownsRow b2 e2 s2 v2 n2 xs2) (hne : e ≠ e2) (hg : X.grownBy Y v2.ownBlock) : Y.ownsRow b e s v n xs := by
  refine ⟨h.1, ?_⟩
  rcases h.2 with hn | ⟨g, cap, cur, hv, hgb, hh, rest⟩
  · exact .inl hn
  · refine .inr ⟨g, cap, cur, hv, hgb, (hg.block g (block_lt hh) (fun e' => ?_)).trans hh, rest⟩
    obtain ⟨_, cur2, hc⟩ := own_apartS h2 g e'.symm
    rw [hh] at hc
    injection hc with hc
    injection hc with _ e3 _
    exact hne e3

set_option maxRecDepth 100000 in
set_option maxHeartbeats 1600000 in
theorem apart_any18 (d : Dev18) (A : Option Addr) (m c : Nat) (w : World) (h : Trs w A m c d.maps) (hm : m ≤ 1000000) :
    Calls Try.prog 30 #[devV18 d A m c] w fun e w' => ∃ A' c', e = .returned (devV18 d A' m c') ∧ w'.ownsRow w.heap.size 43 3 (.slice A' m c') m (triC d.maps) ∧ Below w.heap.size w w' := by
  obtain ⟨W0, hW0⟩ : ∃ W0, w.alloc (.cells #[.int .i64 d.id, .int .i64 d.tx, .int .i64 d.made, .int .i64 d.snap, .slice A m c] 32) = W0 := ⟨_, rfl⟩
  obtain ⟨W1, hW1⟩ : ∃ W1, W0.alloc (.cells #[.int .i64 0, .int .i64 0, .int .i64 0, .int .i64 0, .slice none 0 0] 32) = W1 := ⟨_, rfl⟩
  have hs0 : W0.heap.size = w.heap.size + 1 := by rw [← hW0]; exact World.size_alloc _ _
  have hs1 : W1.heap.size = w.heap.size + 2 := by rw [← hW1, World.size_alloc, hs0]
  have hb0 : Below w.heap.size w W0 := by rw [← hW0]; exact (Below.refl _ _).alloc (Nat.le_refl _) _
  have hb01 : Below W0.heap.size W0 W1 := by rw [← hW1]; exact (Below.refl _ _).alloc (Nat.le_refl _) _
  have hb1 : Below w.heap.size w W1 := hb0.trans (hb01.mono (by omega))
  have hR0 : DevC W0 w.heap.size (.int .i64 d.id) (.int .i64 d.tx) (.int .i64 d.made) (.int .i64 d.snap) (.slice A m c) := by rw [← hW0]; exact heap_alloc_new w _
  have hR1 : DevC W1 w.heap.size (.int .i64 d.id) (.int .i64 d.tx) (.int .i64 d.made) (.int .i64 d.snap) (.slice A m c) := (hb01.block _ (by omega)).trans hR0
  have hV1 : DevC W1 (w.heap.size + 1) (.int .i64 0) (.int .i64 0) (.int .i64 0) (.int .i64 0) (.slice none 0 0) := by
    have := heap_alloc_new W0 (.cells #[.int .i64 0, .int .i64 0, .int .i64 0, .int .i64 0, .slice none 0 0] 32)
    rw [hW1, hs0] at this
    exact this
  have HR1 := Lib.hid hR1
  have HV1 := Lib.hid hV1
  have HB := Lib.hid hb1
  have HS1 := Lib.hid hs1
  have HROW := Lib.hid ((h.below hb1).row18)
  have hlen := h.len
  obtain ⟨⟨x0, x1, x2, x3, x4⟩, _, _, _, _, xf4⟩ := hR1.cs
  have OW : Hid (W1.ownsRow (w.heap.size + 2) 43 3 (.slice none 0 0) 0 []) := World.ownsRow_nil _ _ _ _
  obtain ⟨i0, hi0, hz0, hz1, hz2⟩ := info_parts info_map18
  clear h hb0 hb01 hb1 hR0 hR1 hV1
  unfold devV18
  generalize d.id = u0 at *
  generalize d.tx = u1 at *
  generalize d.made = u2 at *
  generalize d.snap = u3 at *
  generalize d.maps = ms at *
  go_enter Try.func30, Try.ntmps30
  go_wp2_with (at_builtin; refine wpList_append_rowS _ rfl _ _ _ rfl (w.heap.size + 2) 43 3 _ 24 Try.underlying30 info_map18 rfl (by omega) _ 0 [] rfl OW (by have := HS1.out; omega) A (triC ms) m c rfl (by rw [triC_length, hlen]) HROW.out (triC_one _) (by omega) (by omega) ?_; intro v5 w5 ho5 hs5 hb5; obtain ⟨A', c', hv5, _, _⟩ := ownsRow_form ho5.out; rw [Nat.zero_add] at hv5; subst hv5; have HO5 := Lib.hid ho5; have HB5 := Lib.hid hb5; have hd := (hb5.block w.heap.size (by omega)).trans HR1.out; have hd := (show DevC w5 w.heap.size _ _ _ _ _ from hd); obtain ⟨⟨y0, y1, y2, y3, y4⟩, _, _, _, _, yf4⟩ := hd.cs; have HD5 := Lib.hid hd; have hz := (hb5.block (w.heap.size + 1) (by omega)).trans HV1.out; have hz := (show DevC w5 (w.heap.size + 1) _ _ _ _ _ from hz); obtain ⟨⟨z0, z1, z2, z3, z4⟩, zf0, zf1, zf2, zf3, zf4⟩ := hz.cs; have HZ5 := Lib.hid hz; clear hd hz ho5 hb5)
  have hzz : DevC (w5.setCell ⟨w.heap.size, 4, none⟩ (.slice A' m c')) (w.heap.size + 1) (.int .i64 0) (.int .i64 0) (.int .i64 0) (.int .i64 0) (.slice none 0 0) := (heap_setCell_other _ _ (w.heap.size + 1) _ (by show ¬ w.heap.size + 1 = w.heap.size; omega)).trans HZ5.out
  have h5 := hzz.set5 (.int .i64 u0) (.int .i64 u1) (.int .i64 u2) (.int .i64 u3) (.slice A' m c')
  refine bodyPost_ret (res1_18 Try.results30 _ _ (a := ⟨w.heap.size + 1, 0, none⟩) rfl h5.load) rfl ?_
  refine ⟨A', c', rfl, own_mono18 (b := w.heap.size + 2) ?_ (by omega), ?_⟩
  · exact own_low18 (own_low18 (own_low18 (own_low18 (own_low18 (own_low18 (by simpa using HO5.out.out) (by show w.heap.size < w.heap.size + 2; omega) _) (by show w.heap.size + 1 < w.heap.size + 2; omega) _) (by show w.heap.size + 1 < w.heap.size + 2; omega) _) (by show w.heap.size + 1 < w.heap.size + 2; omega) _) (by show w.heap.size + 1 < w.heap.size + 2; omega) _) (by show w.heap.size + 1 < w.heap.size + 2; omega) _
  · have hb := HB.out.trans (HB5.out.mono (by omega))
    exact (((((hb.setCell (p := ⟨w.heap.size, 4, none⟩) (Nat.le_refl _) _).setCell (p := ⟨w.heap.size + 1, 0, none⟩) (Nat.le_succ _) _).setCell (p := ⟨w.heap.size + 1, 1, none⟩) (Nat.le_succ _) _).setCell (p := ⟨w.heap.size + 1, 2, none⟩) (Nat.le_succ _) _).setCell (p := ⟨w.heap.size + 1, 3, none⟩) (Nat.le_succ _) _).setCell (p := ⟨w.heap.size + 1, 4, none⟩) (Nat.le_succ _) _

/-! ### devices in a row of their own, each with a row of mappings of its own -/
theorem devC18_append (a b : List DevL18) : devC18 (a ++ b) = devC18 a ++ devC18 b := by
  induction a with
  | nil => rfl
  | cons x r ih => simp [devC18, ih]
theorem devC18_one (l : List DevL18) : ∀ u ∈ devC18 l, u.oneCell' = true := by
  induction l with
  | nil => intro u hu; cases hu
  | cons x r ih =>
    intro u hu
    simp only [devC18, List.mem_cons] at hu
    rcases hu with rfl | rfl | rfl | rfl | rfl | hu
    · rfl
    · rfl
    · rfl
    · rfl
    · rfl
    · exact ih u hu
/-- one device more -/
theorem OwnD18.snoc {X Y : World} {B : Nat} {v v' : Value} {n : Nat} {L : List DevL18} {x : DevL18} (h : OwnD18 X B v n L) (hx : X.ownsRow B 43 3 (rowV18 x) x.2.2.1 (triC x.1.maps)) (hnew : ∀ k (hk : k < L.length) g, (rowV18 L[k]).ownBlock = some g → (rowV18 x).ownBlock ≠ some g)
    (hrow : Y.ownsRow B 32 5 v' (n + 1) (devC18 L ++ [.int .i64 x.1.id, .int .i64 x.1.tx, .int .i64 x.1.made, .int .i64 x.1.snap, rowV18 x])) (hg : X.grownBy Y v.ownBlock) : OwnD18 Y B v' (n + 1) (L ++ [x]) := by
  refine ⟨?_, fun k hk => ?_, fun j k hj hk hne g hgj => ?_⟩
  · rw [devC18_append]; exact hrow
  · by_cases hkl : k < L.length
    · rw [List.getElem_append_left hkl]
      exact own_grown18 (h.each k hkl) h.row (by decide) hg
    · obtain rfl : k = L.length := by simp at hk; omega
      rw [List.getElem_concat_length (by rfl)]
      exact own_grown18 hx h.row (by decide) hg
  · by_cases hjl : j < L.length
    · rw [List.getElem_append_left hjl] at hgj
      by_cases hkl : k < L.length
      · rw [List.getElem_append_left hkl]
        exact h.two j k hjl hkl hne g hgj
      · obtain rfl : k = L.length := by simp at hk; omega
        rw [List.getElem_concat_length (by rfl)]
        exact hnew j hjl g hgj
    · obtain rfl : j = L.length := by simp at hj; omega
      rw [List.getElem_concat_length (by rfl)] at hgj
      have hkl : k < L.length := by simp at hk; omega
      rw [List.getElem_append_left hkl]
      exact fun e => hnew k hkl g e hgj
end Go.Proofs.Ytlmpaelcnnnkfaa

/-
  Layer 18: Copy.
-/
namespace Go.Proofs.Ytlmpaelcnnnkfaa
open Go.RowKit
set_option linter.unusedVariables false
set_option linter.unusedSimpArgs false

theorem PolC.load18 {w : World} {b : Nat} {a0 a1 a2 a3 : Int} {A : Option Addr} {n c : Nat} (h : PolC w b (.int .i64 a0) (.int .i64 a1) (.int .i64 a2) (.int .i64 a3) (.slice A n c)) : (loadVar 24 ⟨b, 0, none⟩).run Try.prog w = .ok (.agg #[.int .i64 a0, .int .i64 a1, .int .i64 a2, .int .i64 a3, .slice A n c]) w := run_loadVar_row w b _ _ _ _ _ h Try.underlying24 rfl (by kernel_rfl)
theorem PolC.set5 {w : World} {b : Nat} {v0 v1 v2 v3 v4 : Value} (h : PolC w b v0 v1 v2 v3 v4) (a0 a1 a2 a3 a4 : Value) : PolC (((((w.setCell ⟨b, 0, none⟩ a0).setCell ⟨b, 1, none⟩ a1).setCell ⟨b, 2, none⟩ a2).setCell ⟨b, 3, none⟩ a3).setCell ⟨b, 4, none⟩ a4) b a0 a1 a2 a3 a4 := by
  have h1 : Blk w b 24 [v0, v1, v2, v3, v4] := h
  exact ((((h1.set 0 a0).set 1 a1).set 2 a2).set 3 a3).set 4 a4
set_option maxRecDepth 100000 in
set_option maxHeartbeats 3200000 in
theorem Copy_any18 (p : Pol18) (A : Option Addr) (n c : Nat) (w : World) (h : Dvs w A n c p.devs) (hn : n ≤ 1000000) (hm : cnt18 p.devs ≤ 1000000) :
    Calls Try.prog 22 #[polV18 p A n c] w fun e w' => ∃ A' c' L, e = .returned (polV18 p A' n c') ∧ OwnD18 w' (w.heap.size + 2) (.slice A' n c') n L ∧ L.map (·.1) = p.devs ∧ Below w.heap.size w w' := by
  have hl := h.len
  obtain ⟨W0, hW0⟩ : ∃ W0, w.alloc (.cells #[.int .i64 p.tx, .int .i64 p.time, .int .i64 p.unit, .int .i64 p.data, .slice A n c] 24) = W0 := ⟨_, rfl⟩
  obtain ⟨W1, hW1⟩ : ∃ W1, W0.alloc (.cells #[.int .i64 0, .int .i64 0, .int .i64 0, .int .i64 0, .slice none 0 0] 24) = W1 := ⟨_, rfl⟩
  have hs0 : W0.heap.size = w.heap.size + 1 := by rw [← hW0]; exact World.size_alloc _ _
  have hs1 : W1.heap.size = w.heap.size + 2 := by rw [← hW1, World.size_alloc, hs0]
  have hb0 : Below w.heap.size w W0 := by rw [← hW0]; exact (Below.refl _ _).alloc (Nat.le_refl _) _
  have hb01 : Below W0.heap.size W0 W1 := by rw [← hW1]; exact (Below.refl _ _).alloc (Nat.le_refl _) _
  have hb1 : Below w.heap.size w W1 := hb0.trans (hb01.mono (by omega))
  have hR0 : PolC W0 w.heap.size (.int .i64 p.tx) (.int .i64 p.time) (.int .i64 p.unit) (.int .i64 p.data) (.slice A n c) := by rw [← hW0]; exact heap_alloc_new w _
  have hR1 : PolC W1 w.heap.size (.int .i64 p.tx) (.int .i64 p.time) (.int .i64 p.unit) (.int .i64 p.data) (.slice A n c) := (hb01.block _ (by omega)).trans hR0
  have hV1 : PolC W1 (w.heap.size + 1) (.int .i64 0) (.int .i64 0) (.int .i64 0) (.int .i64 0) (.slice none 0 0) := by
    have := heap_alloc_new W0 (.cells #[.int .i64 0, .int .i64 0, .int .i64 0, .int .i64 0, .slice none 0 0] 24)
    rw [hW1, hs0] at this
    exact this
  have HR1 := Lib.hid hR1
  have HV1 := Lib.hid hV1
  have HB := Lib.hid hb1
  have HD := Lib.hid (h.below hb1)
  have HMS : Hid (∀ k, k < n → (p.devs.getD k zero18).maps.length ≤ 1000000) := fun k hk => by
    have h1 := cnt18_take (ds := p.devs) (k := k) (by omega)
    have h2 := cnt18_le (ds := p.devs) (k + 1)
    omega
  obtain ⟨x0, x1, x2, x3, x4⟩ := hR1.cs
  have TK : Hid (∀ k, k < n → p.devs.take (k + 1) = p.devs.take k ++ [p.devs.getD k zero18]) := fun k hk => by rw [List.take_succ_eq_append_getElem (by omega), getD18 (by omega)]
  have TA : Hid (p.devs.take n = p.devs) := List.take_of_length_le (by omega)
  clear h hb0 hb01 hb1 hR0 hR1 hV1 hm
  unfold polV18
  generalize p.tx = v0 at *
  generalize p.time = v1 at *
  generalize p.unit = v2 at *
  generalize p.data = v3 at *
  generalize p.devs = ds at *
  go_enter Try.func22, Try.ntmps22
  go_wp2
  go_loopw [3, 9] (fun v i wr => ∃ (k : Nat) (A' : Option Addr) (c' : Nat) (L : List DevL18), k ≤ n ∧ i = .int .i64 k ∧ v = .slice A' k c' ∧ Hid (OwnD18 wr (w.heap.size + 2) (.slice A' k c') k L) ∧ Hid (L.map (·.1) = ds.take k) ∧ Hid (Below (w.heap.size + 2) W1 wr)) (fun _ i _ => n - (intOf i).toNat)
  case atStart => exact ⟨0, none, 0, [], by omega, rfl, rfl, OwnD18.nil _ _, rfl, Below.refl _ _⟩
  case round =>
    obtain ⟨k, A1, c1, L, hk, rfl, rfl, HO, HL, hbel⟩ := hrel
    by_cases hlt : k < n
    · obtain ⟨b, off, A', m, c', rfl, hb, d0, d1, d2, d3, d4, hT⟩ := HD.out.at18 hlt
      have hb' : b < w.heap.size + 2 := by omega
      have hs2 : w.heap.size + 2 ≤ wr.heap.size := by have := hbel.out.size; omega
      have g0 := (hbel.out.cell (p := ⟨b, off + k * 5, none⟩) hb').trans d0
      have g1 := (hbel.out.cell (p := ⟨b, off + k * 5 + 1, none⟩) hb').trans d1
      have g2 := (hbel.out.cell (p := ⟨b, off + k * 5 + 2, none⟩) hb').trans d2
      have g3 := (hbel.out.cell (p := ⟨b, off + k * 5 + 3, none⟩) hb').trans d3
      have g4 := (hbel.out.cell (p := ⟨b, off + k * 5 + 4, none⟩) hb').trans d4
      have hba := hbel.out.alloc hs2 (.cells #[.int .i64 (ds.getD k zero18).id, .int .i64 (ds.getD k zero18).tx, .int .i64 (ds.getD k zero18).made, .int .i64 (ds.getD k zero18).snap, .slice A' m c'] 32)
      have HOA := Lib.hid (HO.out.later ((Below.refl _ wr).alloc (Nat.le_refl _) (.cells #[.int .i64 (ds.getD k zero18).id, .int .i64 (ds.getD k zero18).tx, .int .i64 (ds.getD k zero18).made, .int .i64 (ds.getD k zero18).snap, .slice A' m c'] 32)))
      have hml := hT.len
      have hmm : m ≤ 1000000 := by have := HMS.out k hlt; omega
      have hT2 : Trs (wr.alloc (.cells #[.int .i64 (ds.getD k zero18).id, .int .i64 (ds.getD k zero18).tx, .int .i64 (ds.getD k zero18).made, .int .i64 (ds.getD k zero18).snap, .slice A' m c'] 32)) A' m c' (ds.getD k zero18).maps := hT.below (by rw [hs1]; exact hba)
      have AP := Lib.hid (apart_any18 (ds.getD k zero18) A' m c' _ hT2 hmm)
      unfold devV18 at AP
      have HBA := Lib.hid hba
      have HTK := Lib.hid (TK.out k hlt)
      clear d0 d1 d2 d3 d4 hT hT2 hba HO
      generalize ds.getD k zero18 = d at *
      have hsa : (wr.alloc (.cells #[.int .i64 d.id, .int .i64 d.tx, .int .i64 d.made, .int .i64 d.snap, .slice A' m c'] 32)).heap.size = wr.heap.size + 1 := World.size_alloc _ _
      have HSA := Lib.hid hsa
      have hLk : L.length = k := HOA.out.len
      have HLK := Lib.hid hLk
      clear hLk hsa
      go_wp2_with (first
        | (go_at_call 30; (with_reducible refine (AP.out).mono ?_); rintro e w6 ⟨A2, c2, rfl, hrow, hb6⟩; have HB6 := Lib.hid (HBA.out.trans (hb6.mono (by have := HSA.out; omega))); have hs6 := hb6.size; have HS6 : Hid (w.heap.size + 2 ≤ w6.heap.size) := (by have h1 := HSA.out; show w.heap.size + 2 ≤ w6.heap.size; omega); have HO6 := Lib.hid ((HOA.out.later hb6).later ((Below.refl w6.heap.size w6).alloc (Nat.le_refl _) (.cells #[.int .i64 d.id, .int .i64 d.tx, .int .i64 d.made, .int .i64 d.snap, .slice A2 m c2] 32))); have HX6 : Hid ((w6.alloc (.cells #[.int .i64 d.id, .int .i64 d.tx, .int .i64 d.made, .int .i64 d.snap, .slice A2 m c2] 32)).ownsRow (w.heap.size + 2) 43 3 (.slice A2 m c2) m (triC d.maps)) := own_mono18 (hrow.alloc _) (by have := HSA.out; omega); have HN6 : Hid (∀ j (hj : j < L.length) g, (rowV18 L[j]).ownBlock = some g → (Value.slice A2 m c2).ownBlock ≠ some g) := fun j hj g h1 h2 => (by have a1 := block_lt (own_apartS (HOA.out.each j hj) g h1).2.choose_spec; have a2 := (own_apartS hrow g h2).1; omega); have HROW6 : Hid (Row (w6.alloc (.cells #[.int .i64 d.id, .int .i64 d.tx, .int .i64 d.made, .int .i64 d.snap, .slice A2 m c2] 32)) (some ⟨w6.heap.size, 0, none⟩) [.int .i64 d.id, .int .i64 d.tx, .int .i64 d.made, .int .i64 d.snap, .slice A2 m c2]) := Row.of_block (heap_alloc_new w6 _); clear hrow hb6 hs6)
        | (at_builtin; refine wpList_append_liesG _ rfl _ _ _ rfl (w.heap.size + 2) 32 5 _ 56 Try.underlying22 info_dev18 rfl (by omega) (.slice A1 k c1) k (devC18 L) rfl (Lib.hid HO6.out.row) (by have := HS6.out; simp; omega) ⟨w6.heap.size, 0, none⟩ [.int .i64 d.id, .int .i64 d.tx, .int .i64 d.made, .int .i64 d.snap, .slice A2 m c2] 1 1 rfl rfl HROW6.out (devC18_one [(d, A2, m, c2)]) (by omega) (by omega) (by omega) ?_; intro g cap w7 ho7 hg7 hv7; have HO7 := Lib.hid (OwnD18.snoc (x := (d, A2, m, c2)) HO6.out HX6.out HN6.out ho7.out hg7.out); have HB7 : Hid (Below (w.heap.size + 2) W1 w7) := (HB6.out.alloc HS6.out _).grown hg7.out (by have := HS6.out; simp; omega) (fun q e => (own_apartS HO6.out.row q e).1)))
      go_roundw
      all_goals first
        | exact ⟨k + 1, _, _, L ++ [(d, A2, m, c2)], by omega, by push_cast; rfl, rfl, HO7.out, by rw [HTK.out, List.map_append, HL.out]; rfl, HB7⟩
        | (simp only [intOf]; omega)
    · obtain rfl : k = n := by omega
      have hP := (show PolC wr w.heap.size (.int .i64 v0) (.int .i64 v1) (.int .i64 v2) (.int .i64 v3) (.slice A k c) from (hbel.out.block _ (by omega)).trans HR1.out)
      have hZ := (show PolC wr (w.heap.size + 1) (.int .i64 0) (.int .i64 0) (.int .i64 0) (.int .i64 0) (.slice none 0 0) from (hbel.out.block _ (by omega)).trans HV1.out)
      obtain ⟨p0, p1, p2, p3, p4⟩ := hP.cs
      have pf := hP.free 4
      obtain ⟨z0, z1, z2, z3, z4⟩ := hZ.cs
      have zf0 := hZ.free 0
      have zf1 := hZ.free 1
      have zf2 := hZ.free 2
      have zf3 := hZ.free 3
      have zf4 := hZ.free 4
      have HZ := Lib.hid hZ
      have HTA := Lib.hid TA.out
      clear hP hZ
      go_wp2
      have hzz : PolC (wr.setCell ⟨w.heap.size, 4, none⟩ (.slice A1 k c1)) (w.heap.size + 1) (.int .i64 0) (.int .i64 0) (.int .i64 0) (.int .i64 0) (.slice none 0 0) := (heap_setCell_other _ _ (w.heap.size + 1) _ (by show ¬ w.heap.size + 1 = w.heap.size; omega)).trans HZ.out
      have h5 := hzz.set5 (.int .i64 v0) (.int .i64 v1) (.int .i64 v2) (.int .i64 v3) (.slice A1 k c1)
      refine bodyPost_ret (res1_18 Try.results22 _ _ (a := ⟨w.heap.size + 1, 0, none⟩) rfl h5.load18) rfl ?_
      refine ⟨A1, c1, L, rfl, ?_, by rw [HL.out, HTA.out], ?_⟩
      · exact (((((HO.out.low (by show w.heap.size < w.heap.size + 2; omega) _).low (by show w.heap.size + 1 < w.heap.size + 2; omega) _).low (by show w.heap.size + 1 < w.heap.size + 2; omega) _).low (by show w.heap.size + 1 < w.heap.size + 2; omega) _).low (by show w.heap.size + 1 < w.heap.size + 2; omega) _).low (by show w.heap.size + 1 < w.heap.size + 2; omega) _
      · have hb := HB.out.trans (hbel.out.mono (by omega))
        exact (((((hb.setCell (p := ⟨w.heap.size, 4, none⟩) (Nat.le_refl _) _).setCell (p := ⟨w.heap.size + 1, 0, none⟩) (Nat.le_succ _) _).setCell (p := ⟨w.heap.size + 1, 1, none⟩) (Nat.le_succ _) _).setCell (p := ⟨w.heap.size + 1, 2, none⟩) (Nat.le_succ _) _).setCell (p := ⟨w.heap.size + 1, 3, none⟩) (Nat.le_succ _) _).setCell (p := ⟨w.heap.size + 1, 4, none⟩) (Nat.le_succ _) _
end Go.Proofs.Ytlmpaelcnnnkfaa

/-
  The walk of PoolApart.
-/
namespace Go.Proofs.Ytlmpaelcnnnkfaa
open Go.RowKit
set_option linter.unusedVariables false
set_option linter.unusedSimpArgs false

/-! ### a store into a row of one's own -/
theorem own_set18 {w : World} {b g : Nat} {e : TypeId} {size n c : Nat} {xs : List Value} (h : w.ownsRow b e size (.slice (some ⟨g, 0, none⟩) n c) n xs) {j : Nat} (hj : j < n * size) (u : Value) : (w.setCell ⟨g, j, none⟩ u).ownsRow b e size (.slice (some ⟨g, 0, none⟩) n c) n (xs.set j u) := by
  rcases h.2 with ⟨hv, _⟩ | ⟨g', cap, cur, hv, hg, hh, h1, h2, h3, h4⟩
  · cases hv
  · cases hv
    refine ⟨by rw [List.length_set]; exact h.1, .inr ⟨g, c, cur.setIfInBounds j u, rfl, hg, heap_setCell_same w g j _ _ _ hh, h1, h2, by simp [h3], ?_⟩⟩
    rw [Array.toList_setIfInBounds, List.take_set, h4]
theorem own_cell18 {w : World} {b g : Nat} {e : TypeId} {size n c : Nat} {xs : List Value} (h : w.ownsRow b e size (.slice (some ⟨g, 0, none⟩) n c) n xs) (j : Nat) : w.frozen? ⟨g, j, none⟩ = false := by
  rcases h.2 with ⟨hv, _⟩ | ⟨g', cap, cur, hv, hg, hh, _⟩
  · cases hv
  · cases hv
    exact frozen_of_row w g j _ _ hh
theorem own_form18 {w : World} {b : Nat} {e : TypeId} {size n c : Nat} {A : Option Addr} {xs : List Value} (h : w.ownsRow b e size (.slice A n c) n xs) (hn : 0 < n) : ∃ g, A = some ⟨g, 0, none⟩ ∧ b ≤ g ∧ g < w.heap.size := by
  rcases h.2 with ⟨_, h0⟩ | ⟨g', cap, cur, hv, hg, hh, _⟩
  · omega
  · cases hv
    exact ⟨g', rfl, hg, block_lt hh⟩
theorem triC_set2 : ∀ (l : List (Int × Int × Int)) (k : Nat) (z : Int) (h : k < l.length), (triC l).set (k * 3 + 2) (.int .i64 z) = triC (l.set k (l[k].1, l[k].2.1, z))
  | x :: r, 0, z, _ => rfl
  | x :: r, k + 1, z, h => by
    have := triC_set2 r k z (by simpa using h)
    rw [show (k + 1) * 3 + 2 = k * 3 + 2 + 1 + 1 + 1 by omega]
    simp only [triC, List.set_cons_succ, this, List.getElem_cons_succ]
theorem devC18_set2 : ∀ (l : List DevL18) (k : Nat) (z : Int) (h : k < l.length), (devC18 l).set (k * 5 + 2) (.int .i64 z) = devC18 (l.set k (⟨l[k].1.id, l[k].1.tx, z, l[k].1.snap, l[k].1.maps⟩, l[k].2))
  | x :: r, 0, z, _ => rfl
  | x :: r, k + 1, z, h => by
    have := devC18_set2 r k z (by simpa using h)
    rw [show (k + 1) * 5 + 2 = k * 5 + 2 + 1 + 1 + 1 + 1 + 1 by omega]
    simp only [devC18, List.set_cons_succ, this, List.getElem_cons_succ]
/-- devices that differ in their mappings have the same cells -/
theorem devC18_maps : ∀ (l : List DevL18) (k : Nat) (ms : List (Int × Int × Int)) (h : k < l.length), devC18 (l.set k (⟨l[k].1.id, l[k].1.tx, l[k].1.made, l[k].1.snap, ms⟩, l[k].2)) = devC18 l
  | x :: r, 0, ms, _ => rfl
  | x :: r, k + 1, ms, h => by
    have := devC18_maps r k ms (by simpa using h)
    simp only [devC18, List.set_cons_succ, this, List.getElem_cons_succ]
/-- one number of a device changed in its row -/
theorem OwnD18.made {w : World} {B g n c : Nat} {L : List DevL18} (h : OwnD18 w B (.slice (some ⟨g, 0, none⟩) n c) n L) {k : Nat} (hk : k < L.length) (z : Int) : OwnD18 (w.setCell ⟨g, k * 5 + 2, none⟩ (.int .i64 z)) B (.slice (some ⟨g, 0, none⟩) n c) n (L.set k (⟨L[k].1.id, L[k].1.tx, z, L[k].1.snap, L[k].1.maps⟩, L[k].2)) := by
  have hl := h.len
  have hoth : ∀ j (hj : j < L.length), (rowV18 L[j]).ownBlock ≠ some g := fun j hj e => by
    obtain ⟨_, cur, hc⟩ := own_apartS (h.each j hj) g e
    obtain ⟨_, cur2, hc2⟩ := own_apartS h.row g rfl
    rw [hc] at hc2
    injection hc2 with hc2
    injection hc2 with _ e3 _
    exact absurd e3 (by decide)
  have hrow : ∀ j (hj : j < (L.set k (⟨L[k].1.id, L[k].1.tx, z, L[k].1.snap, L[k].1.maps⟩, L[k].2)).length), ∃ hj2 : j < L.length, (L.set k (⟨L[k].1.id, L[k].1.tx, z, L[k].1.snap, L[k].1.maps⟩, L[k].2))[j].2 = L[j].2 ∧ (L.set k (⟨L[k].1.id, L[k].1.tx, z, L[k].1.snap, L[k].1.maps⟩, L[k].2))[j].1.maps = L[j].1.maps := fun j hj => by
    have hj2 : j < L.length := by simpa using hj
    refine ⟨hj2, ?_⟩
    by_cases e : k = j
    · subst e; simp
    · rw [List.getElem_set_ne e]; exact ⟨rfl, rfl⟩
  refine ⟨?_, fun j hj => ?_, fun i j hi hj hne b hb => ?_⟩
  · have := own_set18 h.row (j := k * 5 + 2) (by omega) (.int .i64 z)
    rwa [devC18_set2 L k z hk] at this
  · obtain ⟨hj2, e1, e2⟩ := hrow j hj
    rw [rowV18, e1, e2]
    exact ownsRow_setCell_other (h.each j hj2) (by simpa using hoth j hj2) _
  · obtain ⟨hi2, e1, _⟩ := hrow i hi
    obtain ⟨hj2, e3, _⟩ := hrow j hj
    rw [rowV18, e1] at hb
    rw [rowV18, e3]
    exact h.two i j hi2 hj2 hne b hb
/-- one number of a mapping changed in its row -/
theorem OwnD18.time {w : World} {B n g : Nat} {v : Value} {L : List DevL18} (h : OwnD18 w B v n L) {k m c j : Nat} (hk : k < L.length) (he : L[k].2 = (some ⟨g, 0, none⟩, m, c)) (hj : j < L[k].1.maps.length) (z : Int) : OwnD18 (w.setCell ⟨g, j * 3 + 2, none⟩ (.int .i64 z)) B v n (L.set k (⟨L[k].1.id, L[k].1.tx, L[k].1.made, L[k].1.snap, L[k].1.maps.set j (L[k].1.maps[j].1, L[k].1.maps[j].2.1, z)⟩, L[k].2)) := by
  have hl := h.len
  have hek := h.each k hk
  have hml : L[k].1.maps.length = m := by
    have := hek.1
    rw [triC_length, he] at this
    have : L[k].1.maps.length * 3 = m * 3 := this
    omega
  have hgk : (rowV18 L[k]).ownBlock = some g := by rw [rowV18, he]; rfl
  have hrow : ∀ i (hi : i < (L.set k (⟨L[k].1.id, L[k].1.tx, L[k].1.made, L[k].1.snap, L[k].1.maps.set j (L[k].1.maps[j].1, L[k].1.maps[j].2.1, z)⟩, L[k].2)).length), ∃ hi2 : i < L.length, (L.set k (⟨L[k].1.id, L[k].1.tx, L[k].1.made, L[k].1.snap, L[k].1.maps.set j (L[k].1.maps[j].1, L[k].1.maps[j].2.1, z)⟩, L[k].2))[i].2 = L[i].2 := fun i hi => by
    have hi2 : i < L.length := by simpa using hi
    refine ⟨hi2, ?_⟩
    by_cases e : k = i
    · subst e; simp
    · rw [List.getElem_set_ne e]
  refine ⟨?_, fun i hi => ?_, fun i1 i2 hi1 hi2 hne b hb => ?_⟩
  · rw [devC18_maps L k _ hk]
    refine ownsRow_setCell_other h.row (fun e => ?_) _
    obtain ⟨_, cur, hc⟩ := own_apartS h.row _ e
    obtain ⟨_, cur2, hc2⟩ := own_apartS hek g hgk
    have hc : w.heap[g]? = _ := hc
    rw [hc] at hc2
    injection hc2 with hc2
    injection hc2 with _ e3 _
    exact absurd e3 (by decide)
  · obtain ⟨hi2, e1⟩ := hrow i hi
    by_cases e : k = i
    · subst e
      rw [rowV18, e1, List.getElem_set_self]
      have h5 : w.ownsRow B 43 3 (.slice (some ⟨g, 0, none⟩) m c) m (triC L[k].1.maps) := by
        have := hek
        rw [rowV18, he] at this
        exact this
      have h6 := own_set18 h5 (j := j * 3 + 2) (by omega) (.int .i64 z)
      rw [triC_set2 _ j z hj] at h6
      rw [he]
      exact h6
    · rw [rowV18, e1, List.getElem_set_ne e]
      refine ownsRow_setCell_other (h.each i hi2) (fun e2 => ?_) _
      exact h.two k i hk hi2 e g hgk e2
  · obtain ⟨h3, e1⟩ := hrow i1 hi1
    obtain ⟨h4, e2⟩ := hrow i2 hi2
    rw [rowV18, e1] at hb
    rw [rowV18, e2]
    exact h.two i1 i2 h3 h4 hne b hb
end Go.Proofs.Ytlmpaelcnnnkfaa

/-
  PoolApart: two copies into two variables, in whatever order: what is kept.
-/
namespace Go.Proofs.Ytlmpaelcnnnkfaa
open Go.RowKit
set_option linter.unusedVariables false
set_option linter.unusedSimpArgs false

section
variable {P : Program} {ops : Array Oper} {Q : Exit → Act → World → Prop} {md : Region.Mode}
theorem wpOp_hid {i : Nat} {o : Oper} {K : Act → World → Prop} {a : Act} {w : World} (ho : ops[i]? = some o)
    (h : ∀ K' : Act → World → Prop, Hid (∀ a w, K a w → K' a w) → if Region.wanted o (yielded ops a.tmps) = true then Oper.wp P o a w K' Q else K' (a.put o.dst undef) w) : wpOp P ops Q i K a w := wpOp_step ho (fun K' hK => h K' hK)
end
theorem OwnD18.mono {w : World} {B B' : Nat} {v : Value} {n : Nat} {L : List DevL18} (h : OwnD18 w B v n L) (hb : B' ≤ B) : OwnD18 w B' v n L :=
  ⟨own_mono18 h.row hb, fun k hk => own_mono18 (h.each k hk) hb, h.two⟩
/-- some pool in a block -/
def PolX18 (W : World) (b : Nat) : Prop := ∃ v0 v1 v2 v3 v4, PolC W b v0 v1 v2 v3 v4
theorem PolX18.lt {W : World} {b : Nat} (h : PolX18 W b) : b < W.heap.size := by
  obtain ⟨v0, v1, v2, v3, v4, h⟩ := h
  exact block_lt h
theorem PolX18.at_ {W W' : World} {b : Nat} (h : PolX18 W b) (hb : W'.heap[b]? = W.heap[b]?) : PolX18 W' b := by
  obtain ⟨v0, v1, v2, v3, v4, h⟩ := h
  exact ⟨v0, v1, v2, v3, v4, hb.trans h⟩
/-- a row of another type stands while a pool is written -/
theorem own_pol18 {w : World} {b B : Nat} {e : TypeId} {size n : Nat} {v : Value} {xs : List Value} (h : w.ownsRow B e size v n xs) (he : e ≠ 24) {v0 v1 v2 v3 v4 : Value} (hp : PolC w b v0 v1 v2 v3 v4) (j : Nat) (u : Value) : (w.setCell ⟨b, j, none⟩ u).ownsRow B e size v n xs :=
  ownsRow_setCell_other h (fun e' => by
    obtain ⟨_, cur, hc⟩ := own_apartS h b e'
    rw [show w.heap[b]? = _ from hp] at hc
    injection hc with hc
    injection hc with _ e3 _
    exact he e3.symm) u
theorem OwnD18.pol {w : World} {B b : Nat} {v : Value} {n : Nat} {L : List DevL18} (h : OwnD18 w B v n L) {v0 v1 v2 v3 v4 : Value} (hp : PolC w b v0 v1 v2 v3 v4) (j : Nat) (u : Value) : OwnD18 (w.setCell ⟨b, j, none⟩ u) B v n L :=
  ⟨own_pol18 h.row (by decide) hp j u, fun k hk => own_pol18 (h.each k hk) (by decide) hp j u, h.two⟩
/-- a pool stored into a variable -/
abbrev put18 (W : World) (b : Nat) (a0 a1 a2 a3 a4 : Value) : World := ((((W.setCell ⟨b, 0, none⟩ a0).setCell ⟨b, 1, none⟩ a1).setCell ⟨b, 2, none⟩ a2).setCell ⟨b, 3, none⟩ a3).setCell ⟨b, 4, none⟩ a4
theorem OwnD18.pol5 {w : World} {B b : Nat} {v : Value} {n : Nat} {L : List DevL18} (h : OwnD18 w B v n L) {v0 v1 v2 v3 v4 : Value} (hp : PolC w b v0 v1 v2 v3 v4) (a0 a1 a2 a3 a4 : Value) : OwnD18 (put18 w b a0 a1 a2 a3 a4) B v n L := by
  have h0 : Blk w b 24 [v0, v1, v2, v3, v4] := hp
  exact ((((h.pol h0 0 a0).pol (show PolC _ b _ _ _ _ _ from h0.set 0 a0) 1 a1).pol (show PolC _ b _ _ _ _ _ from (h0.set 0 a0).set 1 a1) 2 a2).pol (show PolC _ b _ _ _ _ _ from ((h0.set 0 a0).set 1 a1).set 2 a2) 3 a3).pol (show PolC _ b _ _ _ _ _ from (((h0.set 0 a0).set 1 a1).set 2 a2).set 3 a3) 4 a4
theorem put18_other {W : World} {b q : Nat} (h : q ≠ b) (a0 a1 a2 a3 a4 : Value) : (put18 W b a0 a1 a2 a3 a4).heap[q]? = W.heap[q]? := by
  unfold put18
  rw [heap_setCell_other _ _ q _ h, heap_setCell_other _ _ q _ h, heap_setCell_other _ _ q _ h, heap_setCell_other _ _ q _ h, heap_setCell_other _ _ q _ h]
theorem put18_below {B b : Nat} {w W : World} (h : Below B w W) (hb : B ≤ b) (a0 a1 a2 a3 a4 : Value) : Below B w (put18 W b a0 a1 a2 a3 a4) := ((((h.setCell (p := ⟨b, 0, none⟩) hb _).setCell (p := ⟨b, 1, none⟩) hb _).setCell (p := ⟨b, 2, none⟩) hb _).setCell (p := ⟨b, 3, none⟩) hb _).setCell (p := ⟨b, 4, none⟩) hb _

/-- all blocks of a copy lie below B -/
def Und18 (v : Value) (L : List DevL18) (B : Nat) : Prop := (∀ g, v.ownBlock = some g → g < B) ∧ ∀ k (hk : k < L.length) g, (rowV18 L[k]).ownBlock = some g → g < B
theorem OwnD18.und {w : World} {B B2 : Nat} {v : Value} {n : Nat} {L : List DevL18} (h : OwnD18 w B v n L) (hb : w.heap.size ≤ B2) : Und18 v L B2 :=
  ⟨fun g hg => by
    obtain ⟨_, cur, hc⟩ := own_apartS h.row g hg
    have := block_lt hc
    omega, fun k hk g hg => by
    obtain ⟨_, cur, hc⟩ := own_apartS (h.each k hk) g hg
    have := block_lt hc
    omega⟩

/-- one bit of a number turned -/
theorem xor_ne18 (x : Int) : bits .xor .i64 x 1 ≠ x := fun h => by
  have e : bits .xor .i64 x 1 = IntKind.i64.wrap (((BitVec.ofInt 64 x ^^^ BitVec.ofInt 64 1).toNat : Nat) : Int) := rfl
  rw [e] at h
  have h2 : BitVec.ofInt 64 (IntKind.i64.wrap (((BitVec.ofInt 64 x ^^^ BitVec.ofInt 64 1).toNat : Nat) : Int)) = BitVec.ofInt 64 x ^^^ BitVec.ofInt 64 1 := by
    apply BitVec.eq_of_toNat_eq
    have hl := (BitVec.ofInt 64 x ^^^ BitVec.ofInt 64 1).isLt
    generalize (BitVec.ofInt 64 x ^^^ BitVec.ofInt 64 1).toNat = v at *
    rw [IntKind.wrap_i64, BitVec.toNat_ofInt]
    omega
  rw [h] at h2
  have h3 : BitVec.ofInt 64 1 = 0#64 := by
    have := congrArg (fun y => BitVec.ofInt 64 x ^^^ y) h2
    simpa [← BitVec.xor_assoc] using this.symm
  exact absurd h3 (by decide)
theorem idx18 (x : Int) {n : Nat} (h : 0 < n) (hn : n ≤ 1000000) : ∃ K : Nat, K < n ∧ (wrap64 (x.tmod (n : Int) + (n : Int))).tmod (n : Int) = (K : Int) := by
  have h1 := Int.tmod_lt_of_pos x (show (0 : Int) < n by omega)
  have h2 := Int.lt_tmod_of_pos x (show (0 : Int) < n by omega)
  generalize x.tmod n = y at *
  have e : wrap64 (y + n) = y + n := by rw [← IntWalk.i64_left]; exact IntWalk.i64_in _ (by omega)
  rw [e]
  have h3 := Int.tmod_lt_of_pos (y + n) (show (0 : Int) < n by omega)
  have h4 := Int.tmod_nonneg (n : Int) (show 0 ≤ y + n by omega)
  obtain ⟨K, hK⟩ := Int.eq_ofNat_of_zero_le h4
  exact ⟨K, by omega, hK⟩
/-- the state of the statement, behind the operations that are listed -/
structure Iv18 (w : World) (p : Pol18) (A : Option Addr) (n c : Nat) (l : Array Bool) (W : World) (s7 s8 s20 s21 s22 s23 : Value) (A7 : Option Addr) (c7 : Nat) (L7 : List DevL18) (A8 : Option Addr) (c8 : Nat) (L8 : List DevL18) (B8 b7 b8 : Nat) : Prop where
  sz : l.size = 8
  st : St18 w W w.heap.size p A n c
  i0 : lst l 0 = true → s20 = polV18 p A n c
  i2 : lst l 2 = true → s22 = polV18 p A n c
  i1 : lst l 1 = true → s21 = polV18 p A7 n c7 ∧ OwnD18 W (w.heap.size + 1) (.slice A7 n c7) n L7 ∧ L7.map (·.1) = p.devs
  i3 : lst l 3 = true → lst l 1 = true ∧ s23 = polV18 p A8 n c8 ∧ OwnD18 W B8 (.slice A8 n c8) n L8 ∧ L8.map (·.1) = p.devs ∧ w.heap.size + 1 ≤ B8 ∧ Und18 (.slice A7 n c7) L7 B8
  i4 : lst l 4 = true → s7 = .pointer (some ⟨b7, 0, none⟩) ∧ w.heap.size < b7 ∧ PolX18 W b7
  i5 : lst l 5 = true → s8 = .pointer (some ⟨b8, 0, none⟩) ∧ w.heap.size < b8 ∧ PolX18 W b8
  i45 : lst l 4 = true → lst l 5 = true → b7 ≠ b8
  i6 : lst l 6 = true → lst l 1 = true ∧ lst l 4 = true ∧ PolC W b7 (.int .i64 p.tx) (.int .i64 p.time) (.int .i64 p.unit) (.int .i64 p.data) (.slice A7 n c7)
  i7 : lst l 7 = true → lst l 3 = true ∧ lst l 5 = true ∧ PolC W b8 (.int .i64 p.tx) (.int .i64 p.time) (.int .i64 p.unit) (.int .i64 p.data) (.slice A8 n c8)
section
variable {w W W' : World} {p : Pol18} {A : Option Addr} {n c : Nat} {l : Array Bool} {s7 s8 s20 s21 s22 s23 : Value} {A7 : Option Addr} {c7 : Nat} {L7 : List DevL18} {A8 : Option Addr} {c8 : Nat} {L8 : List DevL18} {B8 b7 b8 : Nat}
theorem Iv18.later (h : Iv18 w p A n c l W s7 s8 s20 s21 s22 s23 A7 c7 L7 A8 c8 L8 B8 b7 b8) (hb : Below W.heap.size W W') : Iv18 w p A n c l W' s7 s8 s20 s21 s22 s23 A7 c7 L7 A8 c8 L8 B8 b7 b8 :=
  ⟨h.sz, h.st.later hb, h.i0, h.i2, fun e => ⟨(h.i1 e).1, (h.i1 e).2.1.later hb, (h.i1 e).2.2⟩, fun e => ⟨(h.i3 e).1, (h.i3 e).2.1, (h.i3 e).2.2.1.later hb, (h.i3 e).2.2.2⟩,
    fun e => ⟨(h.i4 e).1, (h.i4 e).2.1, (h.i4 e).2.2.at_ (hb.block _ (h.i4 e).2.2.lt)⟩, fun e => ⟨(h.i5 e).1, (h.i5 e).2.1, (h.i5 e).2.2.at_ (hb.block _ (h.i5 e).2.2.lt)⟩, h.i45,
    fun e => ⟨(h.i6 e).1, (h.i6 e).2.1, (hb.block _ (block_lt (h.i6 e).2.2)).trans (h.i6 e).2.2⟩, fun e => ⟨(h.i7 e).1, (h.i7 e).2.1, (hb.block _ (block_lt (h.i7 e).2.2)).trans (h.i7 e).2.2⟩⟩
theorem Iv18.size (h : Iv18 w p A n c l W s7 s8 s20 s21 s22 s23 A7 c7 L7 A8 c8 L8 B8 b7 b8) : w.heap.size + 1 ≤ W.heap.size := block_lt h.st.box
theorem Iv18.step0 (h : Iv18 w p A n c l W s7 s8 s20 s21 s22 s23 A7 c7 L7 A8 c8 L8 B8 b7 b8) : Iv18 w p A n c (l.setIfInBounds 0 true) W s7 s8 (polV18 p A n c) s21 s22 s23 A7 c7 L7 A8 c8 L8 B8 b7 b8 := by
  obtain ⟨sz, st, i0, i2, i1, i3, i4, i5, i45, i6, i7⟩ := h
  refine ⟨by simpa using sz, st, fun _ => rfl, ?_, ?_, ?_, ?_, ?_, ?_, ?_, ?_⟩ <;> simpa only [lst_other (l := l) (show 0 ≠ 1 by decide), lst_other (l := l) (show 0 ≠ 2 by decide), lst_other (l := l) (show 0 ≠ 3 by decide), lst_other (l := l) (show 0 ≠ 4 by decide), lst_other (l := l) (show 0 ≠ 5 by decide), lst_other (l := l) (show 0 ≠ 6 by decide), lst_other (l := l) (show 0 ≠ 7 by decide)]
theorem Iv18.step2 (h : Iv18 w p A n c l W s7 s8 s20 s21 s22 s23 A7 c7 L7 A8 c8 L8 B8 b7 b8) : Iv18 w p A n c (l.setIfInBounds 2 true) W s7 s8 s20 s21 (polV18 p A n c) s23 A7 c7 L7 A8 c8 L8 B8 b7 b8 := by
  obtain ⟨sz, st, i0, i2, i1, i3, i4, i5, i45, i6, i7⟩ := h
  refine ⟨by simpa using sz, st, ?_, fun _ => rfl, ?_, ?_, ?_, ?_, ?_, ?_, ?_⟩ <;> simpa only [lst_other (l := l) (show 2 ≠ 1 by decide), lst_other (l := l) (show 2 ≠ 0 by decide), lst_other (l := l) (show 2 ≠ 3 by decide), lst_other (l := l) (show 2 ≠ 4 by decide), lst_other (l := l) (show 2 ≠ 5 by decide), lst_other (l := l) (show 2 ≠ 6 by decide), lst_other (l := l) (show 2 ≠ 7 by decide)]
theorem Iv18.step1 (h : Iv18 w p A n c l W s7 s8 s20 s21 s22 s23 A7 c7 L7 A8 c8 L8 B8 b7 b8) (hu : lst l 1 = false) (hb : Below W.heap.size W W') {A7' : Option Addr} {c7' : Nat} {L7' : List DevL18} (ho : OwnD18 W' (W.heap.size + 2) (.slice A7' n c7') n L7') (hm : L7'.map (·.1) = p.devs) :
    Iv18 w p A n c (l.setIfInBounds 1 true) W' s7 s8 s20 (polV18 p A7' n c7') s22 s23 A7' c7' L7' A8 c8 L8 B8 b7 b8 := by
  have hs := h.size
  obtain ⟨sz, st, i0, i2, i1, i3, i4, i5, i45, i6, i7⟩ := h.later hb
  have e0 := lst_other (l := l) (show 1 ≠ 0 by decide)
  have e2 := lst_other (l := l) (show 1 ≠ 2 by decide)
  have e3 := lst_other (l := l) (show 1 ≠ 3 by decide)
  have e4 := lst_other (l := l) (show 1 ≠ 4 by decide)
  have e5 := lst_other (l := l) (show 1 ≠ 5 by decide)
  have e6 := lst_other (l := l) (show 1 ≠ 6 by decide)
  have e7 := lst_other (l := l) (show 1 ≠ 7 by decide)
  have n3 : ¬ lst l 3 = true := fun e => by have := (i3 e).1; rw [hu] at this; cases this
  have n6 : ¬ lst l 6 = true := fun e => by have := (i6 e).1; rw [hu] at this; cases this
  have n7 : ¬ lst l 7 = true := fun e => n3 (i7 e).1
  exact ⟨by simpa using sz, st, by rwa [e0], by rwa [e2], fun _ => ⟨rfl, ho.mono (by omega), hm⟩, fun e => absurd (e3 ▸ e) n3, by rwa [e4], by rwa [e5], by rwa [e4, e5], fun e => absurd (e6 ▸ e) n6, fun e => absurd (e7 ▸ e) n7⟩
theorem Iv18.step3 (h : Iv18 w p A n c l W s7 s8 s20 s21 s22 s23 A7 c7 L7 A8 c8 L8 B8 b7 b8) (hu : lst l 3 = false) (h1 : lst l 1 = true) (hb : Below W.heap.size W W') {A8' : Option Addr} {c8' : Nat} {L8' : List DevL18} (ho : OwnD18 W' (W.heap.size + 2) (.slice A8' n c8') n L8') (hm : L8'.map (·.1) = p.devs) :
    Iv18 w p A n c (l.setIfInBounds 3 true) W' s7 s8 s20 s21 s22 (polV18 p A8' n c8') A7 c7 L7 A8' c8' L8' (W.heap.size + 2) b7 b8 := by
  have hs := h.size
  have hund := ((h.i1 h1).2.1).und (B2 := W.heap.size + 2) (by omega)
  obtain ⟨sz, st, i0, i2, i1, i3, i4, i5, i45, i6, i7⟩ := h.later hb
  have e0 := lst_other (l := l) (show 3 ≠ 0 by decide)
  have e1 := lst_other (l := l) (show 3 ≠ 1 by decide)
  have e2 := lst_other (l := l) (show 3 ≠ 2 by decide)
  have e4 := lst_other (l := l) (show 3 ≠ 4 by decide)
  have e5 := lst_other (l := l) (show 3 ≠ 5 by decide)
  have e6 := lst_other (l := l) (show 3 ≠ 6 by decide)
  have e7 := lst_other (l := l) (show 3 ≠ 7 by decide)
  have n7 : ¬ lst l 7 = true := fun e => by have := (i7 e).1; rw [hu] at this; cases this
  exact ⟨by simpa using sz, st, by rwa [e0], by rwa [e2], by rwa [e1], fun _ => ⟨by rw [e1]; exact h1, rfl, ho, hm, by omega, hund⟩, by rwa [e4], by rwa [e5], by rwa [e4, e5], by rwa [e6, e1, e4], fun e => absurd (e7 ▸ e) n7⟩
theorem Iv18.step4 (h : Iv18 w p A n c l W s7 s8 s20 s21 s22 s23 A7 c7 L7 A8 c8 L8 B8 b7 b8) (hu : lst l 4 = false) (a0 a1 a2 a3 a4 : Value) :
    Iv18 w p A n c (l.setIfInBounds 4 true) (W.alloc (.cells #[a0, a1, a2, a3, a4] 24)) (.pointer (some ⟨W.heap.size, 0, none⟩)) s8 s20 s21 s22 s23 A7 c7 L7 A8 c8 L8 B8 W.heap.size b8 := by
  have hs := h.size
  have h8 := fun e => (h.i5 e).2.2.lt
  obtain ⟨sz, st, i0, i2, i1, i3, i4, i5, i45, i6, i7⟩ := h.later ((Below.refl W.heap.size W).alloc (Nat.le_refl _) (.cells #[a0, a1, a2, a3, a4] 24))
  have e0 := lst_other (l := l) (show 4 ≠ 0 by decide)
  have e1 := lst_other (l := l) (show 4 ≠ 1 by decide)
  have e2 := lst_other (l := l) (show 4 ≠ 2 by decide)
  have e3 := lst_other (l := l) (show 4 ≠ 3 by decide)
  have e5 := lst_other (l := l) (show 4 ≠ 5 by decide)
  have e6 := lst_other (l := l) (show 4 ≠ 6 by decide)
  have e7 := lst_other (l := l) (show 4 ≠ 7 by decide)
  have n6 : ¬ lst l 6 = true := fun e => by have := (i6 e).2.1; rw [hu] at this; cases this
  exact ⟨by simpa using sz, st, by rwa [e0], by rwa [e2], by rwa [e1], by rwa [e3, e1], fun _ => ⟨rfl, by omega, _, _, _, _, _, heap_alloc_new W _⟩, by rwa [e5], fun _ e => by have := h8 (e5 ▸ e); omega, fun e => absurd (e6 ▸ e) n6, by rwa [e7, e3, e5]⟩
theorem Iv18.step5 (h : Iv18 w p A n c l W s7 s8 s20 s21 s22 s23 A7 c7 L7 A8 c8 L8 B8 b7 b8) (hu : lst l 5 = false) (a0 a1 a2 a3 a4 : Value) :
    Iv18 w p A n c (l.setIfInBounds 5 true) (W.alloc (.cells #[a0, a1, a2, a3, a4] 24)) s7 (.pointer (some ⟨W.heap.size, 0, none⟩)) s20 s21 s22 s23 A7 c7 L7 A8 c8 L8 B8 b7 W.heap.size := by
  have hs := h.size
  have h7 := fun e => (h.i4 e).2.2.lt
  obtain ⟨sz, st, i0, i2, i1, i3, i4, i5, i45, i6, i7⟩ := h.later ((Below.refl W.heap.size W).alloc (Nat.le_refl _) (.cells #[a0, a1, a2, a3, a4] 24))
  have e0 := lst_other (l := l) (show 5 ≠ 0 by decide)
  have e1 := lst_other (l := l) (show 5 ≠ 1 by decide)
  have e2 := lst_other (l := l) (show 5 ≠ 2 by decide)
  have e3 := lst_other (l := l) (show 5 ≠ 3 by decide)
  have e4 := lst_other (l := l) (show 5 ≠ 4 by decide)
  have e6 := lst_other (l := l) (show 5 ≠ 6 by decide)
  have e7 := lst_other (l := l) (show 5 ≠ 7 by decide)
  have n7 : ¬ lst l 7 = true := fun e => by have := (i7 e).2.1; rw [hu] at this; cases this
  exact ⟨by simpa using sz, st, by rwa [e0], by rwa [e2], by rwa [e1], by rwa [e3, e1], by rwa [e4], fun _ => ⟨rfl, by omega, _, _, _, _, _, heap_alloc_new W _⟩, fun e _ => by have := h7 (e4 ▸ e); omega, by rwa [e6, e1, e4], fun e => absurd (e7 ▸ e) n7⟩
theorem St18.put {b : Nat} (h : St18 w W w.heap.size p A n c) (h0 : Dvs w A n c p.devs) (hb : w.heap.size < b) (a0 a1 a2 a3 a4 : Value) : St18 w (put18 W b a0 a1 a2 a3 a4) w.heap.size p A n c :=
  ⟨(put18_other (by omega) a0 a1 a2 a3 a4).trans h.box, h0.below (put18_below h.bel (by omega) a0 a1 a2 a3 a4), put18_below h.bel (by omega) a0 a1 a2 a3 a4⟩
theorem Iv18.step6 (h : Iv18 w p A n c l W s7 s8 s20 s21 s22 s23 A7 c7 L7 A8 c8 L8 B8 b7 b8) (h0 : Dvs w A n c p.devs) (h1 : lst l 1 = true) (h4 : lst l 4 = true) :
    Iv18 w p A n c (l.setIfInBounds 6 true) (put18 W b7 (.int .i64 p.tx) (.int .i64 p.time) (.int .i64 p.unit) (.int .i64 p.data) (.slice A7 n c7)) s7 s8 s20 s21 s22 s23 A7 c7 L7 A8 c8 L8 B8 b7 b8 := by
  obtain ⟨sz, st, i0, i2, i1, i3, i4, i5, i45, i6, i7⟩ := h
  obtain ⟨hp7, hw7, v0, v1, v2, v3, v4, hv⟩ := i4 h4
  have e0 := lst_other (l := l) (show 6 ≠ 0 by decide)
  have e1 := lst_other (l := l) (show 6 ≠ 1 by decide)
  have e2 := lst_other (l := l) (show 6 ≠ 2 by decide)
  have e3 := lst_other (l := l) (show 6 ≠ 3 by decide)
  have e4 := lst_other (l := l) (show 6 ≠ 4 by decide)
  have e5 := lst_other (l := l) (show 6 ≠ 5 by decide)
  have e7 := lst_other (l := l) (show 6 ≠ 7 by decide)
  have hset : PolC (put18 W b7 (.int .i64 p.tx) (.int .i64 p.time) (.int .i64 p.unit) (.int .i64 p.data) (.slice A7 n c7)) b7 (.int .i64 p.tx) (.int .i64 p.time) (.int .i64 p.unit) (.int .i64 p.data) (.slice A7 n c7) := hv.set5 (.int .i64 p.tx) (.int .i64 p.time) (.int .i64 p.unit) (.int .i64 p.data) (.slice A7 n c7)
  have hpx : PolX18 (put18 W b7 (.int .i64 p.tx) (.int .i64 p.time) (.int .i64 p.unit) (.int .i64 p.data) (.slice A7 n c7)) b7 := ⟨_, _, _, _, _, hset⟩
  have o5 : lst l 5 = true → (put18 W b7 (.int .i64 p.tx) (.int .i64 p.time) (.int .i64 p.unit) (.int .i64 p.data) (.slice A7 n c7)).heap[b8]? = W.heap[b8]? := fun e => put18_other (fun e' => i45 h4 e e'.symm) (.int .i64 p.tx) (.int .i64 p.time) (.int .i64 p.unit) (.int .i64 p.data) (.slice A7 n c7)
  have q1 := fun e : lst (l.setIfInBounds 6 true) 1 = true => i1 (e1.symm.trans e)
  have q3 := fun e : lst (l.setIfInBounds 6 true) 3 = true => i3 (e3.symm.trans e)
  have q5 := fun e : lst (l.setIfInBounds 6 true) 5 = true => i5 (e5.symm.trans e)
  have q7 := fun e : lst (l.setIfInBounds 6 true) 7 = true => i7 (e7.symm.trans e)
  have hS := st.put h0 hw7 (.int .i64 p.tx) (.int .i64 p.time) (.int .i64 p.unit) (.int .i64 p.data) (.slice A7 n c7)
  have hO1 := fun e => (q1 e).2.1.pol5 hv (.int .i64 p.tx) (.int .i64 p.time) (.int .i64 p.unit) (.int .i64 p.data) (.slice A7 n c7)
  have hO3 := fun e => (q3 e).2.2.1.pol5 hv (.int .i64 p.tx) (.int .i64 p.time) (.int .i64 p.unit) (.int .i64 p.data) (.slice A7 n c7)
  generalize hW : put18 W b7 (.int .i64 p.tx) (.int .i64 p.time) (.int .i64 p.unit) (.int .i64 p.data) (.slice A7 n c7) = W2 at *
  exact ⟨by simpa using sz, hS, fun e => i0 (e0.symm.trans e), fun e => i2 (e2.symm.trans e), fun e => ⟨(q1 e).1, hO1 e, (q1 e).2.2⟩, fun e => ⟨e1.trans (q3 e).1, (q3 e).2.1, hO3 e, (q3 e).2.2.2⟩,
    fun e => ⟨hp7, hw7, hpx⟩, fun e => ⟨(q5 e).1, (q5 e).2.1, (q5 e).2.2.at_ (o5 (e5.symm.trans e))⟩, fun a b => i45 (e4.symm.trans a) (e5.symm.trans b), fun _ => ⟨e1.trans h1, e4.trans h4, hset⟩, fun e => ⟨e3.trans (q7 e).1, e5.trans (q7 e).2.1, (o5 (q7 e).2.1).trans (q7 e).2.2⟩⟩
theorem Iv18.step7 (h : Iv18 w p A n c l W s7 s8 s20 s21 s22 s23 A7 c7 L7 A8 c8 L8 B8 b7 b8) (h0 : Dvs w A n c p.devs) (h3 : lst l 3 = true) (h5 : lst l 5 = true) :
    Iv18 w p A n c (l.setIfInBounds 7 true) (put18 W b8 (.int .i64 p.tx) (.int .i64 p.time) (.int .i64 p.unit) (.int .i64 p.data) (.slice A8 n c8)) s7 s8 s20 s21 s22 s23 A7 c7 L7 A8 c8 L8 B8 b7 b8 := by
  obtain ⟨sz, st, i0, i2, i1, i3, i4, i5, i45, i6, i7⟩ := h
  obtain ⟨hp8, hw8, v0, v1, v2, v3, v4, hv⟩ := i5 h5
  have e0 := lst_other (l := l) (show 7 ≠ 0 by decide)
  have e1 := lst_other (l := l) (show 7 ≠ 1 by decide)
  have e2 := lst_other (l := l) (show 7 ≠ 2 by decide)
  have e3 := lst_other (l := l) (show 7 ≠ 3 by decide)
  have e4 := lst_other (l := l) (show 7 ≠ 4 by decide)
  have e5 := lst_other (l := l) (show 7 ≠ 5 by decide)
  have e6 := lst_other (l := l) (show 7 ≠ 6 by decide)
  have hset : PolC (put18 W b8 (.int .i64 p.tx) (.int .i64 p.time) (.int .i64 p.unit) (.int .i64 p.data) (.slice A8 n c8)) b8 (.int .i64 p.tx) (.int .i64 p.time) (.int .i64 p.unit) (.int .i64 p.data) (.slice A8 n c8) := hv.set5 (.int .i64 p.tx) (.int .i64 p.time) (.int .i64 p.unit) (.int .i64 p.data) (.slice A8 n c8)
  have hpx : PolX18 (put18 W b8 (.int .i64 p.tx) (.int .i64 p.time) (.int .i64 p.unit) (.int .i64 p.data) (.slice A8 n c8)) b8 := ⟨_, _, _, _, _, hset⟩
  have o4 : lst l 4 = true → (put18 W b8 (.int .i64 p.tx) (.int .i64 p.time) (.int .i64 p.unit) (.int .i64 p.data) (.slice A8 n c8)).heap[b7]? = W.heap[b7]? := fun e => put18_other (fun e' => i45 e h5 e') (.int .i64 p.tx) (.int .i64 p.time) (.int .i64 p.unit) (.int .i64 p.data) (.slice A8 n c8)
  have q1 := fun e : lst (l.setIfInBounds 7 true) 1 = true => i1 (e1.symm.trans e)
  have q3 := fun e : lst (l.setIfInBounds 7 true) 3 = true => i3 (e3.symm.trans e)
  have q4 := fun e : lst (l.setIfInBounds 7 true) 4 = true => i4 (e4.symm.trans e)
  have q6 := fun e : lst (l.setIfInBounds 7 true) 6 = true => i6 (e6.symm.trans e)
  have hS := st.put h0 hw8 (.int .i64 p.tx) (.int .i64 p.time) (.int .i64 p.unit) (.int .i64 p.data) (.slice A8 n c8)
  have hO1 := fun e => (q1 e).2.1.pol5 hv (.int .i64 p.tx) (.int .i64 p.time) (.int .i64 p.unit) (.int .i64 p.data) (.slice A8 n c8)
  have hO3 := fun e => (q3 e).2.2.1.pol5 hv (.int .i64 p.tx) (.int .i64 p.time) (.int .i64 p.unit) (.int .i64 p.data) (.slice A8 n c8)
  generalize hW : put18 W b8 (.int .i64 p.tx) (.int .i64 p.time) (.int .i64 p.unit) (.int .i64 p.data) (.slice A8 n c8) = W2 at *
  exact ⟨by simpa using sz, hS, fun e => i0 (e0.symm.trans e), fun e => i2 (e2.symm.trans e), fun e => ⟨(q1 e).1, hO1 e, (q1 e).2.2⟩, fun e => ⟨e1.trans (q3 e).1, (q3 e).2.1, hO3 e, (q3 e).2.2.2⟩,
    fun e => ⟨(q4 e).1, (q4 e).2.1, (q4 e).2.2.at_ (o4 (e4.symm.trans e))⟩, fun e => ⟨hp8, hw8, hpx⟩, fun a b => i45 (e4.symm.trans a) (e5.symm.trans b), fun e => ⟨e1.trans (q6 e).1, e4.trans (q6 e).2.1, (o4 (q6 e).2.1).trans (q6 e).2.2⟩, fun _ => ⟨e3.trans h3, e5.trans h5, hset⟩⟩
end

/-! ### behind a store -/
theorem own_at18 {w : World} {b g : Nat} {e : TypeId} {size n c : Nat} {xs : List Value} (h : w.ownsRow b e size (.slice (some ⟨g, 0, none⟩) n c) n xs) {j : Nat} {v : Value} (hv : xs[j]? = some v) : w.cell? ⟨g, j, none⟩ = some v := by
  obtain ⟨ad, e, hc⟩ := (Row.of_own h) j v hv
  cases e
  simpa [Addr.add_lit] using hc
/-- p, its changed copy and its other copy -/
structure Tri18 (w W : World) (p : Pol18) (A : Option Addr) (n c : Nat) (ds : List Dev18) (b7 : Nat) (A7 : Option Addr) (c7 b8 : Nat) (A8 : Option Addr) (c8 : Nat) : Prop where
  P : St18 w W w.heap.size p A n c
  C : St18 w W b7 ⟨p.tx, p.time, p.unit, p.data, ds⟩ A7 n c7
  D : St18 w W b8 p A8 n c8
theorem Tri18.later {w W W' : World} {p : Pol18} {A A7 A8 : Option Addr} {n c b7 c7 b8 c8 : Nat} {ds : List Dev18} (h : Tri18 w W p A n c ds b7 A7 c7 b8 A8 c8) (hb : Below W.heap.size W W') : Tri18 w W' p A n c ds b7 A7 c7 b8 A8 c8 := ⟨h.P.later hb, h.C.later hb, h.D.later hb⟩
theorem tri18_set {w W : World} {p : Pol18} {A A7 A8 : Option Addr} {n c b7 c7 b8 c8 B8 : Nat} {L7 L8 : List DevL18} {q j : Nat} {u : Value} {cs : Array Value} {e : TypeId} {z : Nat × Nat} (hq : W.heap[q]? = some (.cells cs e z)) (he : e ≠ 24) (hS : St18 w W w.heap.size p A n c) (h0 : Dvs w A n c p.devs)
    (hP7 : PolC W b7 (.int .i64 p.tx) (.int .i64 p.time) (.int .i64 p.unit) (.int .i64 p.data) (.slice A7 n c7)) (hP8 : PolC W b8 (.int .i64 p.tx) (.int .i64 p.time) (.int .i64 p.unit) (.int .i64 p.data) (.slice A8 n c8)) (hq1 : w.heap.size ≤ q) (hq2 : q < B8)
    (hO7 : OwnD18 (W.setCell ⟨q, j, none⟩ u) (w.heap.size + 1) (.slice A7 n c7) n L7) (hO8 : OwnD18 W B8 (.slice A8 n c8) n L8) (hm8 : L8.map (·.1) = p.devs) : Tri18 w (W.setCell ⟨q, j, none⟩ u) p A n c (L7.map (·.1)) b7 A7 c7 b8 A8 c8 := by
  have hne : ∀ b {v0 v1 v2 v3 v4 : Value}, PolC W b v0 v1 v2 v3 v4 → b ≠ q := fun b v0 v1 v2 v3 v4 hp e' => by
    subst e'
    rw [show W.heap[b]? = _ from hp] at hq
    injection hq with hq
    injection hq with _ e3 _
    exact he e3.symm
  have hb : Below w.heap.size w (W.setCell ⟨q, j, none⟩ u) := hS.bel.setCell (p := ⟨q, j, none⟩) hq1 _
  have k0 := (heap_setCell_other W ⟨q, j, none⟩ w.heap.size u (hne _ hS.box)).trans hS.box
  have k7 := (heap_setCell_other W ⟨q, j, none⟩ b7 u (hne _ hP7)).trans hP7
  have k8 := (heap_setCell_other W ⟨q, j, none⟩ b8 u (hne _ hP8)).trans hP8
  exact ⟨⟨k0, h0.below hb, hb⟩, ⟨k7, hO7.dvs, hb⟩, ⟨k8, hm8 ▸ (hO8.low (a := ⟨q, j, none⟩) hq2 u).dvs, hb⟩⟩
theorem tri18_made {w W : World} {p : Pol18} {A A8 : Option Addr} {n c b7 c7 b8 c8 B8 g : Nat} {L7 L8 : List DevL18} (hS : St18 w W w.heap.size p A n c) (h0 : Dvs w A n c p.devs)
    (hP7 : PolC W b7 (.int .i64 p.tx) (.int .i64 p.time) (.int .i64 p.unit) (.int .i64 p.data) (.slice (some ⟨g, 0, none⟩) n c7)) (hP8 : PolC W b8 (.int .i64 p.tx) (.int .i64 p.time) (.int .i64 p.unit) (.int .i64 p.data) (.slice A8 n c8))
    (hO7 : OwnD18 W (w.heap.size + 1) (.slice (some ⟨g, 0, none⟩) n c7) n L7) (hm7 : L7.map (·.1) = p.devs) (hO8 : OwnD18 W B8 (.slice A8 n c8) n L8) (hm8 : L8.map (·.1) = p.devs) (hun : Und18 (.slice (some ⟨g, 0, none⟩) n c7) L7 B8) {K : Nat} (hK : K < L7.length) {z : Int} (hz : z ≠ L7[K].1.made) :
    ∃ ds, ds ≠ p.devs ∧ Tri18 w (W.setCell ⟨g, K * 5 + 2, none⟩ (.int .i64 z)) p A n c ds b7 (some ⟨g, 0, none⟩) c7 b8 A8 c8 := by
  obtain ⟨hg, cur, hc⟩ := own_apartS hO7.row g rfl
  refine ⟨_, fun e => ?_, tri18_set hc (by decide) hS h0 hP7 hP8 (by omega) (hun.1 g rfl) (hO7.made hK z) hO8 hm8⟩
  rw [← hm7] at e
  have hk2 : K < ((L7.set K (⟨L7[K].1.id, L7[K].1.tx, z, L7[K].1.snap, L7[K].1.maps⟩, L7[K].2)).map (·.1)).length := by simpa using hK
  have e2 := congrArg (fun l => (l.getD K zero18).made) e
  simp [hK] at e2
  exact hz e2
theorem tri18_time {w W : World} {p : Pol18} {A A7 A8 : Option Addr} {n c b7 c7 b8 c8 B8 g m c9 : Nat} {L7 L8 : List DevL18} (hS : St18 w W w.heap.size p A n c) (h0 : Dvs w A n c p.devs)
    (hP7 : PolC W b7 (.int .i64 p.tx) (.int .i64 p.time) (.int .i64 p.unit) (.int .i64 p.data) (.slice A7 n c7)) (hP8 : PolC W b8 (.int .i64 p.tx) (.int .i64 p.time) (.int .i64 p.unit) (.int .i64 p.data) (.slice A8 n c8))
    (hO7 : OwnD18 W (w.heap.size + 1) (.slice A7 n c7) n L7) (hm7 : L7.map (·.1) = p.devs) (hO8 : OwnD18 W B8 (.slice A8 n c8) n L8) (hm8 : L8.map (·.1) = p.devs) (hun : Und18 (.slice A7 n c7) L7 B8) {K M : Nat} (hK : K < L7.length) (he : L7[K].2 = (some ⟨g, 0, none⟩, m, c9)) (hM : M < L7[K].1.maps.length) {z : Int} (hz : z ≠ L7[K].1.maps[M].2.2) :
    ∃ ds, ds ≠ p.devs ∧ Tri18 w (W.setCell ⟨g, M * 3 + 2, none⟩ (.int .i64 z)) p A n c ds b7 A7 c7 b8 A8 c8 := by
  have hgk : (rowV18 L7[K]).ownBlock = some g := by rw [rowV18, he]; rfl
  obtain ⟨hg, cur, hc⟩ := own_apartS (hO7.each K hK) g hgk
  refine ⟨_, fun e => ?_, tri18_set hc (by decide) hS h0 hP7 hP8 (by omega) (hun.2 K hK g hgk) (hO7.time hK he hM z) hO8 hm8⟩
  rw [← hm7] at e
  have e2 := congrArg (fun l => ((l.getD K zero18).maps.getD M (0, 0, 0)).2.2) e
  simp [hK, hM] at e2
  exact hz e2
end Go.Proofs.Ytlmpaelcnnnkfaa

/-
  The walk of PoolApart.
-/
namespace Go.Proofs.Ytlmpaelcnnnkfaa
open Go.RowKit
set_option linter.unusedVariables false
set_option linter.unusedSimpArgs false

set_option maxRecDepth 100000 in
set_option maxHeartbeats 6400000 in
theorem poolapart_walk (A : Option Addr) (n c : Nat) (p : Pol18) (i k : Int) (w : World) (h : Dvs w A n c p.devs) (hbd : p.bd) (hi : -9223372036854775808 ≤ i ∧ i ≤ 9223372036854775807) (hk : -9223372036854775808 ≤ k ∧ k ≤ 9223372036854775807) :
    Calls Try.prog 5 #[polV18 p A n c, .int .i64 i, .int .i64 k] w fun e w' => e = .returned (.bool true) ∧ Below w.heap.size w w' := by
  obtain ⟨W0, hW0⟩ : ∃ W0, w.alloc (.cells #[.int .i64 p.tx, .int .i64 p.time, .int .i64 p.unit, .int .i64 p.data, .slice A n c] 24) = W0 := ⟨_, rfl⟩
  have hS0 : St18 w W0 w.heap.size p A n c := by rw [← hW0]; exact st18_start h
  obtain ⟨c0, c1, c2, c3, c4⟩ := hS0.cs
  have FW : Hid (∀ W, St18 w W w.heap.size p A n c → Calls Try.prog 6 #[polV18 p A n c] W fun e w' => e = .returned (.int .i64 (if few18 p = true then 1 else 0)) ∧ St18 w w' w.heap.size p A n c) := fun W hS => (Few_any18 p A n c W hS.dvs (fun d hd => (hbd.2.2.2.2.1 d hd).2.2.2.2.2)).mono fun e w' ⟨h1, h2⟩ => ⟨h1, hS.later h2⟩
  have LV : Hid (∀ W, St18 w W w.heap.size p A n c → Calls Try.prog 7 #[] W fun e w' => e = .returned (.bool true) ∧ Hid (Below w.heap.size w w')) := fun W hS => (lives18_any W).mono fun e w' ⟨h1, h2⟩ => ⟨h1, (hS.later h2).bel⟩
  have HS0 := Lib.hid hS0
  unfold polV18 at FW ⊢
  cases hf : few18 p with
  | false =>
    rw [hf] at FW
    clear h hbd hS0 hf
    go_enter Try.func5, Try.ntmps5
    go_wp2_with (first
      | (go_at_call 6; (with_reducible refine (FW.out _ HS0.out).mono ?_); rintro e w1 ⟨rfl, hS1⟩; have HS1 := Lib.hid hS1; clear hS1)
      | (go_at_call 7; (with_reducible refine (LV.out _ HS1.out).mono ?_); rintro e w2 ⟨rfl, hb2⟩))
    go_ret
    exact ⟨rfl, hb2.out⟩
  | true =>
    rw [hf] at FW
    obtain ⟨hf1, hf2⟩ := few18_yes.1 hf
    have hc : cnt18 p.devs ≤ 1000000 := by omega
    have hl := h.len
    have hn : n ≤ 1000000 := by omega
    by_cases hn0 : n = 0
    · subst hn0
      clear h hbd hS0 hf hf1 hf2 hc hl hn
      go_enter Try.func5, Try.ntmps5
      go_wp2_with (first
        | (go_at_call 6; (with_reducible refine (FW.out _ HS0.out).mono ?_); rintro e w1 ⟨rfl, hS1⟩; have HS1 := Lib.hid hS1; obtain ⟨d0, d1, d2, d3, d4⟩ := hS1.cs; clear hS1)
        | (go_at_call 7; (with_reducible refine (LV.out _ HS1.out).mono ?_); rintro e w2 ⟨rfl, hb2⟩))
      go_ret
      exact ⟨rfl, hb2.out⟩
    · have hnp : 0 < n := by omega
      have hnb : ((n : Int) == 0) = false := by simpa using hn0
      have CP : Hid (∀ W, St18 w W w.heap.size p A n c → Calls Try.prog 22 #[.agg #[.int .i64 p.tx, .int .i64 p.time, .int .i64 p.unit, .int .i64 p.data, .slice A n c]] W fun e w' => ∃ A' c' L, e = .returned (.agg #[.int .i64 p.tx, .int .i64 p.time, .int .i64 p.unit, .int .i64 p.data, .slice A' n c']) ∧ Hid (OwnD18 w' (W.heap.size + 2) (.slice A' n c') n L) ∧ Hid (L.map (·.1) = p.devs) ∧ Hid (Below W.heap.size W w')) := fun W hS => (Copy_any18 p A n c W hS.dvs hn hc).mono fun e w' ⟨A', c', L, h1, h2, h3, h4⟩ => ⟨A', c', L, h1, h2, h3, h4⟩
      have SC : Hid (∀ W ds b7 A7 c7 b8 A8 c8, ds ≠ p.devs → Tri18 w W p A n c ds b7 A7 c7 b8 A8 c8 → Calls Try.prog 10 #[.agg #[.int .i64 p.tx, .int .i64 p.time, .int .i64 p.unit, .int .i64 p.data, .slice A7 n c7], .agg #[.int .i64 p.tx, .int .i64 p.time, .int .i64 p.unit, .int .i64 p.data, .slice A n c]] W fun e w' => e = .returned (.bool false) ∧ Tri18 w w' p A n c ds b7 A7 c7 b8 A8 c8) := fun W ds b7 A7 c7 b8 A8 c8 hne h => (Same_any18 ⟨p.tx, p.time, p.unit, p.data, ds⟩ p A7 A n c7 n c W h.C.dvs h.P.dvs false (by simp [SamP18, hne])).mono fun e w' ⟨h1, h2⟩ => ⟨h1, h.later h2⟩
      have SDD : Hid (∀ W ds b7 A7 c7 b8 A8 c8, ds ≠ p.devs → Tri18 w W p A n c ds b7 A7 c7 b8 A8 c8 → Calls Try.prog 10 #[.agg #[.int .i64 p.tx, .int .i64 p.time, .int .i64 p.unit, .int .i64 p.data, .slice A8 n c8], .agg #[.int .i64 p.tx, .int .i64 p.time, .int .i64 p.unit, .int .i64 p.data, .slice A n c]] W fun e w' => e = .returned (.bool true) ∧ Tri18 w w' p A n c ds b7 A7 c7 b8 A8 c8) := fun W ds b7 A7 c7 b8 A8 c8 hne h => (Same_any18 p p A8 A n c8 n c W h.D.dvs h.P.dvs true (by simp [SamP18])).mono fun e w' ⟨h1, h2⟩ => ⟨h1, h.later h2⟩
      have SPP : Hid (∀ W ds b7 A7 c7 b8 A8 c8, ds ≠ p.devs → Tri18 w W p A n c ds b7 A7 c7 b8 A8 c8 → Calls Try.prog 10 #[.agg #[.int .i64 p.tx, .int .i64 p.time, .int .i64 p.unit, .int .i64 p.data, .slice A n c], .agg #[.int .i64 p.tx, .int .i64 p.time, .int .i64 p.unit, .int .i64 p.data, .slice A n c]] W fun e w' => e = .returned (.bool true) ∧ Tri18 w w' p A n c ds b7 A7 c7 b8 A8 c8) := fun W ds b7 A7 c7 b8 A8 c8 hne h => (Same_any18 p p A A n c n c W h.P.dvs h.P.dvs true (by simp [SamP18])).mono fun e w' ⟨h1, h2⟩ => ⟨h1, h.later h2⟩
      have HP := Lib.hid h
      have hkn := idx18 i hnp hn
      have HC1M := Lib.hid hc
      clear h hbd hS0 hf hf1 hf2 hn0
      go_enter Try.func5, Try.ntmps5
      go_wp2_with (go_at_call 6; (with_reducible refine (FW.out _ HS0.out).mono ?_); rintro e w1 ⟨rfl, hS1⟩; have HS1 := Lib.hid hS1; obtain ⟨d0, d1, d2, d3, d4⟩ := hS1.cs; clear hS1)
      refine wp_region_inv (fun l a W => ∃ s7 s8 s20 s21 s22 s23 A7 c7 L7 A8 c8 L8 B8 b7 b8, a = { tmps := #[.agg #[.int .i64 p.tx, .int .i64 p.time, .int .i64 p.unit, .int .i64 p.data, .slice A n c], .int .i64 i, .int .i64 k, .pointer (some ⟨w.heap.size, 0, none⟩), undef, undef, .bool false, s7, s8, undef, .agg #[.int .i64 p.tx, .int .i64 p.time, .int .i64 p.unit, .int .i64 p.data, .slice A n c], .int .i64 1, .bool false, .bool false, .pointer (some ⟨w.heap.size, 4, none⟩), .slice A n c, .int .i64 (n : Int), .bool false, .bool false, undef, s20, s21, s22, s23, undef, undef, undef, undef, undef, undef, undef, undef, undef, undef, undef, undef, undef, undef, undef, undef, undef, undef, undef, undef, undef, undef, undef, undef, undef, undef, undef, undef, undef, undef, undef, undef, undef, undef, undef, undef, undef, undef, undef, undef, undef, undef, undef, undef, undef, undef, undef, undef, undef, undef, undef, undef, undef, undef, undef, undef, undef, undef, undef, undef, undef, undef, undef, undef, undef, undef, undef, undef, undef, undef, undef, undef, undef, undef, undef, undef, undef, undef, undef, undef, undef, undef, undef], defers := [] } ∧ Iv18 w p A n c l W s7 s8 s20 s21 s22 s23 A7 c7 L7 A8 c8 L8 B8 b7 b8) (by kernel_rfl) (fun l a W h => ?hsz) ?h0 ?step ?fin
      case hsz =>
        obtain ⟨s7, s8, s20, s21, s22, s23, A7, c7, L7, A8, c8, L8, B8, b7, b8, _, hI⟩ := h
        exact hI.sz
      case h0 =>
        refine ⟨undef, undef, undef, undef, undef, undef, none, 0, [], none, 0, [], 0, 0, 0, rfl, ?_⟩
        have no : ∀ j, j < 8 → ¬ lst (Array.replicate 8 false) j = true := fun j hj => by simp [lst, hj]
        exact ⟨rfl, HS1.out.later (Below.refl _ _).drew, fun e => absurd e (no 0 (by omega)), fun e => absurd e (no 2 (by omega)), fun e => absurd e (no 1 (by omega)), fun e => absurd e (no 3 (by omega)), fun e => absurd e (no 4 (by omega)), fun e => absurd e (no 5 (by omega)), fun e => absurd e (no 4 (by omega)), fun e => absurd e (no 6 (by omega)), fun e => absurd e (no 7 (by omega))⟩
      case step =>
        rintro l a W i0 ⟨s7, s8, s20, s21, s22, s23, A7, c7, L7, A8, c8, L8, B8, b7, b8, rfl, hI⟩ hr
        obtain ⟨hi8, hun⟩ := ready_un hr hI.sz
        have hi8 : i0 < 8 := hi8
        obtain ⟨x0, x1, x2, x3, x4⟩ := hI.st.cs
        have HI := Lib.hid hI
        have HR := Lib.hid hr
        clear hI hr HS0 HS1 FW LV d0 d1 d2 d3 d4 c0 c1 c2 c3 c4 hW0
        rcases (by omega : i0 = 0 ∨ i0 = 1 ∨ i0 = 2 ∨ i0 = 3 ∨ i0 = 4 ∨ i0 = 5 ∨ i0 = 6 ∨ i0 = 7) with rfl | rfl | rfl | rfl | rfl | rfl | rfl | rfl
        · clear hi8 CP
          refine wpOp_hid rfl (fun K hK => ?_)
          go_simp
          exact hK.out _ _ ⟨s7, s8, _, s21, s22, s23, A7, c7, L7, A8, c8, L8, B8, b7, b8, rfl, HI.out.step0⟩
        · have e20 : s20 = .agg #[.int .i64 p.tx, .int .i64 p.time, .int .i64 p.unit, .int .i64 p.data, .slice A n c] := HI.out.i0 (ready_dep HR.out rfl (k := 0) (by rfl) (by rw [HI.out.sz]; decide))
          subst e20
          clear hi8
          refine wpOp_hid rfl (fun K hK => ?_)
          go_simp
          go_at_call 22
          with_reducible refine (CP.out _ HI.out.st).mono ?_
          rintro e w4 ⟨A', c', L', rfl, ho, hm, hb⟩
          exact hK.out _ _ ⟨s7, s8, _, _, s22, s23, A', c', L', A8, c8, L8, B8, b7, b8, rfl, HI.out.step1 hun hb.out ho.out hm.out⟩
        · clear hi8 CP
          refine wpOp_hid rfl (fun K hK => ?_)
          go_simp
          exact hK.out _ _ ⟨s7, s8, s20, s21, _, s23, A7, c7, L7, A8, c8, L8, B8, b7, b8, rfl, HI.out.step2⟩
        · have e22 : s22 = .agg #[.int .i64 p.tx, .int .i64 p.time, .int .i64 p.unit, .int .i64 p.data, .slice A n c] := HI.out.i2 (ready_dep HR.out rfl (k := 2) (by rfl) (by rw [HI.out.sz]; decide))
          have h1 := ready_dep HR.out rfl (k := 1) (by rfl) (by rw [HI.out.sz]; decide)
          subst e22
          clear hi8
          have H1 := Lib.hid h1
          clear h1
          refine wpOp_hid rfl (fun K hK => ?_)
          go_simp
          go_at_call 22
          with_reducible refine (CP.out _ HI.out.st).mono ?_
          rintro e w4 ⟨A', c', L', rfl, ho, hm, hb⟩
          exact hK.out _ _ ⟨s7, s8, s20, s21, _, _, A7, c7, L7, A', c', L', W.heap.size + 2, b7, b8, rfl, HI.out.step3 hun H1.out hb.out ho.out hm.out⟩
        · clear hi8 CP
          refine wpOp_hid rfl (fun K hK => ?_)
          go_simp
          exact hK.out _ _ ⟨_, s8, s20, s21, s22, s23, A7, c7, L7, A8, c8, L8, B8, W.heap.size, b8, rfl, HI.out.step4 hun _ _ _ _ _⟩
        · clear hi8 CP
          refine wpOp_hid rfl (fun K hK => ?_)
          go_simp
          exact hK.out _ _ ⟨s7, _, s20, s21, s22, s23, A7, c7, L7, A8, c8, L8, B8, b7, W.heap.size, rfl, HI.out.step5 hun _ _ _ _ _⟩
        · have h1 := ready_dep HR.out rfl (k := 1) (by rfl) (by rw [HI.out.sz]; decide)
          have h4 := ready_dep HR.out rfl (k := 4) (by rfl) (by rw [HI.out.sz]; decide)
          have e21 : s21 = .agg #[.int .i64 p.tx, .int .i64 p.time, .int .i64 p.unit, .int .i64 p.data, .slice A7 n c7] := (HI.out.i1 h1).1
          obtain ⟨e7, _, v0, v1, v2, v3, v4, hv⟩ := HI.out.i4 h4
          subst e21 e7
          obtain ⟨y0, y1, y2, y3, y4⟩ := hv.cs
          have f0 := hv.free 0
          have f1 := hv.free 1
          have f2 := hv.free 2
          have f3 := hv.free 3
          have f4 := hv.free 4
          have H1 := Lib.hid h1
          have H4 := Lib.hid h4
          clear hi8 CP h1 h4 hv
          refine wpOp_hid rfl (fun K hK => ?_)
          go_simp
          exact hK.out _ _ ⟨_, s8, s20, _, s22, s23, A7, c7, L7, A8, c8, L8, B8, b7, b8, rfl, HI.out.step6 HP.out H1.out H4.out⟩
        · have h3 := ready_dep HR.out rfl (k := 3) (by rfl) (by rw [HI.out.sz]; decide)
          have h5 := ready_dep HR.out rfl (k := 5) (by rfl) (by rw [HI.out.sz]; decide)
          have e23 : s23 = .agg #[.int .i64 p.tx, .int .i64 p.time, .int .i64 p.unit, .int .i64 p.data, .slice A8 n c8] := (HI.out.i3 h3).2.1
          obtain ⟨e8, _, v0, v1, v2, v3, v4, hv⟩ := HI.out.i5 h5
          subst e23 e8
          obtain ⟨y0, y1, y2, y3, y4⟩ := hv.cs
          have f0 := hv.free 0
          have f1 := hv.free 1
          have f2 := hv.free 2
          have f3 := hv.free 3
          have f4 := hv.free 4
          have H3 := Lib.hid h3
          have H5 := Lib.hid h5
          clear hi8 CP h3 h5 hv
          refine wpOp_hid rfl (fun K hK => ?_)
          go_simp
          exact hK.out _ _ ⟨s7, _, s20, s21, s22, _, A7, c7, L7, A8, c8, L8, B8, b7, b8, rfl, HI.out.step7 HP.out H3.out H5.out⟩
      case fin =>
        rintro l a W ⟨s7, s8, s20, s21, s22, s23, A7, c7, L7, A8, c8, L8, B8, b7, b8, rfl, hI⟩ hr
        have hz := hI.sz
        have l0 := ready_none hr (j := 0) rfl (by rfl)
        have g0 := lst_get (by omega : 0 < l.size) l0
        have l1 := ready_none hr (j := 1) rfl (by simp [g0])
        have g1 := lst_get (by omega : 1 < l.size) l1
        have l2 := ready_none hr (j := 2) rfl (by rfl)
        have g2 := lst_get (by omega : 2 < l.size) l2
        have l3 := ready_none hr (j := 3) rfl (by simp [g1, g2])
        have g3 := lst_get (by omega : 3 < l.size) l3
        have l4 := ready_none hr (j := 4) rfl (by rfl)
        have g4 := lst_get (by omega : 4 < l.size) l4
        have l5 := ready_none hr (j := 5) rfl (by rfl)
        have g5 := lst_get (by omega : 5 < l.size) l5
        have l6 := ready_none hr (j := 6) rfl (by simp [g0, g1, g2, g3, g4, g5])
        have g6 := lst_get (by omega : 6 < l.size) l6
        have l7 := ready_none hr (j := 7) rfl (by simp [g0, g1, g2, g3, g4, g5, g6])
        obtain ⟨e7, hw7, _⟩ := hI.i4 l4
        obtain ⟨e8, hw8, _⟩ := hI.i5 l5
        have h78 := hI.i45 l4 l5
        obtain ⟨_, hO7, hm7⟩ := hI.i1 l1
        obtain ⟨_, _, hO8, hm8, hB8, hun⟩ := hI.i3 l3
        obtain ⟨_, _, hp7⟩ := hI.i6 l6
        obtain ⟨_, _, hp8⟩ := hI.i7 l7
        have hst := hI.st
        subst e7 e8
        clear hI hr hz l0 g0 l1 g1 l2 g2 l3 g3 l4 g4 l5 g5 l6 g6 l7
        dsimp only
        clear d0 d1 d2 d3 d4 c0 c1 c2 c3 c4 hW0
        obtain ⟨x0, x1, x2, x3, x4⟩ := hst.cs
        obtain ⟨y0, y1, y2, y3, y4⟩ := hp7.cs
        obtain ⟨K, hKn, hK⟩ := hkn
        have hnz : ¬ (n : Int) = 0 := by omega
        obtain ⟨g, rfl, hg1, _⟩ := own_form18 hO7.row hnp
        have hKL : K < L7.length := by have := hO7.len; omega
        have hL8 := hO8.len
        have hdev : (L7[K]'hKL).1 = p.devs.getD K zero18 := by
          have e := congrArg (fun l => l.getD K zero18) hm7
          simpa [hKL] using e
        obtain ⟨b, off, A', m', c', rfl, hbl, u0, u1, u2, u3, u4, hT⟩ := hst.dvs.at18 hKn
        have hek := hO7.each K hKL
        obtain ⟨r0, r1, r2, r3, r4⟩ := devC18_at L7 K hKL
        have q2 := own_at18 hO7.row r2
        have q4 := own_at18 hO7.row r4
        have f2 := own_cell18 hO7.row (K * 5 + 2)
        have hmk : (L7[K]'hKL).2.2.1 = (L7[K]'hKL).1.maps.length := by
          have := hek.1
          rw [triC_length] at this
          omega
        have hmm : m' = (L7[K]'hKL).1.maps.length := by rw [hdev]; exact hT.len.symm
        have HS := Lib.hid hst
        have HO7 := Lib.hid hO7
        have HO8 := Lib.hid hO8
        have HP7 := Lib.hid hp7
        have HP8 := Lib.hid hp8
        have HM7 := Lib.hid hm7
        have HM8 := Lib.hid hm8
        have HUN := Lib.hid hun
        have HEK := Lib.hid hek
        obtain ⟨xd, A9, m, c9, hx⟩ : ∃ xd A9 m c9, L7[K]'hKL = (xd, A9, m, c9) := ⟨_, _, _, _, rfl⟩
        have HX := Lib.hid hx
        rw [hx] at q2 q4 hmk hmm
        replace hmk : m = xd.maps.length := hmk
        replace hmm : m' = xd.maps.length := hmm
        obtain rfl : m' = m := by omega
        replace q2 : W.cell? ⟨g, K * 5 + 2, none⟩ = some (.int .i64 xd.made) := q2
        replace q4 : W.cell? ⟨g, K * 5 + 4, none⟩ = some (.slice A9 m' c9) := q4
        have hmle : m' ≤ 1000000 := by
          have h1 := cnt18_take (ds := p.devs) (k := K) (by have := HS.out.dvs.len; omega)
          have h2 := cnt18_le (ds := p.devs) (K + 1)
          have h3 := hT.len
          have h4 := HC1M.out
          omega
        clear hst hO7 hO8 hp7 hp8 hm7 hm8 hun hek r0 r1 r2 r3 r4 hx hT hdev u0 u1 u2 u3 hmm
        by_cases hm0 : m' = 0
        · subst hm0
          clear hmk
          have hzn := xor_ne18 xd.made
          have HZ := Lib.hid hzn
          clear hzn
          generalize hzz : bits .xor .i64 xd.made 1 = z at *
          go_wp2
          go_quiet (fail)
          have hdn := below_drewN (Below.refl W.heap.size W) nq
          obtain ⟨ds, hne, hT⟩ := tri18_made (HS.out.later hdn) HP.out ((hdn.block _ (block_lt HP7.out)).trans HP7.out) ((hdn.block _ (block_lt HP8.out)).trans HP8.out) (HO7.out.later hdn) HM7.out (HO8.out.later hdn) HM8.out HUN.out hKL (z := z) (by rw [HX.out]; exact HZ.out)
          obtain ⟨a0, a1, a2, a3, a4⟩ := hT.C.cs
          obtain ⟨v0, v1, v2, v3, v4⟩ := hT.P.cs
          have HT := Lib.hid hT
          clear hdn hT
          go_wp2_with (first
            | (go_at_call 10; (with_reducible refine (SC.out _ _ _ _ _ _ _ _ hne HT.out).mono ?_); rintro e w5 ⟨rfl, hT5⟩; have HT5 := Lib.hid hT5; obtain ⟨v0, v1, v2, v3, v4⟩ := hT5.P.cs; obtain ⟨t0, t1, t2, t3, t4⟩ := hT5.D.cs; clear hT5)
            | (go_at_call 10; (with_reducible refine (SDD.out _ _ _ _ _ _ _ _ hne HT5.out).mono ?_); rintro e w6 ⟨rfl, hT6⟩; have HT6 := Lib.hid hT6; obtain ⟨v0, v1, v2, v3, v4⟩ := hT6.P.cs; clear hT6)
            | (go_at_call 10; (with_reducible refine (SPP.out _ _ _ _ _ _ _ _ hne HT6.out).mono ?_); rintro e w7 ⟨rfl, hT7⟩; have HT7 := Lib.hid hT7; clear hT7)
            | (go_at_call 7; (with_reducible refine (LV.out _ HT7.out.P).mono ?_); rintro e w8 ⟨rfl, hb8⟩))
          go_ret
          exact ⟨rfl, hb8.out⟩
        · have hmp : 0 < m' := by omega
          obtain ⟨gm, rfl, hgm, _⟩ := own_form18 (show W.ownsRow _ _ 3 (.slice A9 m' c9) m' _ from by have := HEK.out; rw [rowV18, HX.out] at this; exact this) hmp
          obtain ⟨M, hMm, hM⟩ := idx18 k hmp hmle
          have hMx : M < xd.maps.length := by omega
          have hzn := xor_ne18 (xd.maps[M]'hMx).2.2
          have HZ := Lib.hid hzn
          obtain ⟨_, _, t2⟩ := triC_at xd.maps M hMx
          have hek : W.ownsRow (w.heap.size + 1) 43 3 (.slice (some ⟨gm, 0, none⟩) m' c9) m' (triC xd.maps) := by
            have := HEK.out
            rw [rowV18, HX.out] at this
            exact this
          have p2 := own_at18 hek t2
          have fm2 := own_cell18 hek (M * 3 + 2)
          have hmz : ¬ (m' : Int) = 0 := by omega
          clear hzn t2 hek hmk hm0
          generalize hzz : bits .xor .i64 (xd.maps[M]'hMx).2.2 1 = z at *
          generalize htt : (xd.maps[M]'hMx).2.2 = tt at *
          have HTT := Lib.hid htt
          clear htt
          go_wp2
          go_quiet (fail)
          go_wp2
          have hdn := below_drewN (Below.refl W.heap.size W) (nq + 1)
          obtain ⟨ds, hne, hT⟩ := tri18_time (HS.out.later hdn) HP.out ((hdn.block _ (block_lt HP7.out)).trans HP7.out) ((hdn.block _ (block_lt HP8.out)).trans HP8.out) (HO7.out.later hdn) HM7.out (HO8.out.later hdn) HM8.out HUN.out hKL (g := gm) (m := m') (c9 := c9) (M := M) (by rw [HX.out]) (by rw [HX.out]; exact hMx) (z := z) (by
            have e : ∀ (y : DevL18) (hy : y = (xd, some ⟨gm, 0, none⟩, m', c9)) (hl : M < y.1.maps.length), y.1.maps[M].2.2 = tt := fun y hy hl => by subst hy; exact HTT.out
            rw [e _ HX.out]
            exact HZ.out)
          have HT := Lib.hid hT
          obtain ⟨a0, a1, a2, a3, a4⟩ := hT.C.cs
          obtain ⟨v0, v1, v2, v3, v4⟩ := hT.P.cs
          have hdn : Below W.heap.size W (W.drewN nq).drew := (below_drewN (Below.refl W.heap.size W) nq).drew
          have y4b := (hdn.cell (cell_lt y4)).trans y4
          have q4b := (hdn.cell (cell_lt q4)).trans q4
          have p2b := (hdn.cell (cell_lt p2)).trans p2
          have fmb : (W.drewN nq).drew.frozen? ⟨gm, M * 3 + 2, none⟩ = false := fm2
          clear hdn hT
          go_region
          all_goals
            go_wp2_with (first
              | (go_at_call 10; (with_reducible refine (SC.out _ _ _ _ _ _ _ _ hne HT.out).mono ?_); rintro e w5 ⟨rfl, hT5⟩; have HT5 := Lib.hid hT5; obtain ⟨v0, v1, v2, v3, v4⟩ := hT5.P.cs; obtain ⟨t0, t1, t2, t3, t4⟩ := hT5.D.cs; clear hT5)
              | (go_at_call 10; (with_reducible refine (SDD.out _ _ _ _ _ _ _ _ hne HT5.out).mono ?_); rintro e w6 ⟨rfl, hT6⟩; have HT6 := Lib.hid hT6; obtain ⟨v0, v1, v2, v3, v4⟩ := hT6.P.cs; clear hT6)
              | (go_at_call 10; (with_reducible refine (SPP.out _ _ _ _ _ _ _ _ hne HT6.out).mono ?_); rintro e w7 ⟨rfl, hT7⟩; have HT7 := Lib.hid hT7; clear hT7)
              | (go_at_call 7; (with_reducible refine (LV.out _ HT7.out.P).mono ?_); rintro e w8 ⟨rfl, hb8⟩))
            go_ret
            exact ⟨rfl, hb8.out⟩
end Go.Proofs.Ytlmpaelcnnnkfaa
