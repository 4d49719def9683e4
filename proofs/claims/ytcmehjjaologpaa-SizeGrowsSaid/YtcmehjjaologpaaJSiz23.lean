/-
  Joined: PgC, PgD, PgN, PolSt, PolLawC, PolIv, SizGr.
-/
import Derived.Test.YtcmehjjaologpaaJSiz22
import Derived.Test.YtcmehjjaologpaaJSiz18
import Derived.Test.YtcmehjjaologpaaJSiz03
import Derived.Test.YtcmehjjaologpaaJSiz01
import Derived.Test.YtcmehjjaologpaaJSiz19
import Derived.Laws.Small
import Derived.Deep.RegionHeld3
import Derived.Test.YtcmehjjaologpaaJSiz17
import Derived.Test.YtcmehjjaologpaaJSiz00
import Derived.Test.YtcmehjjaologpaaJSiz16
/-
  Layer 18: apart; devices in blocks of their own; Copy.
-/
namespace Go.Proofs.Ytcmehjjaologpaa
open Go.RowKit
set_option linter.unusedVariables false
set_option linter.unusedSimpArgs false

/-! ### rows of mappings -/
theorem Trs.row18 {w : World} {A : Option Addr} {n c : Nat} {l : List (Int × Int × Int)} (h : Trs w A n c l) : Row w A (triC l) := fun i v hi => by
  have hil : i < (triC l).length := by
    by_cases hh : i < (triC l).length
    · exact hh
    · rw [List.getElem?_eq_none (by omega)] at hi; cases hi
  rw [triC_length] at hil
  have hk : i / 3 < l.length := by omega
  obtain ⟨ad, rfl, h0, h1, h2⟩ := h.row (i / 3) hk
  obtain ⟨t0, t1, t2⟩ := triC_at l (i / 3) hk
  refine ⟨ad, rfl, ?_⟩
  rcases (by omega : i = i / 3 * 3 ∨ i = i / 3 * 3 + 1 ∨ i = i / 3 * 3 + 2) with e | e | e
  · rw [e] at hi ⊢
    rw [t0] at hi
    cases hi
    exact h0
  · rw [e] at hi ⊢
    rw [t1] at hi
    cases hi
    exact h1
  · rw [e] at hi ⊢
    rw [t2] at hi
    cases hi
    exact h2
theorem info_map18 : (Try.prog.info? 38).map (fun i => (i.zero, i.size, i.bytes)) = some (some (.agg #[.int .i64 0, .int .i64 0, .int .i64 0]), 3, 24) := by kernel_rfl
theorem own_mono18 {w : World} {b b' : Nat} {e : TypeId} {size n : Nat} {v : Value} {xs : List Value} (h : w.ownsRow b e size v n xs) (hb : b' ≤ b) : w.ownsRow b' e size v n xs := by
  refine ⟨h.1, ?_⟩
  rcases h.2 with hn | ⟨g, cap, cur, hv, hg, rest⟩
  · exact .inl hn
  · exact .inr ⟨g, cap, cur, hv, Nat.le_trans hb hg, rest⟩
theorem own_grown18 {X Y : World} {b b2 : Nat} {e e2 : TypeId} {s s2 n n2 : Nat} {v v2 : Value} {xs xs2 : List Value} (h : X.ownsRow b e s v n xs) (h2 : X.ownsRow b2 e2 s2 v2 n2 xs2) (hne : e ≠ e2) (hg : X.grownBy Y v2.ownBlock) : Y.ownsRow b e s v n xs := by
  refine ⟨h.1, ?_⟩
  rcases h.2 with hn | ⟨g, cap, cur, hv, hgb, hh, rest⟩
  · exact .inl hn
  · refine .inr ⟨g, cap, cur, hv, hgb, (hg.block g (block_lt hh) (fun e' => ?_)).trans hh, rest⟩
    obtain ⟨_, cur2, hc⟩ := own_apartS h2 g e'.symm
    rw [hh] at hc
    injection hc with hc
    injection hc with _ e3 _
    exact hne e3

theorem own_low18 {w : World} {b : Nat} {e : TypeId} {size n : Nat} {v : Value} {xs : List Value} (h : w.ownsRow b e size v n xs) {a : Addr} (ha : a.block < b) (u : Value) : (w.setCell a u).ownsRow b e size v n xs :=
  ownsRow_setCell_other h (fun e' => by have := (own_apartS h _ e').1; omega) u

set_option maxRecDepth 100000 in
set_option maxHeartbeats 1600000 in
theorem apart_any18 (d : Dev18) (A : Option Addr) (m c : Nat) (w : World) (h : Trs w A m c d.maps) (hm : m ≤ 1000000) :
    Calls Try.prog 28 #[devV18 d A m c] w fun e w' => ∃ A' c', e = .returned (devV18 d A' m c') ∧ w'.ownsRow w.heap.size 38 3 (.slice A' m c') m (triC d.maps) ∧ Below w.heap.size w w' := by
  obtain ⟨W0, hW0⟩ : ∃ W0, w.alloc (.cells #[.int .i64 d.id, .int .i64 d.tx, .int .i64 d.made, .int .i64 d.snap, .slice A m c] 36) = W0 := ⟨_, rfl⟩
  obtain ⟨W1, hW1⟩ : ∃ W1, W0.alloc (.cells #[.int .i64 0, .int .i64 0, .int .i64 0, .int .i64 0, .slice none 0 0] 36) = W1 := ⟨_, rfl⟩
  have hs0 : W0.heap.size = w.heap.size + 1 := by rw [← hW0]; exact World.size_alloc _ _
  have hs1 : W1.heap.size = w.heap.size + 2 := by rw [← hW1, World.size_alloc, hs0]
  have hb0 : Below w.heap.size w W0 := by rw [← hW0]; exact (Below.refl _ _).alloc (Nat.le_refl _) _
  have hb01 : Below W0.heap.size W0 W1 := by rw [← hW1]; exact (Below.refl _ _).alloc (Nat.le_refl _) _
  have hb1 : Below w.heap.size w W1 := hb0.trans (hb01.mono (by omega))
  have hR0 : DevC W0 w.heap.size (.int .i64 d.id) (.int .i64 d.tx) (.int .i64 d.made) (.int .i64 d.snap) (.slice A m c) := by rw [← hW0]; exact heap_alloc_new w _
  have hR1 : DevC W1 w.heap.size (.int .i64 d.id) (.int .i64 d.tx) (.int .i64 d.made) (.int .i64 d.snap) (.slice A m c) := (hb01.block _ (by omega)).trans hR0
  have hV1 : DevC W1 (w.heap.size + 1) (.int .i64 0) (.int .i64 0) (.int .i64 0) (.int .i64 0) (.slice none 0 0) := by
    have := heap_alloc_new W0 (.cells #[.int .i64 0, .int .i64 0, .int .i64 0, .int .i64 0, .slice none 0 0] 36)
    rw [hW1, hs0] at this
    exact this
  have HR1 := Lib.hid hR1
  have HV1 := Lib.hid hV1
  have HB := Lib.hid hb1
  have HS1 := Lib.hid hs1
  have HROW := Lib.hid ((h.below hb1).row18)
  have hlen := h.len
  obtain ⟨⟨x0, x1, x2, x3, x4⟩, _, _, _, _, xf4⟩ := hR1.cs
  have OW : Hid (W1.ownsRow (w.heap.size + 2) 38 3 (.slice none 0 0) 0 []) := World.ownsRow_nil _ _ _ _
  obtain ⟨i0, hi0, hz0, hz1, hz2⟩ := info_parts info_map18
  clear h hb0 hb01 hb1 hR0 hR1 hV1
  unfold devV18
  generalize d.id = u0 at *
  generalize d.tx = u1 at *
  generalize d.made = u2 at *
  generalize d.snap = u3 at *
  generalize d.maps = ms at *
  go_enter Try.func28, Try.ntmps28
  go_wp2_with (at_builtin; refine wpList_append_rowS _ rfl _ _ _ rfl (w.heap.size + 2) 38 3 _ 24 Try.underlying34 info_map18 rfl (by omega) _ 0 [] rfl OW (by have := HS1.out; omega) A (triC ms) m c rfl (by rw [triC_length, hlen]) HROW.out (triC_one _) (by omega) (by omega) ?_; intro v5 w5 ho5 hs5 hb5; obtain ⟨A', c', hv5, _, _⟩ := ownsRow_form ho5.out; rw [Nat.zero_add] at hv5; subst hv5; have HO5 := Lib.hid ho5; have HB5 := Lib.hid hb5; have hd := (hb5.block w.heap.size (by omega)).trans HR1.out; have hd := (show DevC w5 w.heap.size _ _ _ _ _ from hd); obtain ⟨⟨y0, y1, y2, y3, y4⟩, _, _, _, _, yf4⟩ := hd.cs; have HD5 := Lib.hid hd; have hz := (hb5.block (w.heap.size + 1) (by omega)).trans HV1.out; have hz := (show DevC w5 (w.heap.size + 1) _ _ _ _ _ from hz); obtain ⟨⟨z0, z1, z2, z3, z4⟩, zf0, zf1, zf2, zf3, zf4⟩ := hz.cs; have HZ5 := Lib.hid hz; clear hd hz ho5 hb5)
  have hzz : DevC (w5.setCell ⟨w.heap.size, 4, none⟩ (.slice A' m c')) (w.heap.size + 1) (.int .i64 0) (.int .i64 0) (.int .i64 0) (.int .i64 0) (.slice none 0 0) := (heap_setCell_other _ _ (w.heap.size + 1) _ (by show ¬ w.heap.size + 1 = w.heap.size; omega)).trans HZ5.out
  have h5 := hzz.set5 (.int .i64 u0) (.int .i64 u1) (.int .i64 u2) (.int .i64 u3) (.slice A' m c')
  refine bodyPost_ret (res1_18 Try.results28 _ _ (a := ⟨w.heap.size + 1, 0, none⟩) rfl h5.load) rfl ?_
  refine ⟨A', c', rfl, own_mono18 (b := w.heap.size + 2) ?_ (by omega), ?_⟩
  · exact own_low18 (own_low18 (own_low18 (own_low18 (own_low18 (own_low18 (by simpa using HO5.out.out) (by show w.heap.size < w.heap.size + 2; omega) _) (by show w.heap.size + 1 < w.heap.size + 2; omega) _) (by show w.heap.size + 1 < w.heap.size + 2; omega) _) (by show w.heap.size + 1 < w.heap.size + 2; omega) _) (by show w.heap.size + 1 < w.heap.size + 2; omega) _) (by show w.heap.size + 1 < w.heap.size + 2; omega) _
  · have hb := HB.out.trans (HB5.out.mono (by omega))
    exact (((((hb.setCell (p := ⟨w.heap.size, 4, none⟩) (Nat.le_refl _) _).setCell (p := ⟨w.heap.size + 1, 0, none⟩) (Nat.le_succ _) _).setCell (p := ⟨w.heap.size + 1, 1, none⟩) (Nat.le_succ _) _).setCell (p := ⟨w.heap.size + 1, 2, none⟩) (Nat.le_succ _) _).setCell (p := ⟨w.heap.size + 1, 3, none⟩) (Nat.le_succ _) _).setCell (p := ⟨w.heap.size + 1, 4, none⟩) (Nat.le_succ _) _

/-! ### devices in a row of their own, each with a row of mappings of its own -/
abbrev DevL18 := Dev18 × Option Addr × Nat × Nat
abbrev rowV18 (x : DevL18) : Value := .slice x.2.1 x.2.2.1 x.2.2.2
def devC18 : List DevL18 → List Value
  | [] => []
  | x :: r => .int .i64 x.1.id :: .int .i64 x.1.tx :: .int .i64 x.1.made :: .int .i64 x.1.snap :: rowV18 x :: devC18 r
theorem devC18_length (l : List DevL18) : (devC18 l).length = l.length * 5 := by
  induction l with
  | nil => rfl
  | cons x r ih => simp only [devC18, List.length_cons, ih]; omega
theorem devC18_append (a b : List DevL18) : devC18 (a ++ b) = devC18 a ++ devC18 b := by
  induction a with
  | nil => rfl
  | cons x r ih => simp [devC18, ih]
theorem devC18_one (l : List DevL18) : ∀ u ∈ devC18 l, u.oneCell' = true := by
  induction l with
  | nil => intro u hu; cases hu
  | cons x r ih =>
    intro u hu
    simp only [devC18, List.mem_cons] at hu
    rcases hu with rfl | rfl | rfl | rfl | rfl | hu
    · rfl
    · rfl
    · rfl
    · rfl
    · rfl
    · exact ih u hu
theorem devC18_at : ∀ (l : List DevL18) (k : Nat) (h : k < l.length), (devC18 l)[k * 5]? = some (.int .i64 l[k].1.id) ∧ (devC18 l)[k * 5 + 1]? = some (.int .i64 l[k].1.tx) ∧ (devC18 l)[k * 5 + 2]? = some (.int .i64 l[k].1.made) ∧ (devC18 l)[k * 5 + 3]? = some (.int .i64 l[k].1.snap) ∧ (devC18 l)[k * 5 + 4]? = some (rowV18 l[k])
  | x :: r, 0, _ => ⟨rfl, rfl, rfl, rfl, rfl⟩
  | x :: r, k + 1, h => by
    have := devC18_at r k (by simpa using h)
    rw [show (k + 1) * 5 = k * 5 + 1 + 1 + 1 + 1 + 1 by omega]
    simpa [devC18] using this
structure OwnD18 (w : World) (B : Nat) (v : Value) (n : Nat) (L : List DevL18) : Prop where
  row : w.ownsRow B 36 5 v n (devC18 L)
  each : ∀ k (h : k < L.length), w.ownsRow B 38 3 (rowV18 L[k]) L[k].2.2.1 (triC L[k].1.maps)
  two : ∀ j k (hj : j < L.length) (hk : k < L.length), j ≠ k → ∀ g, (rowV18 L[j]).ownBlock = some g → (rowV18 L[k]).ownBlock ≠ some g
theorem OwnD18.len {w : World} {B : Nat} {v : Value} {n : Nat} {L : List DevL18} (h : OwnD18 w B v n L) : L.length = n := by
  have := h.row.1
  rw [devC18_length] at this
  omega
theorem OwnD18.later {w w' : World} {B : Nat} {v : Value} {n : Nat} {L : List DevL18} (h : OwnD18 w B v n L) (hb : Below w.heap.size w w') : OwnD18 w' B v n L :=
  ⟨own_keptS h.row fun k _ hk => hb.block k hk, fun k hk => own_keptS (h.each k hk) fun k _ hk => hb.block k hk, h.two⟩
theorem OwnD18.low {w : World} {B : Nat} {v : Value} {n : Nat} {L : List DevL18} (h : OwnD18 w B v n L) {a : Addr} (ha : a.block < B) (u : Value) : OwnD18 (w.setCell a u) B v n L :=
  ⟨own_low18 h.row ha u, fun k hk => own_low18 (h.each k hk) ha u, h.two⟩
theorem OwnD18.dvs {w : World} {B : Nat} {A : Option Addr} {n c : Nat} {L : List DevL18} (h : OwnD18 w B (.slice A n c) n L) : Dvs w A n c (L.map (·.1)) := by
  obtain ⟨A', c', e, h1, h2⟩ := ownsRow_form h.row
  cases e
  have hr : Row w A (devC18 L) := Row.of_own h.row
  refine ⟨by simp [h.len], h1, by simpa [maxLen] using h2, fun k hk => ?_⟩
  have hk : k < L.length := by simpa using hk
  obtain ⟨t0, t1, t2, t3, t4⟩ := devC18_at L k hk
  obtain ⟨ad, rfl, g0⟩ := hr _ _ t0
  refine ⟨ad, rfl, L[k].2.1, L[k].2.2.1, L[k].2.2.2, ?_, ?_, ?_, ?_, ?_, ?_⟩
  · rw [List.getElem_map]; exact g0
  · rw [List.getElem_map, addr_add_add]; exact hr.at_ t1
  · rw [List.getElem_map, addr_add_add]; exact hr.at_ t2
  · rw [List.getElem_map, addr_add_add]; exact hr.at_ t3
  · rw [addr_add_add]; exact hr.at_ t4
  · rw [List.getElem_map]
    obtain ⟨A2, c2, e2, hT⟩ := Trs.of_own (h.each k hk)
    cases e2
    exact hT
theorem OwnD18.nil (w : World) (B : Nat) : OwnD18 w B (.slice none 0 0) 0 [] := ⟨World.ownsRow_nil _ _ _ _, fun k hk => (by cases hk), fun j k hj => (by cases hj)⟩
/-- one device more -/
theorem OwnD18.snoc {X Y : World} {B : Nat} {v v' : Value} {n : Nat} {L : List DevL18} {x : DevL18} (h : OwnD18 X B v n L) (hx : X.ownsRow B 38 3 (rowV18 x) x.2.2.1 (triC x.1.maps)) (hnew : ∀ k (hk : k < L.length) g, (rowV18 L[k]).ownBlock = some g → (rowV18 x).ownBlock ≠ some g)
    (hrow : Y.ownsRow B 36 5 v' (n + 1) (devC18 L ++ [.int .i64 x.1.id, .int .i64 x.1.tx, .int .i64 x.1.made, .int .i64 x.1.snap, rowV18 x])) (hg : X.grownBy Y v.ownBlock) : OwnD18 Y B v' (n + 1) (L ++ [x]) := by
  refine ⟨?_, fun k hk => ?_, fun j k hj hk hne g hgj => ?_⟩
  · rw [devC18_append]; exact hrow
  · by_cases hkl : k < L.length
    · rw [List.getElem_append_left hkl]
      exact own_grown18 (h.each k hkl) h.row (by decide) hg
    · obtain rfl : k = L.length := by simp at hk; omega
      rw [List.getElem_concat_length (by rfl)]
      exact own_grown18 hx h.row (by decide) hg
  · by_cases hjl : j < L.length
    · rw [List.getElem_append_left hjl] at hgj
      by_cases hkl : k < L.length
      · rw [List.getElem_append_left hkl]
        exact h.two j k hjl hkl hne g hgj
      · obtain rfl : k = L.length := by simp at hk; omega
        rw [List.getElem_concat_length (by rfl)]
        exact hnew j hjl g hgj
    · obtain rfl : j = L.length := by simp at hj; omega
      rw [List.getElem_concat_length (by rfl)] at hgj
      have hkl : k < L.length := by simp at hk; omega
      rw [List.getElem_append_left hkl]
      exact fun e => hnew k hkl g e hgj
end Go.Proofs.Ytcmehjjaologpaa

/-
  Layer 18: Find.
-/
namespace Go.Proofs.Ytcmehjjaologpaa
open Go.RowKit
set_option linter.unusedVariables false
set_option linter.unusedSimpArgs false

end Go.Proofs.Ytcmehjjaologpaa

/-
  Layer 18: Copy.
-/
namespace Go.Proofs.Ytcmehjjaologpaa
open Go.RowKit
set_option linter.unusedVariables false
set_option linter.unusedSimpArgs false

theorem PolC.load18 {w : World} {b : Nat} {a0 a1 a2 a3 : Int} {A : Option Addr} {n c : Nat} (h : PolC w b (.int .i64 a0) (.int .i64 a1) (.int .i64 a2) (.int .i64 a3) (.slice A n c)) : (loadVar 24 ⟨b, 0, none⟩).run Try.prog w = .ok (.agg #[.int .i64 a0, .int .i64 a1, .int .i64 a2, .int .i64 a3, .slice A n c]) w := run_loadVar_row w b _ _ _ _ _ h Try.underlying24 rfl (by kernel_rfl)
theorem PolC.set5 {w : World} {b : Nat} {v0 v1 v2 v3 v4 : Value} (h : PolC w b v0 v1 v2 v3 v4) (a0 a1 a2 a3 a4 : Value) : PolC (((((w.setCell ⟨b, 0, none⟩ a0).setCell ⟨b, 1, none⟩ a1).setCell ⟨b, 2, none⟩ a2).setCell ⟨b, 3, none⟩ a3).setCell ⟨b, 4, none⟩ a4) b a0 a1 a2 a3 a4 := by
  have h1 : Blk w b 24 [v0, v1, v2, v3, v4] := h
  exact ((((h1.set 0 a0).set 1 a1).set 2 a2).set 3 a3).set 4 a4
theorem PolC.free {W : World} {b : Nat} {v0 v1 v2 v3 v4 : Value} (h : PolC W b v0 v1 v2 v3 v4) (j : Nat) : W.frozen? ⟨b, j, none⟩ = false := frozen_of_row W b j _ _ h

set_option maxRecDepth 100000 in
set_option maxHeartbeats 3200000 in
theorem Copy_any18 (p : Pol18) (A : Option Addr) (n c : Nat) (w : World) (h : Dvs w A n c p.devs) (hn : n ≤ 1000000) (hm : cnt18 p.devs ≤ 1000000) :
    Calls Try.prog 17 #[polV18 p A n c] w fun e w' => ∃ A' c' L, e = .returned (polV18 p A' n c') ∧ OwnD18 w' (w.heap.size + 2) (.slice A' n c') n L ∧ L.map (·.1) = p.devs ∧ Below w.heap.size w w' := by
  have hl := h.len
  obtain ⟨W0, hW0⟩ : ∃ W0, w.alloc (.cells #[.int .i64 p.tx, .int .i64 p.time, .int .i64 p.unit, .int .i64 p.data, .slice A n c] 24) = W0 := ⟨_, rfl⟩
  obtain ⟨W1, hW1⟩ : ∃ W1, W0.alloc (.cells #[.int .i64 0, .int .i64 0, .int .i64 0, .int .i64 0, .slice none 0 0] 24) = W1 := ⟨_, rfl⟩
  have hs0 : W0.heap.size = w.heap.size + 1 := by rw [← hW0]; exact World.size_alloc _ _
  have hs1 : W1.heap.size = w.heap.size + 2 := by rw [← hW1, World.size_alloc, hs0]
  have hb0 : Below w.heap.size w W0 := by rw [← hW0]; exact (Below.refl _ _).alloc (Nat.le_refl _) _
  have hb01 : Below W0.heap.size W0 W1 := by rw [← hW1]; exact (Below.refl _ _).alloc (Nat.le_refl _) _
  have hb1 : Below w.heap.size w W1 := hb0.trans (hb01.mono (by omega))
  have hR0 : PolC W0 w.heap.size (.int .i64 p.tx) (.int .i64 p.time) (.int .i64 p.unit) (.int .i64 p.data) (.slice A n c) := by rw [← hW0]; exact heap_alloc_new w _
  have hR1 : PolC W1 w.heap.size (.int .i64 p.tx) (.int .i64 p.time) (.int .i64 p.unit) (.int .i64 p.data) (.slice A n c) := (hb01.block _ (by omega)).trans hR0
  have hV1 : PolC W1 (w.heap.size + 1) (.int .i64 0) (.int .i64 0) (.int .i64 0) (.int .i64 0) (.slice none 0 0) := by
    have := heap_alloc_new W0 (.cells #[.int .i64 0, .int .i64 0, .int .i64 0, .int .i64 0, .slice none 0 0] 24)
    rw [hW1, hs0] at this
    exact this
  have HR1 := Lib.hid hR1
  have HV1 := Lib.hid hV1
  have HB := Lib.hid hb1
  have HD := Lib.hid (h.below hb1)
  have HMS : Hid (∀ k, k < n → (p.devs.getD k zero18).maps.length ≤ 1000000) := fun k hk => by
    have h1 := cnt18_take (ds := p.devs) (k := k) (by omega)
    have h2 := cnt18_le (ds := p.devs) (k + 1)
    omega
  obtain ⟨x0, x1, x2, x3, x4⟩ := hR1.cs
  have TK : Hid (∀ k, k < n → p.devs.take (k + 1) = p.devs.take k ++ [p.devs.getD k zero18]) := fun k hk => by rw [List.take_succ_eq_append_getElem (by omega), getD18 (by omega)]
  have TA : Hid (p.devs.take n = p.devs) := List.take_of_length_le (by omega)
  clear h hb0 hb01 hb1 hR0 hR1 hV1 hm
  unfold polV18
  generalize p.tx = v0 at *
  generalize p.time = v1 at *
  generalize p.unit = v2 at *
  generalize p.data = v3 at *
  generalize p.devs = ds at *
  go_enter Try.func17, Try.ntmps17
  go_wp2
  go_loopw [3, 9] (fun v i wr => ∃ (k : Nat) (A' : Option Addr) (c' : Nat) (L : List DevL18), k ≤ n ∧ i = .int .i64 k ∧ v = .slice A' k c' ∧ Hid (OwnD18 wr (w.heap.size + 2) (.slice A' k c') k L) ∧ Hid (L.map (·.1) = ds.take k) ∧ Hid (Below (w.heap.size + 2) W1 wr)) (fun _ i _ => n - (intOf i).toNat)
  case atStart => exact ⟨0, none, 0, [], by omega, rfl, rfl, OwnD18.nil _ _, rfl, Below.refl _ _⟩
  case round =>
    obtain ⟨k, A1, c1, L, hk, rfl, rfl, HO, HL, hbel⟩ := hrel
    by_cases hlt : k < n
    · obtain ⟨b, off, A', m, c', rfl, hb, d0, d1, d2, d3, d4, hT⟩ := HD.out.at18 hlt
      have hb' : b < w.heap.size + 2 := by omega
      have hs2 : w.heap.size + 2 ≤ wr.heap.size := by have := hbel.out.size; omega
      have g0 := (hbel.out.cell (p := ⟨b, off + k * 5, none⟩) hb').trans d0
      have g1 := (hbel.out.cell (p := ⟨b, off + k * 5 + 1, none⟩) hb').trans d1
      have g2 := (hbel.out.cell (p := ⟨b, off + k * 5 + 2, none⟩) hb').trans d2
      have g3 := (hbel.out.cell (p := ⟨b, off + k * 5 + 3, none⟩) hb').trans d3
      have g4 := (hbel.out.cell (p := ⟨b, off + k * 5 + 4, none⟩) hb').trans d4
      have hba := hbel.out.alloc hs2 (.cells #[.int .i64 (ds.getD k zero18).id, .int .i64 (ds.getD k zero18).tx, .int .i64 (ds.getD k zero18).made, .int .i64 (ds.getD k zero18).snap, .slice A' m c'] 36)
      have HOA := Lib.hid (HO.out.later ((Below.refl _ wr).alloc (Nat.le_refl _) (.cells #[.int .i64 (ds.getD k zero18).id, .int .i64 (ds.getD k zero18).tx, .int .i64 (ds.getD k zero18).made, .int .i64 (ds.getD k zero18).snap, .slice A' m c'] 36)))
      have hml := hT.len
      have hmm : m ≤ 1000000 := by have := HMS.out k hlt; omega
      have hT2 : Trs (wr.alloc (.cells #[.int .i64 (ds.getD k zero18).id, .int .i64 (ds.getD k zero18).tx, .int .i64 (ds.getD k zero18).made, .int .i64 (ds.getD k zero18).snap, .slice A' m c'] 36)) A' m c' (ds.getD k zero18).maps := hT.below (by rw [hs1]; exact hba)
      have AP := Lib.hid (apart_any18 (ds.getD k zero18) A' m c' _ hT2 hmm)
      unfold devV18 at AP
      have HBA := Lib.hid hba
      have HTK := Lib.hid (TK.out k hlt)
      clear d0 d1 d2 d3 d4 hT hT2 hba HO
      generalize ds.getD k zero18 = d at *
      have hsa : (wr.alloc (.cells #[.int .i64 d.id, .int .i64 d.tx, .int .i64 d.made, .int .i64 d.snap, .slice A' m c'] 36)).heap.size = wr.heap.size + 1 := World.size_alloc _ _
      have HSA := Lib.hid hsa
      have hLk : L.length = k := HOA.out.len
      have HLK := Lib.hid hLk
      clear hLk hsa
      go_wp2_with (first
        | (go_at_call 28; (with_reducible refine (AP.out).mono ?_); rintro e w6 ⟨A2, c2, rfl, hrow, hb6⟩; have HB6 := Lib.hid (HBA.out.trans (hb6.mono (by have := HSA.out; omega))); have hs6 := hb6.size; have HS6 : Hid (w.heap.size + 2 ≤ w6.heap.size) := (by have h1 := HSA.out; show w.heap.size + 2 ≤ w6.heap.size; omega); have HO6 := Lib.hid ((HOA.out.later hb6).later ((Below.refl w6.heap.size w6).alloc (Nat.le_refl _) (.cells #[.int .i64 d.id, .int .i64 d.tx, .int .i64 d.made, .int .i64 d.snap, .slice A2 m c2] 36))); have HX6 : Hid ((w6.alloc (.cells #[.int .i64 d.id, .int .i64 d.tx, .int .i64 d.made, .int .i64 d.snap, .slice A2 m c2] 36)).ownsRow (w.heap.size + 2) 38 3 (.slice A2 m c2) m (triC d.maps)) := own_mono18 (hrow.alloc _) (by have := HSA.out; omega); have HN6 : Hid (∀ j (hj : j < L.length) g, (rowV18 L[j]).ownBlock = some g → (Value.slice A2 m c2).ownBlock ≠ some g) := fun j hj g h1 h2 => (by have a1 := block_lt (own_apartS (HOA.out.each j hj) g h1).2.choose_spec; have a2 := (own_apartS hrow g h2).1; omega); have HROW6 : Hid (Row (w6.alloc (.cells #[.int .i64 d.id, .int .i64 d.tx, .int .i64 d.made, .int .i64 d.snap, .slice A2 m c2] 36)) (some ⟨w6.heap.size, 0, none⟩) [.int .i64 d.id, .int .i64 d.tx, .int .i64 d.made, .int .i64 d.snap, .slice A2 m c2]) := Row.of_block (heap_alloc_new w6 _); clear hrow hb6 hs6)
        | (at_builtin; refine wpList_append_liesG _ rfl _ _ _ rfl (w.heap.size + 2) 36 5 _ 56 Try.underlying22 info_dev18 rfl (by omega) (.slice A1 k c1) k (devC18 L) rfl (Lib.hid HO6.out.row) (by have := HS6.out; simp; omega) ⟨w6.heap.size, 0, none⟩ [.int .i64 d.id, .int .i64 d.tx, .int .i64 d.made, .int .i64 d.snap, .slice A2 m c2] 1 1 rfl rfl HROW6.out (devC18_one [(d, A2, m, c2)]) (by omega) (by omega) (by omega) ?_; intro g cap w7 ho7 hg7 hv7; have HO7 := Lib.hid (OwnD18.snoc (x := (d, A2, m, c2)) HO6.out HX6.out HN6.out ho7.out hg7.out); have HB7 : Hid (Below (w.heap.size + 2) W1 w7) := (HB6.out.alloc HS6.out _).grown hg7.out (by have := HS6.out; simp; omega) (fun q e => (own_apartS HO6.out.row q e).1)))
      go_roundw
      all_goals first
        | exact ⟨k + 1, _, _, L ++ [(d, A2, m, c2)], by omega, by push_cast; rfl, rfl, HO7.out, by rw [HTK.out, List.map_append, HL.out]; rfl, HB7⟩
        | (simp only [intOf]; omega)
    · obtain rfl : k = n := by omega
      have hP := (show PolC wr w.heap.size (.int .i64 v0) (.int .i64 v1) (.int .i64 v2) (.int .i64 v3) (.slice A k c) from (hbel.out.block _ (by omega)).trans HR1.out)
      have hZ := (show PolC wr (w.heap.size + 1) (.int .i64 0) (.int .i64 0) (.int .i64 0) (.int .i64 0) (.slice none 0 0) from (hbel.out.block _ (by omega)).trans HV1.out)
      obtain ⟨p0, p1, p2, p3, p4⟩ := hP.cs
      have pf := hP.free 4
      obtain ⟨z0, z1, z2, z3, z4⟩ := hZ.cs
      have zf0 := hZ.free 0
      have zf1 := hZ.free 1
      have zf2 := hZ.free 2
      have zf3 := hZ.free 3
      have zf4 := hZ.free 4
      have HZ := Lib.hid hZ
      have HTA := Lib.hid TA.out
      clear hP hZ
      go_wp2
      have hzz : PolC (wr.setCell ⟨w.heap.size, 4, none⟩ (.slice A1 k c1)) (w.heap.size + 1) (.int .i64 0) (.int .i64 0) (.int .i64 0) (.int .i64 0) (.slice none 0 0) := (heap_setCell_other _ _ (w.heap.size + 1) _ (by show ¬ w.heap.size + 1 = w.heap.size; omega)).trans HZ.out
      have h5 := hzz.set5 (.int .i64 v0) (.int .i64 v1) (.int .i64 v2) (.int .i64 v3) (.slice A1 k c1)
      refine bodyPost_ret (res1_18 Try.results17 _ _ (a := ⟨w.heap.size + 1, 0, none⟩) rfl h5.load18) rfl ?_
      refine ⟨A1, c1, L, rfl, ?_, by rw [HL.out, HTA.out], ?_⟩
      · exact (((((HO.out.low (by show w.heap.size < w.heap.size + 2; omega) _).low (by show w.heap.size + 1 < w.heap.size + 2; omega) _).low (by show w.heap.size + 1 < w.heap.size + 2; omega) _).low (by show w.heap.size + 1 < w.heap.size + 2; omega) _).low (by show w.heap.size + 1 < w.heap.size + 2; omega) _).low (by show w.heap.size + 1 < w.heap.size + 2; omega) _
      · have hb := HB.out.trans (hbel.out.mono (by omega))
        exact (((((hb.setCell (p := ⟨w.heap.size, 4, none⟩) (Nat.le_refl _) _).setCell (p := ⟨w.heap.size + 1, 0, none⟩) (Nat.le_succ _) _).setCell (p := ⟨w.heap.size + 1, 1, none⟩) (Nat.le_succ _) _).setCell (p := ⟨w.heap.size + 1, 2, none⟩) (Nat.le_succ _) _).setCell (p := ⟨w.heap.size + 1, 3, none⟩) (Nat.le_succ _) _).setCell (p := ⟨w.heap.size + 1, 4, none⟩) (Nat.le_succ _) _
end Go.Proofs.Ytcmehjjaologpaa

/-
  Layer 18: what the laws keep; Refs of any pool.
-/
namespace Go.Proofs.Ytcmehjjaologpaa
open Go.RowKit
set_option linter.unusedVariables false
set_option linter.unusedSimpArgs false

/-- one pool in a variable, and in memory -/
structure St18 (w W : World) (b : Nat) (p : Pol18) (A : Option Addr) (n c : Nat) : Prop where
  box : PolC W b (.int .i64 p.tx) (.int .i64 p.time) (.int .i64 p.unit) (.int .i64 p.data) (.slice A n c)
  dvs : Dvs W A n c p.devs
  bel : Below w.heap.size w W
theorem St18.later {w W W' : World} {b : Nat} {p : Pol18} {A : Option Addr} {n c : Nat} (h : St18 w W b p A n c) (hb : Below W.heap.size W W') : St18 w W' b p A n c :=
  ⟨(hb.block _ (block_lt h.box)).trans h.box, h.dvs.below hb, h.bel.trans (hb.mono h.bel.size)⟩
theorem St18.cs {w W : World} {b : Nat} {p : Pol18} {A : Option Addr} {n c : Nat} (h : St18 w W b p A n c) : W.cell? ⟨b, 0, none⟩ = some (.int .i64 p.tx) ∧ W.cell? ⟨b, 1, none⟩ = some (.int .i64 p.time) ∧ W.cell? ⟨b, 2, none⟩ = some (.int .i64 p.unit) ∧ W.cell? ⟨b, 3, none⟩ = some (.int .i64 p.data) ∧ W.cell? ⟨b, 4, none⟩ = some (.slice A n c) := h.box.cs
/-- two pools -/
structure Sq18 (w W : World) (p : Pol18) (A : Option Addr) (n c : Nat) (q : Pol18) (A2 : Option Addr) (n2 c2 : Nat) : Prop where
  p : St18 w W w.heap.size p A n c
  q : St18 w W (w.heap.size + 1) q A2 n2 c2
theorem Sq18.later {w W W' : World} {p q : Pol18} {A A2 : Option Addr} {n c n2 c2 : Nat} (h : Sq18 w W p A n c q A2 n2 c2) (hb : Below W.heap.size W W') : Sq18 w W' p A n c q A2 n2 c2 := ⟨h.p.later hb, h.q.later hb⟩
theorem Sq18.cs {w W : World} {p q : Pol18} {A A2 : Option Addr} {n c n2 c2 : Nat} (h : Sq18 w W p A n c q A2 n2 c2) : (W.cell? ⟨w.heap.size, 0, none⟩ = some (.int .i64 p.tx) ∧ W.cell? ⟨w.heap.size, 1, none⟩ = some (.int .i64 p.time) ∧ W.cell? ⟨w.heap.size, 2, none⟩ = some (.int .i64 p.unit) ∧ W.cell? ⟨w.heap.size, 3, none⟩ = some (.int .i64 p.data) ∧ W.cell? ⟨w.heap.size, 4, none⟩ = some (.slice A n c)) ∧ W.cell? ⟨w.heap.size + 1, 0, none⟩ = some (.int .i64 q.tx) ∧ W.cell? ⟨w.heap.size + 1, 1, none⟩ = some (.int .i64 q.time) ∧ W.cell? ⟨w.heap.size + 1, 2, none⟩ = some (.int .i64 q.unit) ∧ W.cell? ⟨w.heap.size + 1, 3, none⟩ = some (.int .i64 q.data) ∧ W.cell? ⟨w.heap.size + 1, 4, none⟩ = some (.slice A2 n2 c2) := ⟨h.p.cs, h.q.cs⟩
end Go.Proofs.Ytcmehjjaologpaa

/-
  The walk of PoolApart.
-/
namespace Go.Proofs.Ytcmehjjaologpaa
open Go.RowKit
set_option linter.unusedVariables false
set_option linter.unusedSimpArgs false

/-! ### a store into a row of one's own -/
theorem own_set18 {w : World} {b g : Nat} {e : TypeId} {size n c : Nat} {xs : List Value} (h : w.ownsRow b e size (.slice (some ⟨g, 0, none⟩) n c) n xs) {j : Nat} (hj : j < n * size) (u : Value) : (w.setCell ⟨g, j, none⟩ u).ownsRow b e size (.slice (some ⟨g, 0, none⟩) n c) n (xs.set j u) := by
  rcases h.2 with ⟨hv, _⟩ | ⟨g', cap, cur, hv, hg, hh, h1, h2, h3, h4⟩
  · cases hv
  · cases hv
    refine ⟨by rw [List.length_set]; exact h.1, .inr ⟨g, c, cur.setIfInBounds j u, rfl, hg, heap_setCell_same w g j _ _ _ hh, h1, h2, by simp [h3], ?_⟩⟩
    rw [Array.toList_setIfInBounds, List.take_set, h4]
theorem own_cell18 {w : World} {b g : Nat} {e : TypeId} {size n c : Nat} {xs : List Value} (h : w.ownsRow b e size (.slice (some ⟨g, 0, none⟩) n c) n xs) (j : Nat) : w.frozen? ⟨g, j, none⟩ = false := by
  rcases h.2 with ⟨hv, _⟩ | ⟨g', cap, cur, hv, hg, hh, _⟩
  · cases hv
  · cases hv
    exact frozen_of_row w g j _ _ hh
theorem own_form18 {w : World} {b : Nat} {e : TypeId} {size n c : Nat} {A : Option Addr} {xs : List Value} (h : w.ownsRow b e size (.slice A n c) n xs) (hn : 0 < n) : ∃ g, A = some ⟨g, 0, none⟩ ∧ b ≤ g ∧ g < w.heap.size := by
  rcases h.2 with ⟨_, h0⟩ | ⟨g', cap, cur, hv, hg, hh, _⟩
  · omega
  · cases hv
    exact ⟨g', rfl, hg, block_lt hh⟩
theorem triC_set2 : ∀ (l : List (Int × Int × Int)) (k : Nat) (z : Int) (h : k < l.length), (triC l).set (k * 3 + 2) (.int .i64 z) = triC (l.set k (l[k].1, l[k].2.1, z))
  | x :: r, 0, z, _ => rfl
  | x :: r, k + 1, z, h => by
    have := triC_set2 r k z (by simpa using h)
    rw [show (k + 1) * 3 + 2 = k * 3 + 2 + 1 + 1 + 1 by omega]
    simp only [triC, List.set_cons_succ, this, List.getElem_cons_succ]
theorem devC18_set2 : ∀ (l : List DevL18) (k : Nat) (z : Int) (h : k < l.length), (devC18 l).set (k * 5 + 2) (.int .i64 z) = devC18 (l.set k (⟨l[k].1.id, l[k].1.tx, z, l[k].1.snap, l[k].1.maps⟩, l[k].2))
  | x :: r, 0, z, _ => rfl
  | x :: r, k + 1, z, h => by
    have := devC18_set2 r k z (by simpa using h)
    rw [show (k + 1) * 5 + 2 = k * 5 + 2 + 1 + 1 + 1 + 1 + 1 by omega]
    simp only [devC18, List.set_cons_succ, this, List.getElem_cons_succ]
/-- devices that differ in their mappings have the same cells -/
theorem devC18_maps : ∀ (l : List DevL18) (k : Nat) (ms : List (Int × Int × Int)) (h : k < l.length), devC18 (l.set k (⟨l[k].1.id, l[k].1.tx, l[k].1.made, l[k].1.snap, ms⟩, l[k].2)) = devC18 l
  | x :: r, 0, ms, _ => rfl
  | x :: r, k + 1, ms, h => by
    have := devC18_maps r k ms (by simpa using h)
    simp only [devC18, List.set_cons_succ, this, List.getElem_cons_succ]
/-- one number of a device changed in its row -/
theorem OwnD18.made {w : World} {B g n c : Nat} {L : List DevL18} (h : OwnD18 w B (.slice (some ⟨g, 0, none⟩) n c) n L) {k : Nat} (hk : k < L.length) (z : Int) : OwnD18 (w.setCell ⟨g, k * 5 + 2, none⟩ (.int .i64 z)) B (.slice (some ⟨g, 0, none⟩) n c) n (L.set k (⟨L[k].1.id, L[k].1.tx, z, L[k].1.snap, L[k].1.maps⟩, L[k].2)) := by
  have hl := h.len
  have hoth : ∀ j (hj : j < L.length), (rowV18 L[j]).ownBlock ≠ some g := fun j hj e => by
    obtain ⟨_, cur, hc⟩ := own_apartS (h.each j hj) g e
    obtain ⟨_, cur2, hc2⟩ := own_apartS h.row g rfl
    rw [hc] at hc2
    injection hc2 with hc2
    injection hc2 with _ e3 _
    exact absurd e3 (by decide)
  have hrow : ∀ j (hj : j < (L.set k (⟨L[k].1.id, L[k].1.tx, z, L[k].1.snap, L[k].1.maps⟩, L[k].2)).length), ∃ hj2 : j < L.length, (L.set k (⟨L[k].1.id, L[k].1.tx, z, L[k].1.snap, L[k].1.maps⟩, L[k].2))[j].2 = L[j].2 ∧ (L.set k (⟨L[k].1.id, L[k].1.tx, z, L[k].1.snap, L[k].1.maps⟩, L[k].2))[j].1.maps = L[j].1.maps := fun j hj => by
    have hj2 : j < L.length := by simpa using hj
    refine ⟨hj2, ?_⟩
    by_cases e : k = j
    · subst e; simp
    · rw [List.getElem_set_ne e]; exact ⟨rfl, rfl⟩
  refine ⟨?_, fun j hj => ?_, fun i j hi hj hne b hb => ?_⟩
  · have := own_set18 h.row (j := k * 5 + 2) (by omega) (.int .i64 z)
    rwa [devC18_set2 L k z hk] at this
  · obtain ⟨hj2, e1, e2⟩ := hrow j hj
    rw [rowV18, e1, e2]
    exact ownsRow_setCell_other (h.each j hj2) (by simpa using hoth j hj2) _
  · obtain ⟨hi2, e1, _⟩ := hrow i hi
    obtain ⟨hj2, e3, _⟩ := hrow j hj
    rw [rowV18, e1] at hb
    rw [rowV18, e3]
    exact h.two i j hi2 hj2 hne b hb
/-- one number of a mapping changed in its row -/
theorem OwnD18.time {w : World} {B n g : Nat} {v : Value} {L : List DevL18} (h : OwnD18 w B v n L) {k m c j : Nat} (hk : k < L.length) (he : L[k].2 = (some ⟨g, 0, none⟩, m, c)) (hj : j < L[k].1.maps.length) (z : Int) : OwnD18 (w.setCell ⟨g, j * 3 + 2, none⟩ (.int .i64 z)) B v n (L.set k (⟨L[k].1.id, L[k].1.tx, L[k].1.made, L[k].1.snap, L[k].1.maps.set j (L[k].1.maps[j].1, L[k].1.maps[j].2.1, z)⟩, L[k].2)) := by
  have hl := h.len
  have hek := h.each k hk
  have hml : L[k].1.maps.length = m := by
    have := hek.1
    rw [triC_length, he] at this
    have : L[k].1.maps.length * 3 = m * 3 := this
    omega
  have hgk : (rowV18 L[k]).ownBlock = some g := by rw [rowV18, he]; rfl
  have hrow : ∀ i (hi : i < (L.set k (⟨L[k].1.id, L[k].1.tx, L[k].1.made, L[k].1.snap, L[k].1.maps.set j (L[k].1.maps[j].1, L[k].1.maps[j].2.1, z)⟩, L[k].2)).length), ∃ hi2 : i < L.length, (L.set k (⟨L[k].1.id, L[k].1.tx, L[k].1.made, L[k].1.snap, L[k].1.maps.set j (L[k].1.maps[j].1, L[k].1.maps[j].2.1, z)⟩, L[k].2))[i].2 = L[i].2 := fun i hi => by
    have hi2 : i < L.length := by simpa using hi
    refine ⟨hi2, ?_⟩
    by_cases e : k = i
    · subst e; simp
    · rw [List.getElem_set_ne e]
  refine ⟨?_, fun i hi => ?_, fun i1 i2 hi1 hi2 hne b hb => ?_⟩
  · rw [devC18_maps L k _ hk]
    refine ownsRow_setCell_other h.row (fun e => ?_) _
    obtain ⟨_, cur, hc⟩ := own_apartS h.row _ e
    obtain ⟨_, cur2, hc2⟩ := own_apartS hek g hgk
    have hc : w.heap[g]? = _ := hc
    rw [hc] at hc2
    injection hc2 with hc2
    injection hc2 with _ e3 _
    exact absurd e3 (by decide)
  · obtain ⟨hi2, e1⟩ := hrow i hi
    by_cases e : k = i
    · subst e
      rw [rowV18, e1, List.getElem_set_self]
      have h5 : w.ownsRow B 38 3 (.slice (some ⟨g, 0, none⟩) m c) m (triC L[k].1.maps) := by
        have := hek
        rw [rowV18, he] at this
        exact this
      have h6 := own_set18 h5 (j := j * 3 + 2) (by omega) (.int .i64 z)
      rw [triC_set2 _ j z hj] at h6
      rw [he]
      exact h6
    · rw [rowV18, e1, List.getElem_set_ne e]
      refine ownsRow_setCell_other (h.each i hi2) (fun e2 => ?_) _
      exact h.two k i hk hi2 e g hgk e2
  · obtain ⟨h3, e1⟩ := hrow i1 hi1
    obtain ⟨h4, e2⟩ := hrow i2 hi2
    rw [rowV18, e1] at hb
    rw [rowV18, e2]
    exact h.two i1 i2 h3 h4 hne b hb
end Go.Proofs.Ytcmehjjaologpaa

/-
  PoolApart: two copies into two variables, in whatever order: what is kept.
-/
namespace Go.Proofs.Ytcmehjjaologpaa
open Go.RowKit
set_option linter.unusedVariables false
set_option linter.unusedSimpArgs false

section
variable {P : Program} {ops : Array Oper} {Q : Exit → Act → World → Prop} {md : Region.Mode}
end
theorem OwnD18.mono {w : World} {B B' : Nat} {v : Value} {n : Nat} {L : List DevL18} (h : OwnD18 w B v n L) (hb : B' ≤ B) : OwnD18 w B' v n L :=
  ⟨own_mono18 h.row hb, fun k hk => own_mono18 (h.each k hk) hb, h.two⟩
/-- some pool in a block -/
def PolX18 (W : World) (b : Nat) : Prop := ∃ v0 v1 v2 v3 v4, PolC W b v0 v1 v2 v3 v4
theorem PolX18.lt {W : World} {b : Nat} (h : PolX18 W b) : b < W.heap.size := by
  obtain ⟨v0, v1, v2, v3, v4, h⟩ := h
  exact block_lt h
theorem PolX18.at_ {W W' : World} {b : Nat} (h : PolX18 W b) (hb : W'.heap[b]? = W.heap[b]?) : PolX18 W' b := by
  obtain ⟨v0, v1, v2, v3, v4, h⟩ := h
  exact ⟨v0, v1, v2, v3, v4, hb.trans h⟩
/-- a pool stored into a variable -/
abbrev put18 (W : World) (b : Nat) (a0 a1 a2 a3 a4 : Value) : World := ((((W.setCell ⟨b, 0, none⟩ a0).setCell ⟨b, 1, none⟩ a1).setCell ⟨b, 2, none⟩ a2).setCell ⟨b, 3, none⟩ a3).setCell ⟨b, 4, none⟩ a4
theorem put18_other {W : World} {b q : Nat} (h : q ≠ b) (a0 a1 a2 a3 a4 : Value) : (put18 W b a0 a1 a2 a3 a4).heap[q]? = W.heap[q]? := by
  unfold put18
  rw [heap_setCell_other _ _ q _ h, heap_setCell_other _ _ q _ h, heap_setCell_other _ _ q _ h, heap_setCell_other _ _ q _ h, heap_setCell_other _ _ q _ h]
theorem put18_below {B b : Nat} {w W : World} (h : Below B w W) (hb : B ≤ b) (a0 a1 a2 a3 a4 : Value) : Below B w (put18 W b a0 a1 a2 a3 a4) := ((((h.setCell (p := ⟨b, 0, none⟩) hb _).setCell (p := ⟨b, 1, none⟩) hb _).setCell (p := ⟨b, 2, none⟩) hb _).setCell (p := ⟨b, 3, none⟩) hb _).setCell (p := ⟨b, 4, none⟩) hb _

/-- all blocks of a copy lie below B -/
def Und18 (v : Value) (L : List DevL18) (B : Nat) : Prop := (∀ g, v.ownBlock = some g → g < B) ∧ ∀ k (hk : k < L.length) g, (rowV18 L[k]).ownBlock = some g → g < B
theorem idx18 (x : Int) {n : Nat} (h : 0 < n) (hn : n ≤ 1000000) : ∃ K : Nat, K < n ∧ (wrap64 (x.tmod (n : Int) + (n : Int))).tmod (n : Int) = (K : Int) := by
  have h1 := Int.tmod_lt_of_pos x (show (0 : Int) < n by omega)
  have h2 := Int.lt_tmod_of_pos x (show (0 : Int) < n by omega)
  generalize x.tmod n = y at *
  have e : wrap64 (y + n) = y + n := by rw [← IntWalk.i64_left]; exact IntWalk.i64_in _ (by omega)
  rw [e]
  have h3 := Int.tmod_lt_of_pos (y + n) (show (0 : Int) < n by omega)
  have h4 := Int.tmod_nonneg (n : Int) (show 0 ≤ y + n by omega)
  obtain ⟨K, hK⟩ := Int.eq_ofNat_of_zero_le h4
  exact ⟨K, by omega, hK⟩
/-- the state of the statement, behind the operations that are listed -/
structure Iv18 (w : World) (p : Pol18) (A : Option Addr) (n c : Nat) (l : Array Bool) (W : World) (s7 s8 s20 s21 s22 s23 : Value) (A7 : Option Addr) (c7 : Nat) (L7 : List DevL18) (A8 : Option Addr) (c8 : Nat) (L8 : List DevL18) (B8 b7 b8 : Nat) : Prop where
  sz : l.size = 8
  st : St18 w W w.heap.size p A n c
  i0 : lst l 0 = true → s20 = polV18 p A n c
  i2 : lst l 2 = true → s22 = polV18 p A n c
  i1 : lst l 1 = true → s21 = polV18 p A7 n c7 ∧ OwnD18 W (w.heap.size + 1) (.slice A7 n c7) n L7 ∧ L7.map (·.1) = p.devs
  i3 : lst l 3 = true → lst l 1 = true ∧ s23 = polV18 p A8 n c8 ∧ OwnD18 W B8 (.slice A8 n c8) n L8 ∧ L8.map (·.1) = p.devs ∧ w.heap.size + 1 ≤ B8 ∧ Und18 (.slice A7 n c7) L7 B8
  i4 : lst l 4 = true → s7 = .pointer (some ⟨b7, 0, none⟩) ∧ w.heap.size < b7 ∧ PolX18 W b7
  i5 : lst l 5 = true → s8 = .pointer (some ⟨b8, 0, none⟩) ∧ w.heap.size < b8 ∧ PolX18 W b8
  i45 : lst l 4 = true → lst l 5 = true → b7 ≠ b8
  i6 : lst l 6 = true → lst l 1 = true ∧ lst l 4 = true ∧ PolC W b7 (.int .i64 p.tx) (.int .i64 p.time) (.int .i64 p.unit) (.int .i64 p.data) (.slice A7 n c7)
  i7 : lst l 7 = true → lst l 3 = true ∧ lst l 5 = true ∧ PolC W b8 (.int .i64 p.tx) (.int .i64 p.time) (.int .i64 p.unit) (.int .i64 p.data) (.slice A8 n c8)
section
variable {w W W' : World} {p : Pol18} {A : Option Addr} {n c : Nat} {l : Array Bool} {s7 s8 s20 s21 s22 s23 : Value} {A7 : Option Addr} {c7 : Nat} {L7 : List DevL18} {A8 : Option Addr} {c8 : Nat} {L8 : List DevL18} {B8 b7 b8 : Nat}
theorem Iv18.later (h : Iv18 w p A n c l W s7 s8 s20 s21 s22 s23 A7 c7 L7 A8 c8 L8 B8 b7 b8) (hb : Below W.heap.size W W') : Iv18 w p A n c l W' s7 s8 s20 s21 s22 s23 A7 c7 L7 A8 c8 L8 B8 b7 b8 :=
  ⟨h.sz, h.st.later hb, h.i0, h.i2, fun e => ⟨(h.i1 e).1, (h.i1 e).2.1.later hb, (h.i1 e).2.2⟩, fun e => ⟨(h.i3 e).1, (h.i3 e).2.1, (h.i3 e).2.2.1.later hb, (h.i3 e).2.2.2⟩,
    fun e => ⟨(h.i4 e).1, (h.i4 e).2.1, (h.i4 e).2.2.at_ (hb.block _ (h.i4 e).2.2.lt)⟩, fun e => ⟨(h.i5 e).1, (h.i5 e).2.1, (h.i5 e).2.2.at_ (hb.block _ (h.i5 e).2.2.lt)⟩, h.i45,
    fun e => ⟨(h.i6 e).1, (h.i6 e).2.1, (hb.block _ (block_lt (h.i6 e).2.2)).trans (h.i6 e).2.2⟩, fun e => ⟨(h.i7 e).1, (h.i7 e).2.1, (hb.block _ (block_lt (h.i7 e).2.2)).trans (h.i7 e).2.2⟩⟩
theorem Iv18.size (h : Iv18 w p A n c l W s7 s8 s20 s21 s22 s23 A7 c7 L7 A8 c8 L8 B8 b7 b8) : w.heap.size + 1 ≤ W.heap.size := block_lt h.st.box
theorem St18.put {b : Nat} (h : St18 w W w.heap.size p A n c) (h0 : Dvs w A n c p.devs) (hb : w.heap.size < b) (a0 a1 a2 a3 a4 : Value) : St18 w (put18 W b a0 a1 a2 a3 a4) w.heap.size p A n c :=
  ⟨(put18_other (by omega) a0 a1 a2 a3 a4).trans h.box, h0.below (put18_below h.bel (by omega) a0 a1 a2 a3 a4), put18_below h.bel (by omega) a0 a1 a2 a3 a4⟩
end

/-! ### behind a store -/
theorem own_at18 {w : World} {b g : Nat} {e : TypeId} {size n c : Nat} {xs : List Value} (h : w.ownsRow b e size (.slice (some ⟨g, 0, none⟩) n c) n xs) {j : Nat} {v : Value} (hv : xs[j]? = some v) : w.cell? ⟨g, j, none⟩ = some v := by
  obtain ⟨ad, e, hc⟩ := (Row.of_own h) j v hv
  cases e
  simpa [Addr.add_lit] using hc
/-- p, its changed copy and its other copy -/
structure Tri18 (w W : World) (p : Pol18) (A : Option Addr) (n c : Nat) (ds : List Dev18) (b7 : Nat) (A7 : Option Addr) (c7 b8 : Nat) (A8 : Option Addr) (c8 : Nat) : Prop where
  P : St18 w W w.heap.size p A n c
  C : St18 w W b7 ⟨p.tx, p.time, p.unit, p.data, ds⟩ A7 n c7
  D : St18 w W b8 p A8 n c8
theorem Tri18.later {w W W' : World} {p : Pol18} {A A7 A8 : Option Addr} {n c b7 c7 b8 c8 : Nat} {ds : List Dev18} (h : Tri18 w W p A n c ds b7 A7 c7 b8 A8 c8) (hb : Below W.heap.size W W') : Tri18 w W' p A n c ds b7 A7 c7 b8 A8 c8 := ⟨h.P.later hb, h.C.later hb, h.D.later hb⟩
end Go.Proofs.Ytcmehjjaologpaa

/-
  Layer 20: a device of a copy gets a longer row of mappings.
-/
namespace Go.Proofs.Ytcmehjjaologpaa
open Go.RowKit
set_option linter.unusedVariables false
set_option linter.unusedSimpArgs false

theorem own20_two {X Y : World} {b : Nat} {e : TypeId} {s n : Nat} {v v2 : Value} {xs : List Value} (h : X.ownsRow b e s v n xs) (hne : ∀ g, v.ownBlock = some g → v2.ownBlock ≠ some g) (hg : X.grownBy Y v2.ownBlock) : Y.ownsRow b e s v n xs := by
  refine ⟨h.1, ?_⟩
  rcases h.2 with hn | ⟨g, cap, cur, hv, hgb, hh, rest⟩
  · exact .inl hn
  · refine .inr ⟨g, cap, cur, hv, hgb, (hg.block g (block_lt hh) (fun e' => ?_)).trans hh, rest⟩
    subst hv
    exact hne g rfl e'.symm
theorem own20_grow {X Y : World} {B g n c : Nat} {L : List DevL18} (h : OwnD18 X B (.slice (some ⟨g, 0, none⟩) n c) n L) {K : Nat} (hK : K < L.length) (d : Dev18) (e1 : d.id = L[K].1.id) (e2 : d.tx = L[K].1.tx) (e3 : d.made = L[K].1.made) (e4 : d.snap = L[K].1.snap)
    {g7 m7 cap7 : Nat} (hown : Y.ownsRow B 38 3 (.slice (some ⟨g7, 0, none⟩) m7 cap7) m7 (triC d.maps)) (hg : X.grownBy Y (rowV18 L[K]).ownBlock) :
    Dvs (Y.setCell ⟨g, K * 5 + 4, none⟩ (.slice (some ⟨g7, 0, none⟩) m7 cap7)) (some ⟨g, 0, none⟩) n c ((L.map (·.1)).set K d) := by
  have hl := h.len
  have hrow : Y.ownsRow B 36 5 (.slice (some ⟨g, 0, none⟩) n c) n (devC18 L) := own_grown18 h.row (h.each K hK) (by decide) hg
  have hg7 : g7 ≠ g := fun e => by
    subst e
    obtain ⟨_, cur, hc⟩ := own_apartS hown g7 rfl
    obtain ⟨_, cur2, hc2⟩ := own_apartS hrow g7 rfl
    rw [hc] at hc2
    injection hc2 with hc2
    injection hc2 with _ e3 _
    exact absurd e3 (by decide)
  obtain ⟨A', c', e', hcap, hmost⟩ := ownsRow_form h.row
  cases e'
  have hset := own_set18 hrow (j := K * 5 + 4) (by omega) (.slice (some ⟨g7, 0, none⟩) m7 cap7)
  refine ⟨by simp [hl], hcap, by simpa [maxLen] using hmost, fun k hk => ?_⟩
  have hkL : k < L.length := by simpa using hk
  obtain ⟨t0, t1, t2, t3, t4⟩ := devC18_at L k hkL
  by_cases hkK : k = K
  · subst hkK
    have u0 := own_at18 hset (j := k * 5) (by rw [List.getElem?_set_ne (by omega)]; exact t0)
    have u1 := own_at18 hset (j := k * 5 + 1) (by rw [List.getElem?_set_ne (by omega)]; exact t1)
    have u2 := own_at18 hset (j := k * 5 + 2) (by rw [List.getElem?_set_ne (by omega)]; exact t2)
    have u3 := own_at18 hset (j := k * 5 + 3) (by rw [List.getElem?_set_ne (by omega)]; exact t3)
    have u4 := own_at18 hset (j := k * 5 + 4) (v := .slice (some ⟨g7, 0, none⟩) m7 cap7) (by rw [List.getElem?_set_self (by rw [devC18_length]; omega)])
    refine ⟨⟨g, 0, none⟩, rfl, some ⟨g7, 0, none⟩, m7, cap7, ?_, ?_, ?_, ?_, ?_, ?_⟩
    · rw [List.getElem_set_self, e1]; simpa [Addr.add_lit] using u0
    · rw [List.getElem_set_self, e2]; simpa [Addr.add_lit] using u1
    · rw [List.getElem_set_self, e3]; simpa [Addr.add_lit] using u2
    · rw [List.getElem_set_self, e4]; simpa [Addr.add_lit] using u3
    · simpa [Addr.add_lit] using u4
    · rw [List.getElem_set_self]
      obtain ⟨A2, c2, e2', hT⟩ := Trs.of_own (ownsRow_setCell_other hown (by
        show ¬ some g7 = some g
        exact fun e => hg7 (by injection e)) (.slice (some ⟨g7, 0, none⟩) m7 cap7) (a := ⟨g, k * 5 + 4, none⟩))
      cases e2'
      exact hT
  · have u0 := own_at18 hset (j := k * 5) (by rw [List.getElem?_set_ne (by omega)]; exact t0)
    have u1 := own_at18 hset (j := k * 5 + 1) (by rw [List.getElem?_set_ne (by omega)]; exact t1)
    have u2 := own_at18 hset (j := k * 5 + 2) (by rw [List.getElem?_set_ne (by omega)]; exact t2)
    have u3 := own_at18 hset (j := k * 5 + 3) (by rw [List.getElem?_set_ne (by omega)]; exact t3)
    have u4 := own_at18 hset (j := k * 5 + 4) (by rw [List.getElem?_set_ne (by omega)]; exact t4)
    have hy : Y.ownsRow B 38 3 (rowV18 L[k]) L[k].2.2.1 (triC L[k].1.maps) := own20_two (h.each k hkL) (fun b hb => h.two k K hkL hK hkK b hb) hg
    have hgk : (rowV18 L[k]).ownBlock ≠ some g := fun e => by
      obtain ⟨_, cur, hc⟩ := own_apartS hy g e
      obtain ⟨_, cur2, hc2⟩ := own_apartS hrow g rfl
      rw [hc] at hc2
      injection hc2 with hc2
      injection hc2 with _ e3 _
      exact absurd e3 (by decide)
    refine ⟨⟨g, 0, none⟩, rfl, L[k].2.1, L[k].2.2.1, L[k].2.2.2, ?_, ?_, ?_, ?_, ?_, ?_⟩
    · rw [List.getElem_set_ne (fun e => hkK e.symm), List.getElem_map]; simpa [Addr.add_lit] using u0
    · rw [List.getElem_set_ne (fun e => hkK e.symm), List.getElem_map]; simpa [Addr.add_lit] using u1
    · rw [List.getElem_set_ne (fun e => hkK e.symm), List.getElem_map]; simpa [Addr.add_lit] using u2
    · rw [List.getElem_set_ne (fun e => hkK e.symm), List.getElem_map]; simpa [Addr.add_lit] using u3
    · simpa [Addr.add_lit] using u4
    · rw [List.getElem_set_ne (fun e => hkK e.symm), List.getElem_map]
      obtain ⟨A2, c2, e2', hT⟩ := Trs.of_own (ownsRow_setCell_other hy hgk (.slice (some ⟨g7, 0, none⟩) m7 cap7) (a := ⟨g, K * 5 + 4, none⟩))
      cases e2'
      exact hT
end Go.Proofs.Ytcmehjjaologpaa
