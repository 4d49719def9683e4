/-
  Joined: BlkB, BlkC, BlkD, BlkF.
-/
import Derived.Test.YtnjlganofjkpfaaGreatJBldB40
import Derived.Test.YtnjlganofjkpfaaGreatJBldB27
import Derived.Test.YtnjlganofjkpfaaGreatJBldB38
import Derived.Test.YtnjlganofjkpfaaGreatJBldB39
import Derived.Test.YtnjlganofjkpfaaGreatJBldB17
import Derived.Test.YtnjlganofjkpfaaGreatJBldB22
import Derived.Test.YtnjlganofjkpfaaGreatJBldB12
import Derived.Deep.RegionWith
import Derived.Deep.RegionHeld3
import Derived.BigQuiet
/-
  Results that are structs in variables: a superblock or a node beside an error; a slice beside an error.
-/
namespace Go.Proofs.YtnjlganofjkpfaaGreat
open Go.RowKit
set_option linter.unusedVariables false
set_option linter.unusedSimpArgs false

theorem NodAt.load {w : World} {p : Nat} {tree : Int} {leaf : Bool} {s1 s2 : Value} (h : NodAt w p tree leaf s1 s2) : (loadVar 70 ⟨p, 0, none⟩).run Tryz.prog w = .ok (.agg #[.int .i64 tree, .bool leaf, s1, s2]) w := run_loadVar_row w p _ _ _ _ _ h Tryz.underlying70 rfl (by kernel_rfl)

theorem four_other {w : World} {p q : Nat} {o : Obj} (h : w.heap[q]? = some o) (hne : q ≠ p) (a b c d : Value) : ((((w.setCell ⟨p, 0, none⟩ a).setCell ⟨p, 1, none⟩ b).setCell ⟨p, 2, none⟩ c).setCell ⟨p, 3, none⟩ d).heap[q]? = some o := by
  rw [heap_setCell_other _ _ q _ hne, heap_setCell_other _ _ q _ hne, heap_setCell_other _ _ q _ hne, heap_setCell_other _ _ q _ hne]
  exact h

def NodC4 (w : World) (p : Nat) (tree : Int) (leaf : Bool) (s1 s2 : Value) : Prop :=
  (w.cell? ⟨p, 0, none⟩ = some (.int .i64 tree) ∧ w.cell? ⟨p, 1, none⟩ = some (.bool leaf) ∧ w.cell? ⟨p, 2, none⟩ = some s1 ∧ w.cell? ⟨p, 3, none⟩ = some s2) ∧ w.frozen? ⟨p, 0, none⟩ = false ∧ w.frozen? ⟨p, 1, none⟩ = false ∧ w.frozen? ⟨p, 2, none⟩ = false ∧ w.frozen? ⟨p, 3, none⟩ = false
theorem NodAt.cs {w : World} {p : Nat} {tree : Int} {leaf : Bool} {s1 s2 : Value} (h : NodAt w p tree leaf s1 s2) : NodC4 w p tree leaf s1 s2 :=
  ⟨⟨h.c0, h.c1, h.c2, h.c3⟩, Lib.frozen_of_heap h 0, Lib.frozen_of_heap h 1, Lib.frozen_of_heap h 2, Lib.frozen_of_heap h 3⟩
end Go.Proofs.YtnjlganofjkpfaaGreat

/-
  block.read for counts and for slots; block.Bits and block.Index.
-/
namespace Go.Proofs.YtnjlganofjkpfaaGreat
open Go.RowKit
set_option linter.unusedVariables false
set_option linter.unusedSimpArgs false

/-- the first of three errors -/
def errsE (e0 e1 e2 : Int) : Int := if e0 ≠ 0 then e0 else if e1 ≠ 0 then e1 else e2

/-- image's Read, in any world that is behind w -/
def RdOk (w : World) (pv : Value) (no e0 : Int) (b0 : List UInt8) : Prop := ∀ W, Below w.heap.size w W → Calls Tryz.prog 88 #[pv, .int .i64 no] W fun e w' => ∃ A m c, e = .returned (.tuple #[.slice A m c, .int .i64 e0]) ∧ Bytes8 w' A m c b0 ∧ Below W.heap.size W w'
/-- seal's Open of what was read -/
def OpOk (kind no e1 : Int) (b0 b1 : List UInt8) : Prop := ∀ W A m c, Bytes8 W A m c b0 → Calls Tryz.prog 89 #[.slice A m c, .int .i64 kind, .int .i64 no] W fun e w' => ∃ A' m' c', e = .returned (.tuple #[.slice A' m' c', .int .i64 e1]) ∧ Bytes8 w' A' m' c' b1 ∧ Below W.heap.size W w'
theorem opOk (kind no : Int) (b : List UInt8) : OpOk kind no (openE b kind no) b (openB b kind no) := fun W A m c h => Open_any A m c b kind no W h
theorem rdOk_out {w : World} {B p g n : Nat} {L : List UInt8} {no : Int} (h : Img w B p g L) (hL : L.length = n * 256) (ho : outB n no = true) : RdOk w (.pointer (some ⟨p, 0, none⟩)) no 3 [] := fun W hW => by
  refine (Read_bad p no n W (Blocks_img W (h.later hW) hL) (outB_iff.1 ho)).mono ?_
  rintro e w' ⟨rfl, rfl⟩
  exact ⟨none, 0, 0, rfl, Bytes8.nil _, Below.refl _ _⟩
theorem rdOk_in {w : World} {B p g n : Nat} {L : List UInt8} {no : Int} (h : Img w B p g L) (hL : L.length = n * 256) (ho : outB n no = false) : RdOk w (.pointer (some ⟨p, 0, none⟩)) no 0 (blk L no.toNat) := fun W hW => by
  obtain ⟨h0, h1⟩ := outB_not.1 ho
  obtain ⟨k, rfl⟩ := Int.eq_ofNat_of_zero_le h0
  refine (Read_img k W (h.later hW) hL (by omega)).mono ?_
  rintro e w' ⟨A, rfl, hB, hb⟩
  exact ⟨A, 256, 256, rfl, hB, hb⟩
end Go.Proofs.YtnjlganofjkpfaaGreat

/-
  block.read for a superblock; block.Super.
-/
namespace Go.Proofs.YtnjlganofjkpfaaGreat
open Go.RowKit
set_option linter.unusedVariables false
set_option linter.unusedSimpArgs false

theorem ErrAt.keep {w w' : World} {v : Value} {no x : Int} (h : ErrAt w v no x) (hk : Keeps w w') : ErrAt w' v no x := by
  rcases h with h | ⟨h1, p, h2, h3⟩
  · exact .inl h
  · exact .inr ⟨h1, p, h2, h3.same hk⟩
end Go.Proofs.YtnjlganofjkpfaaGreat

/-
  block.read for a node; block.Node.
-/
namespace Go.Proofs.YtnjlganofjkpfaaGreat
open Go.RowKit
set_option linter.unusedVariables false
set_option linter.unusedSimpArgs false

theorem NodIn.newer {w w' : World} {nd : Nod} {A : Option Addr} {n c : Nat} {A2 : Option Addr} {n2 c2 : Nat} {B : Nat} (h : NodIn w nd A n c A2 n2 c2) (h1 : Newer B A) (h2 : Newer B A2) (hk : ∀ k, B ≤ k → w'.heap[k]? = w.heap[k]?) : NodIn w' nd A n c A2 n2 c2 :=
  ⟨h.keys.newer h1 hk, ⟨h.vals.len, h.vals.cap, h.vals.most, h.vals.row.newer h2 hk⟩, h.tb, h.kb, h.vb⟩
theorem four_keep (w : World) (g : Nat) (a b c d : Value) {B : Nat} (hg : g < B) (k : Nat) (hk : B ≤ k) : ((((w.setCell ⟨g, 0, none⟩ a).setCell ⟨g, 1, none⟩ b).setCell ⟨g, 2, none⟩ c).setCell ⟨g, 3, none⟩ d).heap[k]? = w.heap[k]? := by
  rw [heap_setCell_other _ _ k _ (by show k ≠ g; omega), heap_setCell_other _ _ k _ (by show k ≠ g; omega), heap_setCell_other _ _ k _ (by show k ≠ g; omega), heap_setCell_other _ _ k _ (by show k ≠ g; omega)]
theorem NodAt.keeps {w : World} {g : Nat} {tree : Int} {leaf : Bool} {s1 s2 : Value} (h : NodAt w g tree leaf s1 s2) (a b c d : Value) : Keeps w ((((w.setCell ⟨g, 0, none⟩ a).setCell ⟨g, 1, none⟩ b).setCell ⟨g, 2, none⟩ c).setCell ⟨g, 3, none⟩ d) := fun p x e => by
  have hg : p ≠ g := fun hg => by
    subst hg
    rw [show w.heap[p]? = _ from h] at e
    injection e with e
    injection e with _ e2 _
    exact absurd e2 (by decide)
  rw [heap_setCell_other _ _ p _ hg, heap_setCell_other _ _ p _ hg, heap_setCell_other _ _ p _ hg, heap_setCell_other _ _ p _ hg]
  exact e

/-- while a node is read: the result's variable, what is read, all below as it was -/
structure RdNd (w W : World) (tree : Int) (leaf : Bool) (s1 s2 : Value) : Prop where
  res : NodAt W w.heap.size 0 false (.slice none 0 0) (.slice none 0 0)
  out : NodAt W (w.heap.size + 1) tree leaf s1 s2
  bel : Below w.heap.size w W
section
variable {w W W' : World} {tree : Int} {leaf : Bool} {s1 s2 : Value}
theorem RdNd.later (h : RdNd w W tree leaf s1 s2) (hb : Below W.heap.size W W') : RdNd w W' tree leaf s1 s2 := ⟨h.res.later hb, h.out.later hb, h.bel.trans (hb.mono h.bel.size)⟩
theorem RdNd.facts (h : RdNd w W tree leaf s1 s2) : NodC4 W w.heap.size 0 false (.slice none 0 0) (.slice none 0 0) ∧ NodC4 W (w.heap.size + 1) tree leaf s1 s2 := ⟨h.res.cs, h.out.cs⟩
theorem RdNd.low (h : RdNd w W tree leaf s1 s2) : w.heap.size + 2 ≤ W.heap.size := by have := block_lt h.out; omega
theorem RdNd.start (w : World) : RdNd w ((w.alloc (.cells #[.int .i64 0, .bool false, .slice none 0 0, .slice none 0 0] 70)).alloc (.cells #[.int .i64 0, .bool false, .slice none 0 0, .slice none 0 0] 70)) 0 false (.slice none 0 0) (.slice none 0 0) := by
  obtain ⟨h1, h2, h3⟩ := two_new w (.cells #[.int .i64 0, .bool false, .slice none 0 0, .slice none 0 0] 70) (.cells #[.int .i64 0, .bool false, .slice none 0 0, .slice none 0 0] 70)
  exact ⟨h1, h2, h3⟩
theorem RdNd.store (h : RdNd w W tree leaf s1 s2) (tree' : Int) (leaf' : Bool) (s1' s2' : Value) : RdNd w ((((W.setCell ⟨w.heap.size + 1, 0, none⟩ (.int .i64 tree')).setCell ⟨w.heap.size + 1, 1, none⟩ (.bool leaf')).setCell ⟨w.heap.size + 1, 2, none⟩ s1').setCell ⟨w.heap.size + 1, 3, none⟩ s2') tree' leaf' s1' s2' :=
  ⟨four_other h.res (by omega) _ _ _ _, h.out.store _ _ _ _, below_store7 h.bel (by omega) _ _ _ _⟩
end

set_option maxRecDepth 100000 in
set_option maxHeartbeats 3200000 in
theorem readNode_any (pv : Value) (no : Int) (w : World) (q : Nat) {e0 e1 e2 : Int} {b0 b1 : List UInt8} {nd2 : Nod} (HR : RdOk w pv no e0 b0) (HO : OpOk 2 no e1 b0 b1)
    (D : ∀ W A m c, Below w.heap.size w W → Bytes8 W A m c b1 → Calls Tryz.prog 76 #[.slice A m c, .pointer (some ⟨q, 0, none⟩)] W fun e w' => ∃ A5 n5 c5 A6 n6 c6, e = .returned (.tuple #[nodV nd2 A5 n5 c5 A6 n6 c6, .int .i64 e2]) ∧ NodIn w' nd2 A5 n5 c5 A6 n6 c6 ∧ Below W.heap.size W w' ∧ Newer W.heap.size A5 ∧ Newer W.heap.size A6) :
    Calls Tryz.prog 75 #[pv, .int .i64 no, .int .i64 2, .func (.func 76) #[] #[.pointer (some ⟨q, 0, none⟩)]] w fun e w' => ∃ v A5 n5 c5 A6 n6 c6, e = .returned (.tuple #[nodV (if e0 ≠ 0 ∨ e1 ≠ 0 then Nod.zero else nd2) A5 n5 c5 A6 n6 c6, v]) ∧ NodIn w' (if e0 ≠ 0 ∨ e1 ≠ 0 then Nod.zero else nd2) A5 n5 c5 A6 n6 c6 ∧ ErrAt w' v no (errsE e0 e1 e2) ∧ Below w.heap.size w w' ∧ Newer w.heap.size A5 ∧ Newer w.heap.size A6 := by
  have AT : Hid (∀ W x tree leaf s1 s2, RdNd w W tree leaf s1 s2 → Calls Tryz.prog 71 #[.int .i64 no, .iface 49 (.int .i64 x)] W fun e w' => ∃ v, e = .returned v ∧ ErrAt w' v no x ∧ RdNd w w' tree leaf s1 s2 ∧ Below W.heap.size W w') := fun W x tree leaf s1 s2 h => (bat_any no x W).mono fun e w' ⟨v, h1, h2, h3⟩ => ⟨v, h1, h2, h.later h3, h3⟩
  have R : Hid (∀ W tree leaf s1 s2, RdNd w W tree leaf s1 s2 → Calls Tryz.prog 88 #[pv, .int .i64 no] W fun e w' => ∃ A m c, e = .returned (.tuple #[.slice A m c, .int .i64 e0]) ∧ Bytes8 w' A m c b0 ∧ RdNd w w' tree leaf s1 s2) := fun W tree leaf s1 s2 h => (HR W h.bel).mono fun e w' ⟨A, m, c, h1, h2, h3⟩ => ⟨A, m, c, h1, h2, h.later h3⟩
  have O : Hid (∀ W A m c tree leaf s1 s2, RdNd w W tree leaf s1 s2 → Bytes8 W A m c b0 → Calls Tryz.prog 89 #[.slice A m c, .int .i64 2, .int .i64 no] W fun e w' => ∃ A' m' c', e = .returned (.tuple #[.slice A' m' c', .int .i64 e1]) ∧ Bytes8 w' A' m' c' b1 ∧ RdNd w w' tree leaf s1 s2) := fun W A m c tree leaf s1 s2 h hB => (HO W A m c hB).mono fun e w' ⟨A, m, c, h1, h2, h3⟩ => ⟨A, m, c, h1, h2, h.later h3⟩
  obtain ⟨tree, leaf, ks, vs⟩ := nd2
  have D2 : Hid (∀ W A m c tr lf s1 s2, RdNd w W tr lf s1 s2 → Bytes8 W A m c b1 → Calls Tryz.prog 76 #[.slice A m c, .pointer (some ⟨q, 0, none⟩)] W fun e w' => ∃ A5 n5 c5 A6 n6 c6, e = .returned (.tuple #[.agg #[.int .i64 tree, .bool leaf, .slice A5 n5 c5, .slice A6 n6 c6], .int .i64 e2]) ∧ NodIn w' ⟨tree, leaf, ks, vs⟩ A5 n5 c5 A6 n6 c6 ∧ RdNd w w' tr lf s1 s2 ∧ Newer (w.heap.size + 2) A5 ∧ Newer (w.heap.size + 2) A6) := fun W A m c tr lf s1 s2 h hB => (D W A m c h.bel hB).mono fun e w' ⟨A5, n5, c5, A6, n6, c6, h1, h2, h3, h4, h5⟩ => ⟨A5, n5, c5, A6, n6, c6, h1, h2, h.later h3, h4.mono h.low, h5.mono h.low⟩
  have hN0 := RdNd.start w
  clear HR HO D
  by_cases h0 : e0 = 0
  · subst h0
    by_cases h1 : e1 = 0
    · subst h1
      rw [show errsE 0 0 e2 = e2 by simp [errsE], if_neg (by simp)]
      go_enter Tryz.func75, Tryz.ntmps75
      go_wp2_with (first
        | (go_at_call 88; (with_reducible refine (R.out _ _ _ _ _ hN0).mono ?_); rintro e w1 ⟨A1, m1, c1, rfl, hB1, hN1⟩; have HB1 := Lib.hid hB1; clear hB1)
        | (go_at_call 89; (with_reducible refine (O.out _ _ _ _ _ _ _ _ hN1 HB1.out).mono ?_); rintro e w2 ⟨A2, m2, c2, rfl, hB2, hN2⟩; have HB2 := Lib.hid hB2; clear hB2)
        | (go_at_call 76; (with_reducible refine (D2.out _ _ _ _ _ _ _ _ hN2 HB2.out).mono ?_); rintro e w3 ⟨A5, n5, c5, A6, n6, c6, rfl, hI3, hN3, hn5, hn6⟩; have HI3 := Lib.hid hI3; have HN5 := Lib.hid hn5; have HN6 := Lib.hid hn6; clear hI3 hn5 hn6; obtain ⟨⟨⟨z0, z1, z2, z3⟩, y0, y1, y2, y3⟩, ⟨⟨o0, o1, o2, o3⟩, p0, p1, p2, p3⟩⟩ := hN3.facts))
      have hN4 := hN3.store tree leaf (.slice A5 n5 c5) (.slice A6 n6 c6)
      have HI4 := Lib.hid (HI3.out.newer HN5.out HN6.out (four_keep w3 (w.heap.size + 1) (.int .i64 tree) (.bool leaf) (.slice A5 n5 c5) (.slice A6 n6 c6) (by omega)))
      clear z0 z1 z2 z3 y0 y1 y2 y3 o0 o1 o2 o3 p0 p1 p2 p3
      clear hN0 hN1 hN2 hN3 R O D2 HI3
      generalize ((((w3.setCell ⟨w.heap.size + 1, 0, none⟩ (.int .i64 tree)).setCell ⟨w.heap.size + 1, 1, none⟩ (.bool leaf)).setCell ⟨w.heap.size + 1, 2, none⟩ (.slice A5 n5 c5)).setCell ⟨w.heap.size + 1, 3, none⟩ (.slice A6 n6 c6)) = w4 at *
      obtain ⟨⟨⟨z0, z1, z2, z3⟩, y0, y1, y2, y3⟩, ⟨⟨o0, o1, o2, o3⟩, p0, p1, p2, p3⟩⟩ := hN4.facts
      have hN4d := hN4.later ((Below.refl _ _).drew)
      have HI4d : Hid (NodIn w4.drew ⟨tree, leaf, ks, vs⟩ A5 n5 c5 A6 n6 c6) := HI4.out.below ((Below.refl _ _).drew)
      go_region_with (go_at_call 71; (with_reducible refine (AT.out _ _ _ _ _ _ (by assumption)).mono ?_); rintro e w5 ⟨v, rfl, hv, hN5, hb5⟩; have HI5 : Hid (NodIn w5 ⟨tree, leaf, ks, vs⟩ A5 n5 c5 A6 n6 c6) := (by first | exact HI4d.out.below hb5 | exact HI4.out.below hb5); clear z0 z1 z2 z3 y0 y1 y2 y3 o0 o1 o2 o3 p0 p1 p2 p3; obtain ⟨⟨⟨z0, z1, z2, z3⟩, y0, y1, y2, y3⟩, ⟨⟨o0, o1, o2, o3⟩, p0, p1, p2, p3⟩⟩ := hN5.facts; have HV := Lib.hid hv; clear hv)
      all_goals go_wp2
      all_goals refine bodyPost_ret (results_nod Tryz.results75 _ _ w.heap.size tree leaf (.slice A5 n5 c5) (.slice A6 n6 c6) rfl rfl rfl (hN5.res.store _ _ _ _)) rfl ?_
      all_goals exact ⟨v, A5, n5, c5, A6, n6, c6, rfl, HI5.out.newer HN5.out HN6.out (four_keep w5 w.heap.size _ _ _ _ (by omega)), HV.out.keep (hN5.res.keeps _ _ _ _), below_store7 hN5.bel (Nat.le_refl _) _ _ _ _, HN5.out.mono (by omega), HN6.out.mono (by omega)⟩
    · rw [show errsE 0 e1 e2 = e1 by simp [errsE, h1], if_pos (.inr h1)]
      have hne : (e1 == 0) = false := by simpa using h1
      go_enter Tryz.func75, Tryz.ntmps75
      go_wp2_with (first
        | (go_at_call 88; (with_reducible refine (R.out _ _ _ _ _ hN0).mono ?_); rintro e w1 ⟨A1, m1, c1, rfl, hB1, hN1⟩; have HB1 := Lib.hid hB1; clear hB1)
        | (go_at_call 89; (with_reducible refine (O.out _ _ _ _ _ _ _ _ hN1 HB1.out).mono ?_); rintro e w4 ⟨A2, m2, c2, rfl, hB2, hN4⟩; clear hB2))
      obtain ⟨⟨⟨z0, z1, z2, z3⟩, y0, y1, y2, y3⟩, ⟨⟨o0, o1, o2, o3⟩, p0, p1, p2, p3⟩⟩ := hN4.facts
      have hN4d := hN4.later ((Below.refl _ _).drew)
      go_region_with (go_at_call 71; (with_reducible refine (AT.out _ _ _ _ _ _ (by assumption)).mono ?_); rintro e w5 ⟨v, rfl, hv, hN5, hb5⟩; clear z0 z1 z2 z3 y0 y1 y2 y3 o0 o1 o2 o3 p0 p1 p2 p3; obtain ⟨⟨⟨z0, z1, z2, z3⟩, y0, y1, y2, y3⟩, ⟨⟨o0, o1, o2, o3⟩, p0, p1, p2, p3⟩⟩ := hN5.facts; have HV := Lib.hid hv; clear hv)
      all_goals go_wp2
      all_goals refine bodyPost_ret (results_nod Tryz.results75 _ _ w.heap.size 0 false (.slice none 0 0) (.slice none 0 0) rfl rfl rfl (hN5.res.store _ _ _ _)) rfl ?_
      all_goals exact ⟨v, none, 0, 0, none, 0, 0, rfl, NodIn.zero _, HV.out.keep (hN5.res.keeps _ _ _ _), below_store7 hN5.bel (Nat.le_refl _) _ _ _ _, Newer.nil _, Newer.nil _⟩
  · rw [show errsE e0 e1 e2 = e0 by simp [errsE, h0], if_pos (.inl h0)]
    have hne : (e0 == 0) = false := by simpa using h0
    go_enter Tryz.func75, Tryz.ntmps75
    go_wp2_with (first
      | (go_at_call 88; (with_reducible refine (R.out _ _ _ _ _ hN0).mono ?_); rintro e w4 ⟨A1, m1, c1, rfl, hB1, hN4⟩; clear hB1))
    obtain ⟨⟨⟨z0, z1, z2, z3⟩, y0, y1, y2, y3⟩, ⟨⟨o0, o1, o2, o3⟩, p0, p1, p2, p3⟩⟩ := hN4.facts
    have hN4d := hN4.later ((Below.refl _ _).drew)
    go_region_with (go_at_call 71; (with_reducible refine (AT.out _ _ _ _ _ _ (by assumption)).mono ?_); rintro e w5 ⟨v, rfl, hv, hN5, hb5⟩; clear z0 z1 z2 z3 y0 y1 y2 y3 o0 o1 o2 o3 p0 p1 p2 p3; obtain ⟨⟨⟨z0, z1, z2, z3⟩, y0, y1, y2, y3⟩, ⟨⟨o0, o1, o2, o3⟩, p0, p1, p2, p3⟩⟩ := hN5.facts; have HV := Lib.hid hv; clear hv)
    all_goals go_wp2
    all_goals refine bodyPost_ret (results_nod Tryz.results75 _ _ w.heap.size 0 false (.slice none 0 0) (.slice none 0 0) rfl rfl rfl (hN5.res.store _ _ _ _)) rfl ?_
    all_goals exact ⟨v, none, 0, 0, none, 0, 0, rfl, NodIn.zero _, HV.out.keep (hN5.res.keeps _ _ _ _), below_store7 hN5.bel (Nat.le_refl _) _ _ _ _, Newer.nil _, Newer.nil _⟩

/-- what the closure tells of a payload -/
def nodD11 (b : List UInt8) (tree : Int) : Int := if readNE b ≠ 0 then readNE b else if tree ≠ 0 ∧ (readN b).tree ≠ tree then 6 else 0

structure ClN (w W : World) (q : Nat) (pv : Value) : Prop where
  res : NodAt W w.heap.size 0 false (.slice none 0 0) (.slice none 0 0)
  cap : W.cell? ⟨q, 0, none⟩ = some pv
  bel : Below w.heap.size w W
theorem ClN.later {w W W' : World} {q : Nat} {pv : Value} (h : ClN w W q pv) (hb : Below W.heap.size W W') : ClN w W' q pv := ⟨h.res.later hb, (hb.cell (p := ⟨q, 0, none⟩) (cell_lt h.cap)).trans h.cap, h.bel.trans (hb.mono h.bel.size)⟩
theorem ClN.start {w : World} {q : Nat} {pv : Value} (h : w.cell? ⟨q, 0, none⟩ = some pv) : ClN w (w.alloc (.cells #[.int .i64 0, .bool false, .slice none 0 0, .slice none 0 0] 70)) q pv := by
  have hb : Below w.heap.size w (w.alloc (.cells #[.int .i64 0, .bool false, .slice none 0 0, .slice none 0 0] 70)) := (Below.refl _ _).alloc (Nat.le_refl _) _
  exact ⟨heap_alloc_new w _, (hb.cell (p := ⟨q, 0, none⟩) (cell_lt h)).trans h, hb⟩

set_option maxRecDepth 100000 in
set_option maxHeartbeats 3200000 in
theorem nodeC_any {A : Option Addr} {m c : Nat} {b : List UInt8} (w : World) (q : Nat) (tr : Int) (hB : Bytes8 w A m c b) (hq : w.cell? ⟨q, 0, none⟩ = some (.int .i64 tr)) :
    Calls Tryz.prog 76 #[.slice A m c, .pointer (some ⟨q, 0, none⟩)] w fun e w' => ∃ A5 n5 c5 A6 n6 c6, e = .returned (.tuple #[nodV (if nodD11 b tr = 0 then readN b else Nod.zero) A5 n5 c5 A6 n6 c6, .int .i64 (nodD11 b tr)]) ∧ NodIn w' (if nodD11 b tr = 0 then readN b else Nod.zero) A5 n5 c5 A6 n6 c6 ∧ Below w.heap.size w w' ∧ Newer w.heap.size A5 ∧ Newer w.heap.size A6 := by
  have SR : Hid (∀ W, ClN w W q (.int .i64 tr) → Calls Tryz.prog 77 #[.slice A m c] W fun e w' => ∃ A5 n5 c5 A6 n6 c6, e = .returned (.tuple #[nodV (readN b) A5 n5 c5 A6 n6 c6, .int .i64 (readNE b)]) ∧ NodIn w' (readN b) A5 n5 c5 A6 n6 c6 ∧ ClN w w' q (.int .i64 tr) ∧ Newer (w.heap.size + 1) A5 ∧ Newer (w.heap.size + 1) A6) := fun W h => (Read_any7F W A m c b (hB.below h.bel)).mono fun e w' ⟨A5, n5, c5, A6, n6, c6, h1, h2, h3, h4, h5⟩ => ⟨A5, n5, c5, A6, n6, c6, h1, h2, h.later h3, h4.mono (block_lt h.res), h5.mono (block_lt h.res)⟩
  have hN0 := ClN.start (w := w) hq
  have hf : readNE b ≠ 0 → readN b = Nod.zero := fun h => by rw [readN, if_neg h]
  have HF := Lib.hid hf
  obtain ⟨X, hX⟩ : ∃ X, nodD11 b tr = X := ⟨_, rfl⟩
  rw [hX]
  unfold nodD11 at hX
  obtain ⟨R, hR⟩ : ∃ R : Nod, (if X = 0 then readN b else Nod.zero) = R := ⟨_, rfl⟩
  rw [hR]
  have HX := Lib.hid hX
  have HR := Lib.hid hR
  clear hB hf hX hq hR
  generalize readN b = nd at *
  generalize readNE b = x at *
  obtain ⟨tree, leaf, ks, vs⟩ := nd
  simp only [nodV] at SR
  have key : (x ≠ 0 ∧ (x == 0) = false ∧ X = x ∧ R = ⟨tree, leaf, ks, vs⟩) ∨ (x = 0 ∧ tr = 0 ∧ X = 0 ∧ R = ⟨tree, leaf, ks, vs⟩) ∨ (x = 0 ∧ (tr != 0) = true ∧ (tr != tree) = false ∧ X = 0 ∧ R = ⟨tree, leaf, ks, vs⟩) ∨ (x = 0 ∧ (tr != 0) = true ∧ (tr != tree) = true ∧ X = 6 ∧ R = Nod.zero) := by
    have h1 := HX.out
    have h2 := HR.out
    by_cases hx : x = 0
    · rw [if_neg (by simpa using hx)] at h1
      by_cases h3 : tr = 0
      · rw [if_neg (fun h => h.1 h3)] at h1
        rw [← h1, if_pos rfl] at h2
        exact .inr (.inl ⟨hx, h3, h1.symm, h2.symm⟩)
      · by_cases h4 : tree = tr
        · rw [if_neg (fun h => h.2 h4)] at h1
          rw [← h1, if_pos rfl] at h2
          exact .inr (.inr (.inl ⟨hx, by simpa using h3, by simp [h4], h1.symm, h2.symm⟩))
        · rw [if_pos ⟨h3, h4⟩] at h1
          rw [← h1, if_neg (by decide)] at h2
          exact .inr (.inr (.inr ⟨hx, by simpa using h3, by simpa using fun h => h4 h.symm, h1.symm, h2.symm⟩))
    · rw [if_pos hx] at h1
      rw [← h1, if_neg hx] at h2
      exact .inl ⟨hx, by simpa using hx, h1.symm, by rw [← h2, HF.out hx]⟩
  clear HX HR HF
  rcases key with ⟨hx, hxb, g1, g2⟩ | ⟨rfl, rfl, g1, g2⟩ | ⟨rfl, gt, gu, g1, g2⟩ | ⟨rfl, gt, gu, g1, g2⟩
  all_goals have HE := Lib.hid (And.intro g1 g2)
  all_goals clear g1 g2
  all_goals go_enter Tryz.func76, Tryz.ntmps76
  all_goals go_wp2_with (go_at_call 77; (with_reducible refine (SR.out _ hN0).mono ?_); rintro e w1 ⟨A5, n5, c5, A6, n6, c6, rfl, hI1, hN1, hn5, hn6⟩; have HN5 := Lib.hid hn5; have HN6 := Lib.hid hn6; have hN2 := hN1.later ((Below.refl w1.heap.size w1).alloc (Nat.le_refl _) (.cells #[.int .i64 tree, .bool leaf, .slice A5 n5 c5, .slice A6 n6 c6] 70)); have HI2 := Lib.hid (hI1.below ((Below.refl w1.heap.size w1).alloc (Nat.le_refl _) (.cells #[.int .i64 tree, .bool leaf, .slice A5 n5 c5, .slice A6 n6 c6] 70))); clear hI1 hn5 hn6; obtain ⟨⟨z0, z1, z2, z3⟩, y0, y1, y2, y3⟩ := hN2.res.cs; have qc := hN2.cap)
  · refine bodyPost_ret (results_nod Tryz.results76 _ _ w.heap.size tree leaf (.slice A5 n5 c5) (.slice A6 n6 c6) rfl rfl rfl (hN2.res.store _ _ _ _)) rfl ?_
    exact ⟨A5, n5, c5, A6, n6, c6, by rw [HE.out.1, HE.out.2]; rfl, by rw [HE.out.2]; exact HI2.out.newer HN5.out HN6.out (four_keep _ w.heap.size _ _ _ _ (by omega)), below_store7 hN2.bel (Nat.le_refl _) _ _ _ _, HN5.out.mono (by omega), HN6.out.mono (by omega)⟩
  · refine bodyPost_ret (results_nod Tryz.results76 _ _ w.heap.size tree leaf (.slice A5 n5 c5) (.slice A6 n6 c6) rfl rfl rfl (hN2.res.store _ _ _ _)) rfl ?_
    exact ⟨A5, n5, c5, A6, n6, c6, by rw [HE.out.1, HE.out.2]; rfl, by rw [HE.out.2]; exact HI2.out.newer HN5.out HN6.out (four_keep _ w.heap.size _ _ _ _ (by omega)), below_store7 hN2.bel (Nat.le_refl _) _ _ _ _, HN5.out.mono (by omega), HN6.out.mono (by omega)⟩
  · refine bodyPost_ret (results_nod Tryz.results76 _ _ w.heap.size tree leaf (.slice A5 n5 c5) (.slice A6 n6 c6) rfl rfl rfl (hN2.res.store _ _ _ _)) rfl ?_
    exact ⟨A5, n5, c5, A6, n6, c6, by rw [HE.out.1, HE.out.2]; rfl, by rw [HE.out.2]; exact HI2.out.newer HN5.out HN6.out (four_keep _ w.heap.size _ _ _ _ (by omega)), below_store7 hN2.bel (Nat.le_refl _) _ _ _ _, HN5.out.mono (by omega), HN6.out.mono (by omega)⟩
  · refine bodyPost_ret (results_nod Tryz.results76 _ _ w.heap.size 0 false (.slice none 0 0) (.slice none 0 0) rfl rfl rfl (hN2.res.store _ _ _ _)) rfl ?_
    exact ⟨none, 0, 0, none, 0, 0, by rw [HE.out.1, HE.out.2]; rfl, by rw [HE.out.2]; exact NodIn.zero _, below_store7 hN2.bel (Nat.le_refl _) _ _ _ _, Newer.nil _, Newer.nil _⟩

/-- block.Node: the captured tree, the result's variable -/
structure OuN (w W : World) (tr : Int) : Prop where
  cap : W.cell? ⟨w.heap.size, 0, none⟩ = some (.int .i64 tr)
  res : NodAt W (w.heap.size + 1) 0 false (.slice none 0 0) (.slice none 0 0)
  bel : Below w.heap.size w W
theorem OuN.later {w W W' : World} {tr : Int} (h : OuN w W tr) (hb : Below W.heap.size W W') : OuN w W' tr := ⟨(hb.cell (p := ⟨w.heap.size, 0, none⟩) (cell_lt h.cap)).trans h.cap, h.res.later hb, h.bel.trans (hb.mono h.bel.size)⟩
theorem OuN.start (w : World) (tr : Int) : OuN w ((w.alloc (.cells #[.int .i64 tr] 3)).alloc (.cells #[.int .i64 0, .bool false, .slice none 0 0, .slice none 0 0] 70)) tr := by
  obtain ⟨h1, h2, h3⟩ := two_new w (.cells #[.int .i64 tr] 3) (.cells #[.int .i64 0, .bool false, .slice none 0 0, .slice none 0 0] 70)
  exact ⟨by rw [cell_of_row _ w.heap.size 0 _ _ _ h1]; rfl, h2, h3⟩

set_option maxRecDepth 100000 in
set_option maxHeartbeats 1600000 in
theorem blockNode_ofF (pv : Value) (no tr : Int) (w : World) {x : Int} {nd : Nod} (H : ∀ W q, Below w.heap.size w W → W.cell? ⟨q, 0, none⟩ = some (.int .i64 tr) → Calls Tryz.prog 75 #[pv, .int .i64 no, .int .i64 2, .func (.func 76) #[] #[.pointer (some ⟨q, 0, none⟩)]] W fun e w' => ∃ v A5 n5 c5 A6 n6 c6, e = .returned (.tuple #[nodV nd A5 n5 c5 A6 n6 c6, v]) ∧ NodIn w' nd A5 n5 c5 A6 n6 c6 ∧ ErrAt w' v no x ∧ Below W.heap.size W w' ∧ Newer W.heap.size A5 ∧ Newer W.heap.size A6) :
    Calls Tryz.prog 60 #[pv, .int .i64 no, .int .i64 tr] w fun e w' => ∃ v A5 n5 c5 A6 n6 c6, e = .returned (.tuple #[nodV nd A5 n5 c5 A6 n6 c6, v]) ∧ NodIn w' nd A5 n5 c5 A6 n6 c6 ∧ ErrAt w' v no x ∧ Below w.heap.size w w' ∧ Newer w.heap.size A5 ∧ Newer w.heap.size A6 := by
  have hmf : ∀ (fn : Fn) (first cap : Array Value) (w : World), (Instr.makeFunc fn first cap).run Tryz.prog w = .ok (.func fn first cap) w := fun _ _ _ _ => rfl
  obtain ⟨tree, leaf, ks, vs⟩ := nd
  have R : Hid (∀ W, OuN w W tr → Calls Tryz.prog 75 #[pv, .int .i64 no, .int .i64 2, .func (.func 76) #[] #[.pointer (some ⟨w.heap.size, 0, none⟩)]] W fun e w' => ∃ v A5 n5 c5 A6 n6 c6, e = .returned (.tuple #[.agg #[.int .i64 tree, .bool leaf, .slice A5 n5 c5, .slice A6 n6 c6], v]) ∧ NodIn w' ⟨tree, leaf, ks, vs⟩ A5 n5 c5 A6 n6 c6 ∧ ErrAt w' v no x ∧ OuN w w' tr ∧ Newer (w.heap.size + 2) A5 ∧ Newer (w.heap.size + 2) A6) := fun W h => (H W _ h.bel h.cap).mono fun e w' ⟨v, A5, n5, c5, A6, n6, c6, h1, h2, h3, h4, h5, h6⟩ => ⟨v, A5, n5, c5, A6, n6, c6, h1, h2, h3, h.later h4, h5.mono (block_lt h.res), h6.mono (block_lt h.res)⟩
  have hN0 := OuN.start w tr
  clear H
  go_enter Tryz.func60, Tryz.ntmps60
  go_wp2_with (go_at_call 75; (with_reducible refine (R.out _ hN0).mono ?_); rintro e w1 ⟨v, A5, n5, c5, A6, n6, c6, rfl, hI1, hv, hN1, hn5, hn6⟩; have HV := Lib.hid hv; have HI1 := Lib.hid hI1; have HN5 := Lib.hid hn5; have HN6 := Lib.hid hn6; clear hv hI1 hn5 hn6; obtain ⟨⟨z0, z1, z2, z3⟩, y0, y1, y2, y3⟩ := hN1.res.cs)
  refine bodyPost_ret (results_nod Tryz.results60 _ _ (w.heap.size + 1) tree leaf (.slice A5 n5 c5) (.slice A6 n6 c6) rfl rfl rfl (hN1.res.store _ _ _ _)) rfl ?_
  exact ⟨v, A5, n5, c5, A6, n6, c6, rfl, HI1.out.newer HN5.out HN6.out (four_keep w1 (w.heap.size + 1) _ _ _ _ (by omega)), HV.out.keep (hN1.res.keeps _ _ _ _), below_store7 hN1.bel (by omega) _ _ _ _, HN5.out.mono (by omega), HN6.out.mono (by omega)⟩

/-- of an image -/
theorem blockNode_anyF {w : World} {B p g n : Nat} {L : List UInt8} (no tr : Int) (h : Img w B p g L) (hL : L.length = n * 256) :
    Calls Tryz.prog 60 #[.pointer (some ⟨p, 0, none⟩), .int .i64 no, .int .i64 tr] w fun e w' => ∃ v A5 n5 c5 A6 n6 c6, e = .returned (.tuple #[nodV (nodN11 L n no tr) A5 n5 c5 A6 n6 c6, v]) ∧ NodIn w' (nodN11 L n no tr) A5 n5 c5 A6 n6 c6 ∧ ErrAt w' v no (nodE11 L n no tr) ∧ Below w.heap.size w w' ∧ Newer w.heap.size A5 ∧ Newer w.heap.size A6 := by
  refine blockNode_ofF _ no tr w fun W q hW hq => ?_
  have hI := h.later hW
  have CL := fun b1 W' A m c (hb : Below W.heap.size W W') (hB : Bytes8 W' A m c b1) => nodeC_any W' q tr hB ((hb.cell (p := ⟨q, 0, none⟩) (cell_lt hq)).trans hq)
  cases ho : outB n no with
  | true =>
    have := readNode_any _ no W q (rdOk_out hI hL ho) (opOk 2 no []) (CL _)
    have e1 : inE11 L n no 2 = 3 := by rw [inE11, ho]; rfl
    rw [show errsE 3 _ _ = 3 from rfl, if_pos (.inl (by decide))] at this
    have e3 : nodE11 L n no tr = 3 := by rw [nodE11, e1, if_pos (by decide)]
    rw [nodN11, e3, if_neg (by decide)]
    exact this
  | false =>
    have := readNode_any _ no W q (rdOk_in hI hL ho) (opOk 2 no _) (CL _)
    have e1 : inE11 L n no 2 = openE (blk L no.toNat) 2 no := by rw [inE11, ho]; rfl
    have e2 : inB11 L n no 2 = openB (blk L no.toNat) 2 no := by rw [inB11, ho]; rfl
    by_cases hz : openE (blk L no.toNat) 2 no = 0
    · rw [hz, show errsE 0 0 _ = _ from rfl, if_neg (by simp), ← e2] at this
      have e3 : nodE11 L n no tr = nodD11 (inB11 L n no 2) tr := by
        unfold nodE11 nodD11
        rw [if_neg (by rw [e1]; exact fun h => h hz)]
      rw [nodN11, e3]
      exact this
    · rw [show errsE 0 (openE (blk L no.toNat) 2 no) _ = openE (blk L no.toNat) 2 no from by rw [errsE, if_neg (by simp), if_pos hz], if_pos (.inr hz)] at this
      have e3 : nodE11 L n no tr = openE (blk L no.toNat) 2 no := by rw [nodE11, e1, if_pos hz]
      rw [nodN11, e3, if_neg hz]
      exact this
end Go.Proofs.YtnjlganofjkpfaaGreat
