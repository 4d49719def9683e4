/-
  Joined: WlkA.
-/
import Derived.Test.YtnjlganofjkpfaaGreatChecked
import Derived.Test.YtnjlganofjkpfaaGreatJBldB03
import Derived.Test.YtnjlganofjkpfaaGreatJBldB31
import Derived.Test.YtnjlganofjkpfaaGreatJBldB29
import Derived.Test.YtnjlganofjkpfaaGreatJBldB34
import Derived.Test.YtnjlganofjkpfaaGreatJBldB20
/-
  Layer 14: the scan's state in memory: its block, the four slices that it owns, what may move.
-/
namespace Go.Proofs.YtnjlganofjkpfaaGreat
open Go.RowKit
set_option linter.unusedVariables false
set_option linter.unusedSimpArgs false

/-- the slices that a scan owns: entries, blocks, faults, path -/
structure Rows14 where
  E : Value
  B : Value
  F : Value
  P : Value
/-- the blocks that a scan may write -/
def Rows14.mine (s : Rows14) (p k : Nat) : Prop := k = p ∨ s.E.ownBlock = some k ∨ s.B.ownBlock = some k ∨ s.F.ownBlock = some k ∨ s.P.ownBlock = some k

/-- all but these as it was; and those that it may write now it could write before, or they are new -/
structure Mov14 (p : Nat) (s : Rows14) (w : World) (s' : Rows14) (w' : World) : Prop where
  frm : Frm (s.mine p) w w'
  old : ∀ k, k < w.heap.size → s'.mine p k → s.mine p k
theorem Mov14.of_below {p : Nat} (s : Rows14) {w w' : World} (h : Below w.heap.size w w') : Mov14 p s w s w' := ⟨Frm.of_below h, fun _ _ h => h⟩
theorem Mov14.refl (p : Nat) (s : Rows14) (w : World) : Mov14 p s w s w := .of_below s (Below.refl _ _)
theorem Mov14.trans {p : Nat} {s s1 s2 : Rows14} {w w1 w2 : World} (h : Mov14 p s w s1 w1) (k : Mov14 p s1 w1 s2 w2) : Mov14 p s w s2 w2 := by
  refine ⟨⟨k.frm.os.trans h.frm.os, k.frm.tape.trans h.frm.tape, k.frm.output.trans h.frm.output, Nat.le_trans h.frm.size k.frm.size, fun q hq hg => ?_⟩, fun q hq hm => h.old q hq (k.old q (Nat.lt_of_lt_of_le hq h.frm.size) hm)⟩
  exact (k.frm.block q (Nat.lt_of_lt_of_le hq h.frm.size) (fun hm => hg (h.old q hq hm))).trans (h.frm.block q hq hg)
theorem Mov14.block {p : Nat} {s s' : Rows14} {w w' : World} (h : Mov14 p s w s' w') {q : Nat} (hq : q < w.heap.size) (hn : ¬ s.mine p q) : w'.heap[q]? = w.heap[q]? ∧ ¬ s'.mine p q := ⟨h.frm.block q hq hn, fun hm => hn (h.old q hq hm)⟩

/-- a slice that the scan does not write -/
def Far14 (s : Rows14) (p : Nat) (A : Option Addr) : Prop := ∀ ad, A = some ad → ¬ s.mine p ad.block
theorem Row.mov {p : Nat} {s s' : Rows14} {w w' : World} {A : Option Addr} {l : List Value} (h : Row w A l) (hA : Far14 s p A) (hm : Mov14 p s w s' w') : Row w' A l := fun k v e => by
  obtain ⟨ad, ea, hc⟩ := h k v e
  refine ⟨ad, ea, ?_⟩
  have hb : (ad.add k).block = ad.block := addr_add_block ad k
  exact (World.cell?_of_block (w := w) (hm.frm.block _ (cell_lt hc) (by rw [hb]; exact hA ad ea))).trans hc
/-- .. and does not later, if it stood -/
theorem Far14.mov {p : Nat} {s s' : Rows14} {w w' : World} {A : Option Addr} (hA : Far14 s p A) (hm : Mov14 p s w s' w') (hl : ∀ ad, A = some ad → ad.block < w.heap.size) : Far14 s' p A := fun ad e h => hA ad e (hm.old _ (hl ad e) h)
theorem Far14.of_newer {p : Nat} {s : Rows14} {A : Option Addr} {B : Nat} (h : Newer B A) (hs : ∀ k, s.mine p k → k < B) : Far14 s p A := fun ad e hm => by
  have := h ad e
  have := hs _ hm
  omega

theorem own_moved {w w1 : World} {base size n : Nat} {e : TypeId} {v : Value} {xs : List Value} (h : w.ownsRow base e size v n xs) (hk : ∀ k, v.ownBlock = some k → k < w.heap.size → w1.heap[k]? = w.heap[k]?) : w1.ownsRow base e size v n xs := by
  refine ⟨h.1, ?_⟩
  rcases h.2 with hn | ⟨g, cap, cur, hv, hg, hh, rest⟩
  · exact .inl hn
  · exact .inr ⟨g, cap, cur, hv, hg, (hk g (by rw [hv]; rfl) (block_lt hh)).trans hh, rest⟩
/-- rows of other types lie in other blocks -/
theorem own_types {w : World} {b1 b2 s1 s2 n1 n2 : Nat} {e1 e2 : TypeId} {v1 v2 : Value} {x1 x2 : List Value} (h1 : w.ownsRow b1 e1 s1 v1 n1 x1) (h2 : w.ownsRow b2 e2 s2 v2 n2 x2) (hne : e1 ≠ e2) : ∀ k, v1.ownBlock = some k → v2.ownBlock ≠ some k := fun k hk hk2 => by
  obtain ⟨_, c1, e⟩ := own_apartS h1 k hk
  obtain ⟨_, c2, e'⟩ := own_apartS h2 k hk2
  rw [e] at e'
  injection e' with e'
  injection e' with _ e3 _
  exact hne e3

/-- the faults that were found, each a chain of its blocks -/
def Flts14 (w : World) : List (List Node) → List (List Int × Int) → Prop
  | [], [] => True
  | f :: fs, x :: xs => (Good w f ∧ Chain x.1 x.2 f) ∧ Flts14 w fs xs
  | [], _ :: _ => False
  | _ :: _, [] => False
theorem Flts14.length {w : World} : ∀ {fs : List (List Node)} {xs : List (List Int × Int)}, Flts14 w fs xs → fs.length = xs.length
  | [], [], _ => rfl
  | _ :: _, _ :: _, h => by simp only [List.length_cons]; rw [Flts14.length h.2]
theorem Flts14.snoc {w : World} {f : List Node} {x : List Int × Int} (hf : Good w f) (hc : Chain x.1 x.2 f) : ∀ {fs : List (List Node)} {xs : List (List Int × Int)}, Flts14 w fs xs → Flts14 w (fs ++ [f]) (xs ++ [x])
  | [], [], _ => ⟨⟨hf, hc⟩, trivial⟩
  | _ :: _, _ :: _, h => ⟨h.1, Flts14.snoc hf hc h.2⟩
theorem Flts14.same {w w' : World} (hk : Keeps w w') : ∀ {fs : List (List Node)} {xs : List (List Int × Int)}, Flts14 w fs xs → Flts14 w' fs xs
  | [], [], _ => trivial
  | _ :: _, _ :: _, h => ⟨⟨h.1.1.same hk, h.1.2⟩, Flts14.same hk h.2⟩
theorem Flts14.at_ {w : World} : ∀ {fs : List (List Node)} {xs : List (List Int × Int)}, Flts14 w fs xs → ∀ k (h1 : k < fs.length) (h2 : k < xs.length), Good w fs[k] ∧ Chain xs[k].1 xs[k].2 fs[k]
  | _ :: _, _ :: _, h, 0, _, _ => h.1
  | _ :: _, _ :: _, h, k + 1, h1, h2 => Flts14.at_ h.2 k (by simpa using h1) (by simpa using h2)

/-- the scan's state at block p -/
structure St14 (w : World) (p : Nat) (im : Value) (tree fuel : Int) (s : Rows14) (W : Wlk14) (way : List Int) : Prop where
  blk : w.heap[p]? = some (.cells #[s.E, s.B, .int .i64 W.deep, .int .i64 W.looked, s.F, im, .int .i64 tree, .int .i64 fuel, s.P] 75 (0, 0))
  ents : w.ownsRow (p + 1) 26 3 s.E W.ents.length (entC W.ents)
  blks : w.ownsRow (p + 1) 3 1 s.B W.blks.length (i64s W.blks)
  path : w.ownsRow (p + 1) 3 1 s.P way.length (i64s way)
  flts : ∃ fs : List (List Node), w.ownsRow (p + 1) 30 1 s.F W.flts.length (fs.map val) ∧ Flts14 w fs W.flts
  apart : ∀ k, s.B.ownBlock = some k → s.P.ownBlock ≠ some k

section
variable {w w1 w' : World} {p : Nat} {im : Value} {tree fuel : Int} {s s' : Rows14} {W : Wlk14} {way : List Int}
theorem St14.lt (h : St14 w p im tree fuel s W way) : p < w.heap.size := block_lt h.blk
theorem St14.c0 (h : St14 w p im tree fuel s W way) : w.cell? ⟨p, 0, none⟩ = some s.E := by rw [cell_of_row w p 0 _ _ _ h.blk]; rfl
theorem St14.c1 (h : St14 w p im tree fuel s W way) : w.cell? ⟨p, 1, none⟩ = some s.B := by rw [cell_of_row w p 1 _ _ _ h.blk]; rfl
theorem St14.c2 (h : St14 w p im tree fuel s W way) : w.cell? ⟨p, 2, none⟩ = some (.int .i64 W.deep) := by rw [cell_of_row w p 2 _ _ _ h.blk]; rfl
theorem St14.c3 (h : St14 w p im tree fuel s W way) : w.cell? ⟨p, 3, none⟩ = some (.int .i64 W.looked) := by rw [cell_of_row w p 3 _ _ _ h.blk]; rfl
theorem St14.c4 (h : St14 w p im tree fuel s W way) : w.cell? ⟨p, 4, none⟩ = some s.F := by rw [cell_of_row w p 4 _ _ _ h.blk]; rfl
theorem St14.c5 (h : St14 w p im tree fuel s W way) : w.cell? ⟨p, 5, none⟩ = some im := by rw [cell_of_row w p 5 _ _ _ h.blk]; rfl
theorem St14.c6 (h : St14 w p im tree fuel s W way) : w.cell? ⟨p, 6, none⟩ = some (.int .i64 tree) := by rw [cell_of_row w p 6 _ _ _ h.blk]; rfl
theorem St14.c7 (h : St14 w p im tree fuel s W way) : w.cell? ⟨p, 7, none⟩ = some (.int .i64 fuel) := by rw [cell_of_row w p 7 _ _ _ h.blk]; rfl
theorem St14.c8 (h : St14 w p im tree fuel s W way) : w.cell? ⟨p, 8, none⟩ = some s.P := by rw [cell_of_row w p 8 _ _ _ h.blk]; rfl
theorem St14.fz (h : St14 w p im tree fuel s W way) (j : Nat) : w.frozen? ⟨p, j, none⟩ = false := frozen_of_row w p j _ _ h.blk
theorem St14.mine_lt (h : St14 w p im tree fuel s W way) : ∀ k, s.mine p k → p ≤ k ∧ k < w.heap.size := fun k hk => by
  obtain ⟨fs, hf, _⟩ := h.flts
  rcases hk with rfl | hk | hk | hk | hk
  · exact ⟨Nat.le_refl _, h.lt⟩
  · have := h.ents.lt k hk; omega
  · have := h.blks.lt k hk; omega
  · have := hf.lt k hk; omega
  · have := h.path.lt k hk; omega
theorem Mov14.below (h : St14 w p im tree fuel s W way) (hm : Mov14 p s w s' w') : Below p w w' :=
  ⟨hm.frm.os, hm.frm.tape, hm.frm.output, hm.frm.size, fun k hk => hm.frm.block k (Nat.lt_trans hk h.lt) (fun hx => by have := (h.mine_lt k hx).1; omega)⟩
/-- a scan writes no Fault -/
theorem Mov14.keeps (h : St14 w p im tree fuel s W way) (hm : Mov14 p s w s' w') : Keeps w w' := fun q c e => by
  refine (hm.frm.block q (block_lt e) ?_).trans e
  obtain ⟨fs, hf, _⟩ := h.flts
  intro hx
  rcases hx with rfl | hk | hk | hk | hk
  · rw [h.blk] at e
    injection e with e
    injection e with _ e2 _
    exact absurd e2 (by decide)
  · obtain ⟨_, cu, e'⟩ := own_apartS h.ents q hk
    rw [e'] at e
    injection e with e
    injection e with _ e2 _
    exact absurd e2 (by decide)
  · obtain ⟨_, cu, e'⟩ := own_apartS h.blks q hk
    rw [e'] at e
    injection e with e
    injection e with _ e2 _
    exact absurd e2 (by decide)
  · obtain ⟨_, cu, e'⟩ := own_apartS hf q hk
    rw [e'] at e
    injection e with e
    injection e with _ e2 _
    exact absurd e2 (by decide)
  · obtain ⟨_, cu, e'⟩ := own_apartS h.path q hk
    rw [e'] at e
    injection e with e
    injection e with _ e2 _
    exact absurd e2 (by decide)
/-- nothing of it moves -/
theorem St14.later (h : St14 w p im tree fuel s W way) (hb : Below w.heap.size w w') : St14 w' p im tree fuel s W way := by
  obtain ⟨fs, hf, hg⟩ := h.flts
  have key : ∀ k, k < w.heap.size → w'.heap[k]? = w.heap[k]? := hb.block
  exact ⟨(key _ h.lt).trans h.blk, own_moved h.ents fun k _ hk => key k hk, own_moved h.blks fun k _ hk => key k hk, own_moved h.path fun k _ hk => key k hk, ⟨fs, own_moved hf fun k _ hk => key k hk, hg.same (Keeps.of_below hb)⟩, h.apart⟩

/-- a number of it is written -/
theorem St14.put (h : St14 w p im tree fuel s W way) (j : Nat) (x : Int) (hj : j = 2 ∨ j = 3) :
    St14 (w.setCell ⟨p, j, none⟩ (.int .i64 x)) p im tree fuel s ⟨W.ents, W.blks, if j = 2 then x else W.deep, if j = 3 then x else W.looked, W.flts⟩ way ∧ Mov14 p s w s (w.setCell ⟨p, j, none⟩ (.int .i64 x)) := by
  have hm : Mov14 p s w s (w.setCell ⟨p, j, none⟩ (.int .i64 x)) := ⟨Frm.set (Frm.of_below (Below.refl _ _)) (.inl rfl) _, fun _ _ h => h⟩
  obtain ⟨fs, hf, hg⟩ := h.flts
  have key : ∀ k, p + 1 ≤ k → (w.setCell ⟨p, j, none⟩ (.int .i64 x)).heap[k]? = w.heap[k]? := fun k hk => heap_setCell_other _ _ k _ (by show k ≠ p; omega)
  refine ⟨⟨?_, own_moved h.ents fun k e _ => key k (h.ents.lt k e).1, own_moved h.blks fun k e _ => key k (h.blks.lt k e).1, own_moved h.path fun k e _ => key k (h.path.lt k e).1, ⟨fs, own_moved hf fun k e _ => key k (hf.lt k e).1, hg.same (Mov14.keeps h hm)⟩, h.apart⟩, hm⟩
  rw [heap_setCell_same w p _ _ _ _ h.blk]
  rcases hj with rfl | rfl <;> rfl

/-- behind an append onto one of its rows, and the store -/
theorem mov_append (h : St14 w p im tree fuel s W way) {v v' : Value} {g : Nat} (hv : ∀ k, v.ownBlock = some k → s.mine p k) (hgrow : w.grownBy w1 v.ownBlock) (hat : v.ownBlock = some g ∨ g = w.heap.size) (hg' : v'.ownBlock = some g) (j : Nat)
    (hs : ∀ k, s'.mine p k → s.mine p k ∨ v'.ownBlock = some k) : Mov14 p s w s' (w1.setCell ⟨p, j, none⟩ v') := by
  refine ⟨⟨hgrow.os, hgrow.tape, hgrow.output, by simpa [World.setCell] using hgrow.size, fun q hq hn => ?_⟩, fun k hk hm => ?_⟩
  · rw [heap_setCell_other _ _ q _ (fun e => hn (.inl e))]
    exact hgrow.block q hq (fun e => hn (hv q e.symm))
  · rcases hs k hm with h1 | h1
    · exact h1
    · rw [hg'] at h1
      injection h1 with h1
      subst h1
      rcases hat with h2 | h2
      · exact hv g h2
      · omega
theorem set_block (h : St14 w p im tree fuel s W way) {v : Value} (hv : ∀ k, v.ownBlock = some k → p + 1 ≤ k) (hgrow : w.grownBy w1 v.ownBlock) (j : Nat) (u : Value) :
    (w1.setCell ⟨p, j, none⟩ u).heap[p]? = some (.cells ((#[s.E, s.B, .int .i64 W.deep, .int .i64 W.looked, s.F, im, .int .i64 tree, .int .i64 fuel, s.P] : Array Value).set! j u) 75 (0, 0)) := by
  have h1 : w1.heap[p]? = w.heap[p]? := hgrow.block p h.lt (fun e => by have := hv p e.symm; omega)
  rw [heap_setCell_same w1 p _ _ _ _ (h1.trans h.blk)]
  rfl
theorem row_block (h : St14 w p im tree fuel s W way) {v : Value} (hgrow : w.grownBy w1 v.ownBlock) (j : Nat) (u : Value) {base size n : Nat} {e : TypeId} {y : Value} {xs : List Value} (hy : w.ownsRow base e size y n xs) (hb : p + 1 ≤ base) (hne : ∀ k, y.ownBlock = some k → v.ownBlock ≠ some k) :
    (w1.setCell ⟨p, j, none⟩ u).ownsRow base e size y n xs :=
  own_moved hy fun k hk hlt => by
    have := (hy.lt k hk).1
    rw [heap_setCell_other _ _ k _ (by show k ≠ p; omega)]
    exact hgrow.block k hlt (fun e => hne k hk e.symm)
theorem own_set {base size n : Nat} {e : TypeId} {y : Value} {xs : List Value} (hy : w1.ownsRow base e size y n xs) (hb : p + 1 ≤ base) (j : Nat) (u : Value) : (w1.setCell ⟨p, j, none⟩ u).ownsRow base e size y n xs :=
  own_moved hy fun k hk _ => heap_setCell_other _ _ k _ (by have := (hy.lt k hk).1; show k ≠ p; omega)

theorem St14.addBlk (h : St14 w p im tree fuel s W way) {g cap : Nat} {no : Int} (hgrow : w.grownBy w1 s.B.ownBlock) (hat : s.B.ownBlock = some g ∨ g = w.heap.size)
    (hown : w1.ownsRow (p + 1) 3 1 (.slice (some ⟨g, 0, none⟩) (W.blks.length + 1) cap) (W.blks.length + 1) (i64s W.blks ++ [.int .i64 no])) :
    St14 (w1.setCell ⟨p, 1, none⟩ (.slice (some ⟨g, 0, none⟩) (W.blks.length + 1) cap)) p im tree fuel ⟨s.E, .slice (some ⟨g, 0, none⟩) (W.blks.length + 1) cap, s.F, s.P⟩ ⟨W.ents, W.blks ++ [no], W.deep, W.looked, W.flts⟩ way ∧
      Mov14 p s w ⟨s.E, .slice (some ⟨g, 0, none⟩) (W.blks.length + 1) cap, s.F, s.P⟩ (w1.setCell ⟨p, 1, none⟩ (.slice (some ⟨g, 0, none⟩) (W.blks.length + 1) cap)) := by
  obtain ⟨fs, hf, hg⟩ := h.flts
  have hm : Mov14 p s w ⟨s.E, .slice (some ⟨g, 0, none⟩) (W.blks.length + 1) cap, s.F, s.P⟩ (w1.setCell ⟨p, 1, none⟩ (.slice (some ⟨g, 0, none⟩) (W.blks.length + 1) cap)) :=
    mov_append h (fun k e => .inr (.inr (.inl e))) hgrow hat rfl 1 (fun k hk => by
      rcases hk with e | e | e | e | e
      · exact .inl (.inl e)
      · exact .inl (.inr (.inl e))
      · exact .inr e
      · exact .inl (.inr (.inr (.inr (.inl e))))
      · exact .inl (.inr (.inr (.inr (.inr e)))))
  refine ⟨⟨set_block h (fun k e => (h.blks.lt k e).1) hgrow 1 _, row_block h hgrow 1 _ h.ents (Nat.le_refl _) (own_types h.ents h.blks (by decide)), ?_, row_block h hgrow 1 _ h.path (Nat.le_refl _) (fun k e e2 => h.apart k e2 e),
    ⟨fs, row_block h hgrow 1 _ hf (Nat.le_refl _) (own_types hf h.blks (by decide)), hg.same (Mov14.keeps h hm)⟩, ?_⟩, hm⟩
  · have := own_set (p := p) hown (Nat.le_refl _) 1 (.slice (some ⟨g, 0, none⟩) (W.blks.length + 1) cap)
    show World.ownsRow _ _ _ _ _ (W.blks ++ [no]).length (i64s (W.blks ++ [no]))
    rw [i64s_append, List.length_append]; exact this
  · intro k e
    have e : some g = some k := e
    injection e with e
    subst e
    rcases hat with h2 | h2
    · exact h.apart g h2
    · intro e; have := (h.path.lt g e).2; omega

theorem St14.addWay (h : St14 w p im tree fuel s W way) {g cap : Nat} {no : Int} (hgrow : w.grownBy w1 s.P.ownBlock) (hat : s.P.ownBlock = some g ∨ g = w.heap.size)
    (hown : w1.ownsRow (p + 1) 3 1 (.slice (some ⟨g, 0, none⟩) (way.length + 1) cap) (way.length + 1) (i64s way ++ [.int .i64 no])) :
    St14 (w1.setCell ⟨p, 8, none⟩ (.slice (some ⟨g, 0, none⟩) (way.length + 1) cap)) p im tree fuel ⟨s.E, s.B, s.F, .slice (some ⟨g, 0, none⟩) (way.length + 1) cap⟩ W (way ++ [no]) ∧
      Mov14 p s w ⟨s.E, s.B, s.F, .slice (some ⟨g, 0, none⟩) (way.length + 1) cap⟩ (w1.setCell ⟨p, 8, none⟩ (.slice (some ⟨g, 0, none⟩) (way.length + 1) cap)) := by
  obtain ⟨fs, hf, hg⟩ := h.flts
  have hm : Mov14 p s w ⟨s.E, s.B, s.F, .slice (some ⟨g, 0, none⟩) (way.length + 1) cap⟩ (w1.setCell ⟨p, 8, none⟩ (.slice (some ⟨g, 0, none⟩) (way.length + 1) cap)) :=
    mov_append h (fun k e => .inr (.inr (.inr (.inr e)))) hgrow hat rfl 8 (fun k hk => by
      rcases hk with e | e | e | e | e
      · exact .inl (.inl e)
      · exact .inl (.inr (.inl e))
      · exact .inl (.inr (.inr (.inl e)))
      · exact .inl (.inr (.inr (.inr (.inl e))))
      · exact .inr e)
  refine ⟨⟨set_block h (fun k e => (h.path.lt k e).1) hgrow 8 _, row_block h hgrow 8 _ h.ents (Nat.le_refl _) (own_types h.ents h.path (by decide)), row_block h hgrow 8 _ h.blks (Nat.le_refl _) h.apart, ?_,
    ⟨fs, row_block h hgrow 8 _ hf (Nat.le_refl _) (own_types hf h.path (by decide)), hg.same (Mov14.keeps h hm)⟩, ?_⟩, hm⟩
  · have := own_set (p := p) hown (Nat.le_refl _) 8 (.slice (some ⟨g, 0, none⟩) (way.length + 1) cap)
    show World.ownsRow _ _ _ _ _ (way ++ [no]).length (i64s (way ++ [no]))
    rw [i64s_append, List.length_append]; exact this
  · intro k e e2
    have e2 : some g = some k := e2
    injection e2 with e2
    subst e2
    rcases hat with h2 | h2
    · exact h.apart g e h2
    · have := (h.blks.lt g e).2; omega

theorem St14.addEnt (h : St14 w p im tree fuel s W way) {g cap : Nat} {x : Int × List UInt8 × Int} (hgrow : w.grownBy w1 s.E.ownBlock) (hat : s.E.ownBlock = some g ∨ g = w.heap.size)
    (hown : w1.ownsRow (p + 1) 26 3 (.slice (some ⟨g, 0, none⟩) (W.ents.length + 1) cap) (W.ents.length + 1) (entC W.ents ++ [.int .i64 x.1, .string ⟨x.2.1.toArray⟩, .int .i64 x.2.2])) :
    St14 (w1.setCell ⟨p, 0, none⟩ (.slice (some ⟨g, 0, none⟩) (W.ents.length + 1) cap)) p im tree fuel ⟨.slice (some ⟨g, 0, none⟩) (W.ents.length + 1) cap, s.B, s.F, s.P⟩ ⟨W.ents ++ [x], W.blks, W.deep, W.looked, W.flts⟩ way ∧
      Mov14 p s w ⟨.slice (some ⟨g, 0, none⟩) (W.ents.length + 1) cap, s.B, s.F, s.P⟩ (w1.setCell ⟨p, 0, none⟩ (.slice (some ⟨g, 0, none⟩) (W.ents.length + 1) cap)) := by
  obtain ⟨fs, hf, hg⟩ := h.flts
  have hm : Mov14 p s w ⟨.slice (some ⟨g, 0, none⟩) (W.ents.length + 1) cap, s.B, s.F, s.P⟩ (w1.setCell ⟨p, 0, none⟩ (.slice (some ⟨g, 0, none⟩) (W.ents.length + 1) cap)) :=
    mov_append h (fun k e => .inr (.inl e)) hgrow hat rfl 0 (fun k hk => by
      rcases hk with e | e | e | e | e
      · exact .inl (.inl e)
      · exact .inr e
      · exact .inl (.inr (.inr (.inl e)))
      · exact .inl (.inr (.inr (.inr (.inl e))))
      · exact .inl (.inr (.inr (.inr (.inr e)))))
  refine ⟨⟨set_block h (fun k e => (h.ents.lt k e).1) hgrow 0 _, ?_, row_block h hgrow 0 _ h.blks (Nat.le_refl _) (own_types h.blks h.ents (by decide)), row_block h hgrow 0 _ h.path (Nat.le_refl _) (own_types h.path h.ents (by decide)),
    ⟨fs, row_block h hgrow 0 _ hf (Nat.le_refl _) (own_types hf h.ents (by decide)), hg.same (Mov14.keeps h hm)⟩, h.apart⟩, hm⟩
  have := own_set (p := p) hown (Nat.le_refl _) 0 (.slice (some ⟨g, 0, none⟩) (W.ents.length + 1) cap)
  show World.ownsRow _ _ _ _ _ (W.ents ++ [x]).length (entC (W.ents ++ [x]))
  rw [entC_snoc, List.length_append]
  have e : entC [x] = [.int .i64 x.1, .string ⟨x.2.1.toArray⟩, .int .i64 x.2.2] := by simp [entC]
  rw [e]; exact this

theorem St14.addFlt (h : St14 w p im tree fuel s W way) {fs : List (List Node)} (hF : Flts14 w fs W.flts) {g cap : Nat} {f : List Node} {x : List Int × Int} (hgd : Good w f) (hc : Chain x.1 x.2 f) (hgrow : w.grownBy w1 s.F.ownBlock) (hat : s.F.ownBlock = some g ∨ g = w.heap.size)
    (hfs : w.ownsRow (p + 1) 30 1 s.F W.flts.length (fs.map val))
    (hown : w1.ownsRow (p + 1) 30 1 (.slice (some ⟨g, 0, none⟩) (W.flts.length + 1) cap) (W.flts.length + 1) (fs.map val ++ [val f])) :
    St14 (w1.setCell ⟨p, 4, none⟩ (.slice (some ⟨g, 0, none⟩) (W.flts.length + 1) cap)) p im tree fuel ⟨s.E, s.B, .slice (some ⟨g, 0, none⟩) (W.flts.length + 1) cap, s.P⟩ ⟨W.ents, W.blks, W.deep, W.looked, W.flts ++ [x]⟩ way ∧
      Mov14 p s w ⟨s.E, s.B, .slice (some ⟨g, 0, none⟩) (W.flts.length + 1) cap, s.P⟩ (w1.setCell ⟨p, 4, none⟩ (.slice (some ⟨g, 0, none⟩) (W.flts.length + 1) cap)) := by
  have hm : Mov14 p s w ⟨s.E, s.B, .slice (some ⟨g, 0, none⟩) (W.flts.length + 1) cap, s.P⟩ (w1.setCell ⟨p, 4, none⟩ (.slice (some ⟨g, 0, none⟩) (W.flts.length + 1) cap)) :=
    mov_append h (fun k e => .inr (.inr (.inr (.inl e)))) hgrow hat rfl 4 (fun k hk => by
      rcases hk with e | e | e | e | e
      · exact .inl (.inl e)
      · exact .inl (.inr (.inl e))
      · exact .inl (.inr (.inr (.inl e)))
      · exact .inr e
      · exact .inl (.inr (.inr (.inr (.inr e)))))
  refine ⟨⟨set_block h (fun k e => (hfs.lt k e).1) hgrow 4 _, row_block h hgrow 4 _ h.ents (Nat.le_refl _) (own_types h.ents hfs (by decide)), row_block h hgrow 4 _ h.blks (Nat.le_refl _) (own_types h.blks hfs (by decide)), row_block h hgrow 4 _ h.path (Nat.le_refl _) (own_types h.path hfs (by decide)),
    ⟨fs ++ [f], ?_, (hF.snoc hgd hc).same (Mov14.keeps h hm)⟩, h.apart⟩, hm⟩
  have := own_set (p := p) hown (Nat.le_refl _) 4 (.slice (some ⟨g, 0, none⟩) (W.flts.length + 1) cap)
  show World.ownsRow _ _ _ _ _ (W.flts ++ [x]).length ((fs ++ [f]).map val)
  rw [List.map_append, List.length_append]; exact this

/-- the path's last block goes -/
theorem St14.cutWay {no : Int} (h : St14 w p im tree fuel s W (way ++ [no])) {g cap : Nat} (hP : s.P = .slice (some ⟨g, 0, none⟩) (way.length + 1) cap) :
    St14 (w.setCell ⟨p, 8, none⟩ (.slice (some ⟨g, 0, none⟩) way.length cap)) p im tree fuel ⟨s.E, s.B, s.F, .slice (some ⟨g, 0, none⟩) way.length cap⟩ W way ∧
      Mov14 p s w ⟨s.E, s.B, s.F, .slice (some ⟨g, 0, none⟩) way.length cap⟩ (w.setCell ⟨p, 8, none⟩ (.slice (some ⟨g, 0, none⟩) way.length cap)) := by
  have hob : s.P.ownBlock = some g := by rw [hP]; rfl
  have hm : Mov14 p s w ⟨s.E, s.B, s.F, .slice (some ⟨g, 0, none⟩) way.length cap⟩ (w.setCell ⟨p, 8, none⟩ (.slice (some ⟨g, 0, none⟩) way.length cap)) :=
    ⟨Frm.set (Frm.of_below (Below.refl _ _)) (.inl rfl) _, fun k _ hk => by
      rcases hk with e | e | e | e | e
      · exact .inl e
      · exact .inr (.inl e)
      · exact .inr (.inr (.inl e))
      · exact .inr (.inr (.inr (.inl e)))
      · exact .inr (.inr (.inr (.inr (hob.trans e))))⟩
  obtain ⟨fs, hf, hg⟩ := h.flts
  have key : ∀ k, p + 1 ≤ k → (w.setCell ⟨p, 8, none⟩ (.slice (some ⟨g, 0, none⟩) way.length cap)).heap[k]? = w.heap[k]? := fun k hk => heap_setCell_other _ _ k _ (by show k ≠ p; omega)
  refine ⟨⟨?_, own_moved h.ents fun k e _ => key k (h.ents.lt k e).1, own_moved h.blks fun k e _ => key k (h.blks.lt k e).1, ?_, ⟨fs, own_moved hf fun k e _ => key k (hf.lt k e).1, hg.same (Mov14.keeps h hm)⟩, fun k e e2 => h.apart k e (hob.trans e2)⟩, hm⟩
  · rw [heap_setCell_same w p _ _ _ _ h.blk]; rfl
  · have hp := h.path
    rw [hP] at hp
    refine ⟨by rw [i64s_length]; simp, .inr ?_⟩
    rcases hp.2 with ⟨hv, _⟩ | ⟨g', cap', cur, hv, hg1, hh, h1, h2, h3, h4⟩
    · cases hv
    · injection hv with e1 e2 e3
      injection e1 with e1
      injection e1 with e1
      subst e1; subst e3
      rw [List.length_append, List.length_singleton] at h1 h4
      refine ⟨g, cap, cur, rfl, hg1, (key g hg1).trans hh, by omega, h2, h3, ?_⟩
      have := congrArg (List.take way.length) h4
      rw [List.take_take, i64s_append] at this
      rw [Nat.mul_one] at this ⊢
      rw [Nat.min_eq_left (by omega)] at this
      rw [this, List.take_append_of_le_length (by rw [i64s_length]; exact Nat.le_refl _), List.take_of_length_le (by rw [i64s_length]; exact Nat.le_refl _)]
end

/-- a state just made -/
theorem St14.new (w : World) (im : Value) (tree fuel : Int) :
    St14 (w.alloc (.cells #[.slice none 0 0, .slice none 0 0, .int .i64 0, .int .i64 0, .slice none 0 0, im, .int .i64 tree, .int .i64 fuel, .slice none 0 0] 75)) w.heap.size im tree fuel ⟨.slice none 0 0, .slice none 0 0, .slice none 0 0, .slice none 0 0⟩ Wlk14.zero [] :=
  ⟨heap_alloc_new w _, World.ownsRow_nil _ _ _ _, World.ownsRow_nil _ _ _ _, World.ownsRow_nil _ _ _ _, ⟨[], World.ownsRow_nil _ _ _ _, trivial⟩, fun k e => by cases e⟩

end Go.Proofs.YtnjlganofjkpfaaGreat
