/-
  Joined: AlcT, AlcU, AlcV, AlcW, AlcX, BldLay, BldB, BldC.
-/
import Derived.Deep.RegionHeld3
import Derived.Deep.RegionWith
import Derived.Deep.DeepCutAuto
import Derived.Test.YtnjlganofjkpfaaGreatDoorJBldA43
import Derived.Test.YtnjlganofjkpfaaGreatDoorJBldA30
import Derived.Test.YtnjlganofjkpfaaGreatDoorJBldA28
import Derived.Test.YtnjlganofjkpfaaGreatDoorJBldA17
import Derived.Test.YtnjlganofjkpfaaGreatDoorJBldA38
import Derived.Test.YtnjlganofjkpfaaGreatDoorJBldA39
import Derived.Test.YtnjlganofjkpfaaGreatDoorJBldA37
import Derived.Test.YtnjlganofjkpfaaGreatDoorJBldA35
import Derived.Test.YtnjlganofjkpfaaGreatDoorJBldA21
import Derived.Test.YtnjlganofjkpfaaGreatDoorJBldA03
/-
  Layer 16: the reference's Lay; layer 11's Write of the reference once more, with what it leaves told block by block.
-/
namespace Go.Proofs.YtnjlganofjkpfaaGreatDoor
open Go.RowKit
set_option linter.unusedVariables false
set_option linter.unusedSimpArgs false

/-- an error at a block, as the document has it, newer than block B -/
def BadAtN16 (B : Nat) (w : World) (v : Value) (no x : Int) : Prop := ∃ A n c, v = rf A n c x ∧ Ints w A n c (atL no x) ∧ Newer B A
/-- a block that was not there -/
theorem grown_new16 {w w' : World} {r : Option Nat} (h : w.grownBy w' (some w.heap.size)) : w.grownBy w' r := ⟨h.os, h.tape, h.output, h.size, fun k hk _ => h.block k hk (fun e => by injection e; omega)⟩

set_option maxRecDepth 100000 in
set_option maxHeartbeats 1600000 in
theorem ref11Write_badN {w : World} (pv : Value) (no kind : Int) {A : Option Addr} {m c : Nat} {l : List UInt8} (hB : Bytes8 w A m c l) (hs : sealE kind no l.length ≠ 0) :
    Calls Tryz.prog 64 #[pv, .int .i64 no, .int .i64 kind, .slice A m c] w fun e w' => ∃ f, e = .returned f ∧ BadAtN16 w.heap.size w' f no (sealE kind no l.length) ∧ Below w.heap.size w w' := by
  have S : Hid (∀ W, Bx w W → Calls Tryz.prog 82 #[.int .i64 kind, .int .i64 no, .slice A m c] W fun e w' => ∃ A' m' c', e = .returned (.tuple #[.slice A' m' c', .int .i64 (sealE kind no m)]) ∧ Bx w w') := fun W hW => (refSeal_any kind no A m c l W (hB.below hW.bel)).mono fun e w' ⟨A', m', c', h1, _, h3⟩ => ⟨A', m', c', h1, hW.later h3⟩
  have AT : Hid (∀ W x, Bx w W → Calls Tryz.prog 83 #[.int .i64 no, .int .i64 x] W fun e w' => ∃ A n c, e = .returned (.agg #[.slice A n c, .int .i64 x]) ∧ Ints w' A n c (atL no x) ∧ Newer (w.heap.size + 1) A ∧ Bx w w') := fun W x hW => (ref11At_any no x W).mono fun e w' ⟨A, n, c, h1, h2, h3, h4⟩ => ⟨A, n, c, h1, h2, h3.mono hW.low, hW.later h4⟩
  rw [hB.len] at hs ⊢
  have hne : (sealE kind no m != 0) = true := by simpa using hs
  have hN0 := Bx.start w
  clear hB hs
  generalize sealE kind no m = x at *
  go_enter Tryz.func64, Tryz.ntmps64
  go_wp2_with (first
    | (go_at_call 82; (with_reducible refine (S.out _ hN0).mono ?_); rintro e w1 ⟨A1, m1, c1, rfl, hN1⟩)
    | (go_at_call 83; (with_reducible refine (AT.out _ _ hN1).mono ?_); rintro e w3 ⟨A3, n3, c3, rfl, hI3, hn3, hN3⟩; have HI3 := Lib.hid hI3; have HN3 := Lib.hid hn3; clear hI3 hn3; obtain ⟨⟨z0, z1⟩, y0, y1⟩ := hN3.flt.cs))
  refine bodyPost_ret (results_rf Tryz.results64 _ _ w.heap.size (.slice A3 n3 c3) (.int .i64 x) rfl (hN3.flt.store _ _)) rfl ?_
  exact ⟨_, rfl, ⟨A3, n3, c3, rfl, HI3.out.newer HN3.out (two_keep w3 w.heap.size _ _ (by omega)), HN3.out.mono (Nat.le_succ _)⟩, below_store2 hN3.bel (Nat.le_refl _) _ _⟩

set_option maxRecDepth 100000 in
set_option maxHeartbeats 1600000 in
theorem ref11Write_ofN {w : World} {B p g : Nat} {v : Value} {M M' : List (List UInt8)} (no kind y : Int) {A : Option Addr} {m c : Nat} {l : List UInt8} (hR : RImg w B p v M) (hB : Bytes8 w A m c l) (hs : sealE kind no l.length = 0) (hg : p + 1 ≤ g)
    (WR : ∀ W A c, Below w.heap.size w W → BxG w W g → Bytes8 W A 256 c (sealB kind no l) → Calls Tryz.prog 84 #[.pointer (some ⟨p, 0, none⟩), .int .i64 no, .slice A 256 c] W fun e w' => e = .returned (.int .i64 y) ∧ RImg w' B p v M' ∧ BxG w w' g) :
    Calls Tryz.prog 64 #[.pointer (some ⟨p, 0, none⟩), .int .i64 no, .int .i64 kind, .slice A m c] w fun e w' => ∃ f, e = .returned f ∧ BadAtN16 w.heap.size w' f no y ∧ RImg w' B p v M' ∧ Below (p + 1) w w' ∧ w.grownBy w' (some g) := by
  have S : Hid (∀ W, BxG w W g → Below w.heap.size w W → Calls Tryz.prog 82 #[.int .i64 kind, .int .i64 no, .slice A m c] W fun e w' => ∃ A' c', e = .returned (.tuple #[.slice A' 256 c', .int .i64 0]) ∧ Bytes8 w' A' 256 c' (sealB kind no l) ∧ BxG w w' g ∧ Below w.heap.size w w') := fun W hW hb => by
    refine (refSeal_any kind no A m c l W (hB.below hb)).mono ?_
    rintro e w' ⟨A', m', c', h1, h2, h3⟩
    obtain rfl : 256 = m' := by rw [← h2.len, sealB_length hs]
    exact ⟨A', c', by rw [h1, ← hB.len, hs], h2, hW.later h3, hb.trans (h3.mono hb.size)⟩
  have AT : Hid (∀ W x, BxG w W g → RImg W B p v M' → Calls Tryz.prog 83 #[.int .i64 no, .int .i64 x] W fun e w' => ∃ A n c, e = .returned (.agg #[.slice A n c, .int .i64 x]) ∧ Ints w' A n c (atL no x) ∧ Newer (w.heap.size + 1) A ∧ BxG w w' g ∧ RImg w' B p v M') := fun W x hW hi => (ref11At_any no x W).mono fun e w' ⟨A, n, c, h1, h2, h3, h4⟩ => ⟨A, n, c, h1, h2, h3.mono (block_lt hW.flt), hW.later h4, hi.later h4⟩
  have W2 := Lib.hid WR
  have hN0 := BxG.start w g
  have hb0 : Below w.heap.size w (w.alloc (.cells #[.slice none 0 0, .int .i64 0] 33)) := (Below.refl _ _).alloc (Nat.le_refl _) _
  have hpl : p + 1 ≤ w.heap.size := hR.plt
  clear hB hs WR hR
  generalize sealB kind no l = bb at *
  go_enter Tryz.func64, Tryz.ntmps64
  go_wp2_with (first
    | (go_at_call 82; (with_reducible refine (S.out _ hN0 hb0).mono ?_); rintro e w1 ⟨A1, c1, rfl, hB1, hN1, hb1⟩; have HB1 := Lib.hid hB1; clear hB1)
    | (go_at_call 84; (with_reducible refine (W2.out _ _ _ hb1 hN1 HB1.out).mono ?_); rintro e w2 ⟨rfl, hi2, hN2⟩)
    | (go_at_call 83; (with_reducible refine (AT.out _ _ hN2 hi2).mono ?_); rintro e w3 ⟨A3, n3, c3, rfl, hI3, hn3, hN3, hi3⟩; have HI3 := Lib.hid hI3; have HN3 := Lib.hid hn3; have HM3 := Lib.hid hi3; clear hI3 hn3 hi3; obtain ⟨⟨z0, z1⟩, y0, y1⟩ := hN3.flt.cs))
  refine bodyPost_ret (results_rf Tryz.results64 _ _ w.heap.size (.slice A3 n3 c3) (.int .i64 y) rfl (hN3.flt.store _ _)) rfl ?_
  exact ⟨_, rfl, ⟨A3, n3, c3, rfl, HI3.out.newer HN3.out (two_keep w3 w.heap.size _ _ (by omega)), HN3.out.mono (Nat.le_succ _)⟩, HM3.out.box hN3.flt _ _, below_store2 (below_grown hN3.gr hg hpl) hpl _ _, grown_box hN3.gr _ _⟩

/-- of an image -/
theorem ref11Write_anyN {w : World} {B p n : Nat} {v : Value} {L : List UInt8} (no kind : Int) (h : RImg w B p v (blks L n)) (hL : L.length = n * 256) {A : Option Addr} {m c : Nat} {l : List UInt8} (hB : Bytes8 w A m c l) :
    Calls Tryz.prog 64 #[.pointer (some ⟨p, 0, none⟩), .int .i64 no, .int .i64 kind, .slice A m c] w fun e w' => ∃ f, e = .returned f ∧ BadAtN16 w.heap.size w' f no (wrE11 n no kind l) ∧ RImg w' B p v (blks (wrL11 L n no kind l) n) ∧ w.grownBy w' v.ownBlock ∧ Keeps w w' := by
  have hpl : p + 1 ≤ w.heap.size := h.plt
  by_cases hs : sealE kind no l.length = 0
  · rw [wrE11_ok hs]
    cases ho : outB n no with
    | true =>
      rw [wrL11_bad (by rw [wrE11_ok hs, ho]; decide), if_pos rfl]
      exact (ref11Write_ofN (g := w.heap.size) no kind 3 h hB hs hpl fun W A' c' hW hx hb =>
        (refWrite_bad no A' 256 c' W (h.later hW) (by rw [blks_length]; exact outB_iff.1 ho)).mono fun e w' ⟨h1, h2⟩ => ⟨h1, h2 ▸ h.later hW, h2 ▸ hx⟩).mono fun e w' ⟨f, h1, h2, h3, h4, h5⟩ => ⟨f, h1, h2, h3, grown_new16 h5, Keeps.of_grown h5 (fun c e => by rw [Array.getElem?_eq_none (Nat.le_refl _)] at e; cases e)⟩
    | false =>
      obtain ⟨h0, h1⟩ := outB_not.1 ho
      obtain ⟨k, rfl⟩ := Int.eq_ofNat_of_zero_le h0
      rw [wrL11_good (by rw [wrE11_ok hs, ho]; rfl), if_neg (by decide)]
      have hk : k < (blks L n).length := by rw [blks_length]; omega
      obtain ⟨g, cap, cur, hv, hg, hh, q1, q2, q3, q4⟩ := h.lit (by omega)
      have e : (blks L n).set k (sealB kind k l) = blks (splice L (((k : Int)).toNat * 256) (sealB kind k l)) n := by
        have hw : wE n (k : Int) 256 = 0 := by unfold wE; rw [if_neg (by omega), if_pos rfl]
        have := wM_blks (q := n) (k := (k : Int)) (m := 256) (L := L) (l := sealB kind k l) hL (sealB_length hs)
        rw [wM, wL, hw, if_pos rfl, if_pos rfl] at this
        exact this
      rw [← e]
      refine (ref11Write_ofN (g := g) k kind 0 h hB hs hg fun W A' c' hW hx hb =>
        (refWrite_put2 k A' c' _ W (h.later hW) hk hv hg ((hW.block g (block_lt hh)).trans hh) q1 q2 q3 q4 hb).mono fun e w' ⟨h1, h2, h3⟩ => ⟨h1, h2, ⟨(h3.block _ (block_lt hx.flt) (fun e => by injection e with e; have := block_lt hh; omega)).trans hx.flt, grown_trans hx.gr h3⟩⟩).mono fun e w' ⟨f, h1, h2, h3, h4, h5⟩ => ⟨f, h1, h2, h3, by rw [hv]; exact h5, Keeps.of_grown h5 (fun c e => ?_)⟩
      rw [hh] at e
      injection e with e
      injection e with _ e2 _
      exact absurd e2 (by decide)
  · rw [wrL11_bad (by rw [wrE11_seal hs]; exact hs), wrE11_seal hs]
    exact (ref11Write_badN _ no kind hB hs).mono fun e w' ⟨f, h1, h2, h3⟩ => ⟨f, h1, h2, h.later h3, grown_below h3 _, Keeps.of_below h3⟩

/-- the reference's allocator and its image -/
structure RAImg (w : World) (base p m B : Nat) (v : Value) (fr : List Int) (u : Nat) (M : List (List UInt8)) : Prop where
  ra : RAlc w base p m fr u
  ri : RImg w B m v M
  mlt : m < base
  own : ∀ k, v.ownBlock = some k → m < k ∧ k < base
section
variable {w w' : World} {base p m B : Nat} {v : Value} {fr : List Int} {u : Nat} {M : List (List UInt8)}
theorem RAImg.later (h : RAImg w base p m B v fr u M) (hb : Below w.heap.size w w') : RAImg w' base p m B v fr u M := ⟨h.ra.later hb, h.ri.later hb, h.mlt, h.own⟩
theorem RImg.own_of {L : List (List UInt8)} (h : RImg w B p v L) : ∀ k, v.ownBlock = some k → p < k ∧ k < w.heap.size := fun k hk => by
  rcases h.own.2 with ⟨rfl, _⟩ | ⟨g, cap, cur, rfl, hg, hh, _⟩
  · cases hk
  · have hk : some g = some k := hk
    injection hk with hk
    subst hk
    exact ⟨hg, block_lt hh⟩
/-- a block of neither changed -/
theorem RImg.mov {L : List (List UInt8)} (h : RImg w B p v L) (hp : w'.heap[p]? = w.heap[p]?) (hg : ∀ k, v.ownBlock = some k → w'.heap[k]? = w.heap[k]?) : RImg w' B p v L := by
  refine ⟨h.bp, hp.trans h.hp, h.own.1, ?_⟩
  rcases h.own.2 with hn | ⟨g, cap, cur, hv, hg2, hh, rest⟩
  · exact .inl hn
  · exact .inr ⟨g, cap, cur, hv, hg2, (hg g (by rw [hv]; rfl)).trans hh, rest⟩
theorem RAImg.two {g : Nat} (h : RAImg w base p m B v fr u M) (hg : p < g) (x y : Value) :
    RAImg ((w.setCell ⟨g, 0, none⟩ x).setCell ⟨g, 1, none⟩ y) base p m B v fr u M := by
  have hb := h.ra.1
  have hk : ∀ k, k ≠ g → ((w.setCell ⟨g, 0, none⟩ x).setCell ⟨g, 1, none⟩ y).heap[k]? = w.heap[k]? := fun k hk => by
    rw [heap_setCell_other _ _ k _ hk, heap_setCell_other _ _ k _ hk]
  exact ⟨h.ra.new_two hg x y, h.ri.mov (hk m (by have := h.mlt; omega)) (fun k e => hk k (by have := h.own k e; omega)), h.mlt, h.own⟩

/-- a block is left: the write has been tried, its error lies in a variable -/
structure Ly16 (w W : World) (z b base p m B : Nat) (v : Value) (fr : List Int) (u : Nat) (M : List (List UInt8)) (A : Option Addr) (n c : Nat) (no x : Int) : Prop where
  gr : w.grownBy W v.ownBlock
  res : FltAt W z (.slice none 0 0) (.int .i64 0)
  flt : FltAt W b (.slice A n c) (.int .i64 x)
  ints : Ints W A n c (atL no x)
  new : Newer (z + 1) A
  rai : RAImg W base p m B v fr u M

section
variable {w W w2 : World} {base p m B : Nat} {v : Value} {fr : List Int} {u : Nat} {M : List (List UInt8)} {A : Option Addr} {n c : Nat} {no x : Int}
/-- the write's answer is laid into a new variable -/
theorem Ly16.made (h1 : Rx16 w W) (h2 : Ints w2 A n c (atL no x)) (h3 : Newer W.heap.size A) (h4 : RAImg w2 base p m B v fr u M) (h5 : W.grownBy w2 v.ownBlock) (hb : base ≤ w.heap.size) :
    Ly16 w (w2.alloc (.cells #[.slice A n c, .int .i64 x] 33)) w.heap.size w2.heap.size base p m B v fr u M A n c no x := by
  have hal : Below w2.heap.size w2 (w2.alloc (.cells #[.slice A n c, .int .i64 x] 33)) := (Below.refl _ _).alloc (Nat.le_refl _) _
  have hf : FltAt w2 w.heap.size (.slice none 0 0) (.int .i64 0) := (h5.block _ (block_lt h1.flt) (fun e => by have := h4.own _ e.symm; omega)).trans h1.flt
  exact ⟨grown_trans (grown_trans (grown_below h1.bel _) h5) (grown_below hal _), hf.later hal, FltAt.new w2 _ _, h2.below hal, h3.mono (block_lt h1.flt), h4.later hal⟩
theorem Ly16.drew {z b : Nat} (h : Ly16 w W z b base p m B v fr u M A n c no x) : Ly16 w W.drew z b base p m B v fr u M A n c no x := by
  have hb : Below W.heap.size W W.drew := (Below.refl _ _).drew
  exact ⟨grown_trans h.gr (grown_below hb _), h.res.later hb, h.flt.later hb, h.ints.below hb, h.new, h.rai.later hb⟩
/-- the error goes into the result's variable -/
theorem Ly16.fin {b : Nat} (h : Ly16 w W w.heap.size b base p m B v fr u M A n c no x) (hx : x ≠ 0) (hp : p < w.heap.size) : Ints ((W.setCell ⟨w.heap.size, 0, none⟩ (.slice A n c)).setCell ⟨w.heap.size, 1, none⟩ (.int .i64 x)).drew A n c [no] ∧
    RAImg ((W.setCell ⟨w.heap.size, 0, none⟩ (.slice A n c)).setCell ⟨w.heap.size, 1, none⟩ (.int .i64 x)).drew base p m B v fr u M ∧ Fr2 w ((W.setCell ⟨w.heap.size, 0, none⟩ (.slice A n c)).setCell ⟨w.heap.size, 1, none⟩ (.int .i64 x)).drew v.ownBlock (some p) := by
  have hi := h.ints
  rw [atL, if_neg hx] at hi
  have hb : ∀ V : World, Below V.heap.size V V.drew := fun V => (Below.refl _ _).drew
  refine ⟨(hi.newer h.new (two_keep W w.heap.size _ _ (Nat.lt_succ_self _))).below (hb _), (h.rai.two hp _ _).later (hb _), ?_⟩
  exact ((Fr2.of_one h.gr _).two (Nat.le_refl _) _ _).trans (Fr2.of_below (hb _) _ _)
/-- or into a variable that was laid before it -/
theorem Ly16.fill (h1 : Rx16 w W) {g : Nat} (hf0 : FltAt w2 g (.slice none 0 0) (.int .i64 0)) (hg : g < W.heap.size) (hg2 : w.heap.size < g) (hg3 : p < g) (h2 : Ints w2 A n c (atL no x)) (h3 : Newer W.heap.size A) (h4 : RAImg w2 base p m B v fr u M) (h5 : W.grownBy w2 v.ownBlock) (hb : base ≤ w.heap.size) :
    Ly16 w ((w2.setCell ⟨g, 0, none⟩ (.slice A n c)).setCell ⟨g, 1, none⟩ (.int .i64 x)) w.heap.size g base p m B v fr u M A n c no x := by
  have hf : FltAt w2 w.heap.size (.slice none 0 0) (.int .i64 0) := (h5.block _ (block_lt h1.flt) (fun e => by have := h4.own _ e.symm; omega)).trans h1.flt
  have hk : ∀ k, k ≠ g → ((w2.setCell ⟨g, 0, none⟩ (.slice A n c)).setCell ⟨g, 1, none⟩ (.int .i64 x)).heap[k]? = w2.heap[k]? := fun k hk => by
    rw [heap_setCell_other _ _ k _ hk, heap_setCell_other _ _ k _ hk]
  have hgr : w.grownBy w2 v.ownBlock := grown_trans (grown_below h1.bel _) h5
  refine ⟨⟨hgr.os, hgr.tape, hgr.output, by simpa [World.setCell] using hgr.size, fun k hk1 hk2 => (hk k (by omega)).trans (hgr.block k hk1 hk2)⟩, (hk _ (Nat.ne_of_lt hg2)).trans hf, hf0.store _ _, ?_, h3.mono (block_lt h1.flt), h4.two hg3 _ _⟩
  exact h2.newer h3 (fun k hk2 => hk k (by omega))
end

set_option maxRecDepth 100000 in
set_option maxHeartbeats 3200000 in
theorem refLay_some16 {q : Nat} {L : List UInt8} {x : Int} (kind : Int) {Ai : Option Addr} {ni ci : Nat} {li : List UInt8} (h : RAImg w base p m B v (x :: fr) u (blks L q)) (hL : L.length = q * 256) (hB : Bytes8 w Ai ni ci li) (hu : u ≤ 1000000) :
    Calls Tryz.prog 37 #[.pointer (some ⟨p, 0, none⟩), .int .i64 kind, .slice Ai ni ci] w fun e w' =>
      (wrE11 q x kind li ≠ 0 ∧ ∃ A n c, e = .returned (.tuple #[.int .i64 0, rf A n c (wrE11 q x kind li)]) ∧ Ints w' A n c [x] ∧ Newer w.heap.size A ∧ RAImg w' base p m B v (x :: fr) u (blks L q) ∧ Fr2 w w' v.ownBlock (some p)) ∨
      (wrE11 q x kind li = 0 ∧ e = .returned (.tuple #[.int .i64 x, rf none 0 0 0]) ∧ RAImg w' base p m B v fr (u + 1) (blks (wrL11 L q x kind li) q) ∧ Fr2 w w' v.ownBlock (some p)) := by
  have hX := Rx16.start w
  obtain ⟨w0, hw0⟩ : ∃ w0, w.alloc (.cells #[.slice none 0 0, .int .i64 0] 33) = w0 := ⟨_, rfl⟩
  rw [hw0] at hX
  have HH := Lib.hid h
  have hplt := h.ra.plt
  obtain ⟨b, off, c, HC, hcap⟩ : ∃ b off c, Hid (∀ W, Fr2 w W v.ownBlock none → (W.cell? ⟨p, 0, none⟩ = some (.pointer (some ⟨m, 0, none⟩)) ∧ W.cell? ⟨p, 1, none⟩ = some (.slice (some ⟨b, off, none⟩) (fr.length + 1) c)) ∧ W.cell? ⟨b, off, none⟩ = some (.int .i64 x)) ∧ fr.length + 1 ≤ c ∧ c ≤ 9223372036854775807 := by
    have hown := h.own
    have hpl := h.ra.1
    obtain ⟨h0, A, c, h1, h2, h3⟩ := h.ra
    obtain ⟨b, off, rfl, hbl, hcc⟩ := h2.row.lit (by simp [i64s])
    have hb3 := (h3 _ rfl).1
    refine ⟨b, off, c, fun W hW => ?_, h2.cap, h2.most⟩
    have e1 := hW.block p hplt (fun e => by have := hown p e.symm; omega) (by simp)
    have e2 := hW.block b hbl (fun e => by have := hown b e.symm; simp at hb3; omega) (by simp)
    obtain ⟨k0, k1, _⟩ := RAlc.cells (e1.trans h1)
    exact ⟨⟨k0, k1⟩, (World.cell?_of_block (w := w) e2).trans (by simpa using hcc 0 _ rfl)⟩
  have WR : Hid (∀ W, Rx16 w W → Calls Tryz.prog 64 #[.pointer (some ⟨m, 0, none⟩), .int .i64 x, .int .i64 kind, .slice Ai ni ci] W fun e w' => ∃ A n c, e = .returned (.agg #[.slice A n c, .int .i64 (wrE11 q x kind li)]) ∧ Hid (Ints w' A n c (atL x (wrE11 q x kind li)) ∧ Newer W.heap.size A ∧ RAImg w' base p m B v (x :: fr) u (blks (wrL11 L q x kind li) q) ∧ W.grownBy w' v.ownBlock)) := fun W hW => by
    have hl := h.later hW.bel
    refine (ref11Write_anyN x kind hl.ri hL (hB.below hW.bel)).mono ?_
    rintro e w' ⟨f, h1, ⟨A, n, c, h2, h3, h4⟩, h5, h6, h7⟩
    exact ⟨A, n, c, by rw [h1, h2]; rfl, h3, h4, ⟨hl.ra.grown h6 (fun k e => (h.own k e).2), h5, h.mlt, h.own⟩, h6⟩
  have HB1 := Lib.hid hX
  have HWB : Hid (wrE11 q x kind li ≠ 0 → wrL11 L q x kind li = L) := fun h => wrL11_bad h
  have HOW := Lib.hid h.own
  have HPZ : Hid (w.heap.size = p → False) := fun e => by omega
  have HBS : Hid (base ≤ w.heap.size) := by have := h.ra.1; show _ ≤ _; omega
  have TK : Hid (∀ W M, RAImg W base p m B v (x :: fr) u M → Calls Tryz.prog 65 #[.pointer (some ⟨p, 0, none⟩)] W fun e w' => e = .returned (.tuple #[.int .i64 x, .agg #[.slice none 0 0, .int .i64 0]]) ∧ Hid (RAImg w' base p m B v fr (u + 1) M ∧ W.grownBy w' (some p))) := fun W M hW => (refTake_some16 hW.ra hu).mono fun e w' ⟨h1, h2, h3⟩ => ⟨h1, ⟨h2, hW.ri.mov (h3.block m hW.ri.plt (fun e => by injection e with e; have := hW.mlt; have := hW.ra.1; omega)) (fun k e => h3.block k (hW.ri.own_of k e).2 (fun e2 => by injection e2 with e2; have := hW.own k e; have := hW.ra.1; omega)), hW.mlt, hW.own⟩, h3⟩
  obtain ⟨hc1, hc2⟩ := hcap
  clear h hX hB hL hu
  generalize wrE11 q x kind li = xe at *
  generalize wrL11 L q x kind li = L2 at *
  generalize fr.length = nf at *
  simp only [rf]
  have hnz : ¬ ((nf : Int) + 1 = 0) := by omega
  have hnz2 : ((nf : Int) + 1 == 0) = false := by simp; omega
  obtain ⟨⟨k0, k1⟩, k2⟩ := HC.out w0 (Fr2.of_below HB1.out.bel _ _)
  go_enter Tryz.func37, Tryz.ntmps37
  go_upto_region 3 with fail
  go_cut [8] (fun s8 wx => ∃ b A n c, s8 = .pointer (some ⟨b, 0, none⟩) ∧ Hid (Ly16 w wx w.heap.size b base p m B v (x :: fr) u (blks L2 q) A n c x xe))
  case first =>
    have HA := Lib.hid (HB1.out.later (Below.refl _ _).drew)
    have HB := Lib.hid (HB1.out.later ((Below.refl _ _).alloc (Nat.le_refl _) (.cells #[.slice none 0 0, .int .i64 0] 33)).drew)
    have HV := Lib.hid (FltAt.new w0 (.slice none 0 0) (.int .i64 0))
    have HW0 : Hid (∀ k, v.ownBlock = some k → k = w0.heap.size → False) := fun k e e2 => by have := HOW.out k e; have := HH.out.ra.1; have := hplt; have := HB1.out.bel.size; omega
    have hkd := HC.out w0.drew (Fr2.of_below HA.out.bel _ _)
    obtain ⟨⟨kd0, kd1⟩, kd2⟩ := hkd
    have hq2 : w0.heap.size ≠ p := by have := cell_lt k0; simp at this; omega
    have hq3 : w0.heap.size ≠ b := by have := cell_lt k2; simp at this; omega
    go_region_held3 (fun W => (W.cell? ⟨p, 0, none⟩ = some (.pointer (some ⟨m, 0, none⟩)) ∧ W.cell? ⟨p, 1, none⟩ = some (.slice (some ⟨b, off, none⟩) (nf + 1) c)) ∧ W.cell? ⟨b, off, none⟩ = some (.int .i64 x))
      (first | exact ⟨⟨kd0, kd1⟩, kd2⟩ | go_keep)
      (first
      | (go_at_call 64; (with_reducible refine (WR.out _ HA.out).mono ?_); rintro e w2 ⟨A5, n5, c5, rfl, HX⟩; have hcc := HC.out _ (Fr2.trans (Fr2.of_below HA.out.bel _ _) (Fr2.of_one HX.out.2.2.2 _)))
      | (go_at_call 64; (with_reducible refine (WR.out _ HB.out).mono ?_); rintro e w2 ⟨A5, n5, c5, rfl, HX⟩; have hcc := HC.out _ (Fr2.trans (Fr2.of_below HB.out.bel _ _) (Fr2.of_one HX.out.2.2.2 _)); have hV2 : FltAt w2 w0.heap.size (.slice none 0 0) (.int .i64 0) := (HX.out.2.2.2.block _ (block_lt HV.out) (fun e => HW0.out _ e.symm rfl)).trans HV.out; obtain ⟨⟨z0, z1⟩, z2, z3⟩ := hV2.cs; have HV2 := Lib.hid hV2; clear hV2))
    · have HF := Lib.hid (Ly16.made (no := x) HA.out HX.out.1 HX.out.2.1 HX.out.2.2.1 HX.out.2.2.2 HBS.out)
      clear HX hcc
      go_wp2_with fail
      go_meet
      exact ⟨_, A5, n5, c5, rfl, HF⟩
    · have HF := Lib.hid (Ly16.fill (no := x) HB.out HV2.out (by simp) (block_lt HB1.out.flt) (Nat.lt_trans hplt (block_lt HB1.out.flt)) HX.out.1 HX.out.2.1 HX.out.2.2.1 HX.out.2.2.2 HBS.out)
      clear HX hcc
      go_wp2_with fail
      go_meet
      exact ⟨_, A5, n5, c5, rfl, HF⟩
  case rest =>
    obtain ⟨g, A5, n5, c5, rfl, hY⟩ := hcut
    have hYd := hY.out.drew
    obtain ⟨⟨f0, f1⟩, _, _⟩ := hY.out.flt.cs
    obtain ⟨⟨r0, r1⟩, r2, r3⟩ := hY.out.res.cs
    obtain ⟨⟨f0d, f1d⟩, _, _⟩ := hYd.flt.cs
    obtain ⟨⟨r0d, r1d⟩, r2d, r3d⟩ := hYd.res.cs
    have HYD := Lib.hid hYd
    by_cases hx : xe = 0
    · subst hx
      have hd : ((0 : Int) != 0) = false := rfl
      clear hYd HYD f0d f1d r0d r1d r2d r3d
      go_wp2_with (go_at_call 65; (with_reducible refine (TK.out _ _ hY.out.rai).mono ?_); rintro e w4 ⟨rfl, hT⟩; have hR4 : FltAt w4 w.heap.size (.slice none 0 0) (.int .i64 0) := (hT.out.2.block _ (block_lt hY.out.res) (fun e => HPZ.out (by injection e))).trans hY.out.res; obtain ⟨⟨s0, s1⟩, s2, s3⟩ := hR4.cs; have HR4 := Lib.hid hR4; clear hR4)
      refine bodyPost_ret (blk_resT Tryz.results37 _ _ rfl (HR4.out.store _ _).load) rfl ?_
      exact ⟨rfl, hT.out.1.two hplt _ _, (Fr2.of_two hY.out.gr hT.out.2).two (Nat.le_refl _) _ _⟩
    · have hd : (xe != 0) = true := by simpa using hx
      have HX := Lib.hid hx
      clear hx hYd
      go_wp2
      go_region
      all_goals go_wp2
      all_goals refine bodyPost_ret (blk_resT Tryz.results37 _ _ rfl ((hY.out.res.store _ _).later (Below.refl _ _).drew).load) rfl ?_
      all_goals have HY2 := hY.out
      all_goals rw [HWB.out HX.out] at HY2
      all_goals exact .inl ⟨HX.out, A5, n5, c5, rfl, (HY2.fin HX.out hplt).1, HY2.new.mono (Nat.le_succ _), (HY2.fin HX.out hplt).2⟩
end
end Go.Proofs.YtnjlganofjkpfaaGreatDoor

/-
  Layer 16: one step of either side, told by one answer.
-/
namespace Go.Proofs.YtnjlganofjkpfaaGreatDoor
open Go.RowKit
set_option linter.unusedVariables false
set_option linter.unusedSimpArgs false

/-- what a step answers, and what it leaves: a block, the blocks of its error, its code; how many are taken, the image -/
structure Out16 where
  no : Int
  bl : List Int
  x : Int
  t : Nat
  L : List UInt8
def out16 (q : Nat) (l : List Int) (nx : Bool) (kind : Int) (li : List UInt8) (t : Nat) (L : List UInt8) : Out16 :=
  if l.length ≤ t then ⟨0, [], 14, t, L⟩
  else if nx = true then ⟨l.getD t 0, [], 0, t + 1, L⟩
  else if wrE11 q (l.getD t 0) kind li ≠ 0 then ⟨0, [l.getD t 0], wrE11 q (l.getD t 0) kind li, t, L⟩
  else ⟨l.getD t 0, [], 0, t + 1, wrL11 L q (l.getD t 0) kind li⟩
section
variable {q : Nat} {l : List Int} {nx : Bool} {kind : Int} {li : List UInt8} {t : Nat} {L : List UInt8}
theorem out16_none (h : l.length ≤ t) : out16 q l nx kind li t L = ⟨0, [], 14, t, L⟩ := by rw [out16, if_pos h]
theorem out16_next (h : t < l.length) : out16 q l true kind li t L = ⟨l.getD t 0, [], 0, t + 1, L⟩ := by rw [out16, if_neg (by omega), if_pos rfl]
theorem out16_length (h : L.length = q * 256) : (out16 q l nx kind li t L).L.length = q * 256 := by
  unfold out16
  split
  · exact h
  · split
    · exact h
    · split
      · exact h
      · exact wrL11_length h
theorem drop16 (h : t < l.length) : l.drop t = l.getD t 0 :: l.drop (t + 1) := by
  rw [List.drop_eq_getElem_cons h]
  simp [List.getD_eq_getElem?_getD, h]
end

/-- an error, as the program has it: the blocks that it tells of, its code -/
def ErrD16 (w : World) (v : Value) (bl : List Int) (x : Int) : Prop :=
  (x = 0 ∧ bl = [] ∧ v = .nilIface) ∨ ∃ nd l, v = val (nd :: l) ∧ Good w (nd :: l) ∧ codeOf (nd :: l) = x ∧ blocksOf (nd :: l) = bl ∧ (nd :: l).length ≤ 1000000
theorem ErrD16.below {w w' : World} {v : Value} {bl : List Int} {x : Int} (h : ErrD16 w v bl x) (hb : Below w.heap.size w w') : ErrD16 w' v bl x := by
  rcases h with h | ⟨nd, l, h1, h2, h3⟩
  · exact .inl h
  · exact .inr ⟨nd, l, h1, h2.below hb, h3⟩
theorem ErrD16.keep {w w' : World} {v : Value} {bl : List Int} {x : Int} (h : ErrD16 w v bl x) (hk : Keeps w w') : ErrD16 w' v bl x := by
  rcases h with h | ⟨nd, l, h1, h2, h3⟩
  · exact .inl h
  · exact .inr ⟨nd, l, h1, h2.same hk, h3⟩
theorem ErrD16.nil (w : World) : ErrD16 w .nilIface [] 0 := .inl ⟨rfl, rfl, rfl⟩
theorem ErrD16.num (w : World) (x : Int) : ErrD16 w (.iface 40 (.int .i64 x)) [] x := .inr ⟨.num x, [], rfl, rfl, rfl, rfl, by simp⟩
theorem ErrD16.at_ {w : World} {v : Value} {no x : Int} (h : ErrAt w v no x) (hx : x ≠ 0) : ErrD16 w v [no] x := by
  rcases h with ⟨h, _⟩ | ⟨_, p, h1, h2⟩
  · exact absurd h hx
  · exact .inr ⟨.flt no p, [.num x], h1, h2, rfl, rfl, by simp⟩
theorem ErrD16.told {w : World} {v : Value} {bl : List Int} {x : Int} (h : ErrD16 w v bl x) (hg : ErrT w) :
    Calls Tryz.prog 14 #[v] w fun e w' => ∃ A n c, e = .returned (.agg #[.slice A n c, .int .i64 x]) ∧ Ints w' A n c bl ∧ Below w.heap.size w w' := by
  rcases h with ⟨rfl, rfl, rfl⟩ | ⟨nd, l, rfl, h2, rfl, rfl, h3⟩
  · exact (Told_nil w).mono fun e w' ⟨h1, h2⟩ => ⟨none, 0, 0, h1, Ints.nil _, h2⟩
  · exact Told_err h2 hg h3

section
variable {w : World} {base p m B g : Nat} {A : Option Addr} {n c : Nat} {l : List Int} {t q : Nat} {L : List UInt8}
theorem Next_out16 (kind : Int) (li : List UInt8) (h : AImg w base p m B g A n c l t L) :
    Calls Tryz.prog 91 #[.pointer (some ⟨p, 0, none⟩)] w fun e w' => ∃ gv, e = .returned (.tuple #[.int .i64 (out16 q l true kind li t L).no, gv]) ∧ ErrD16 w' gv (out16 q l true kind li t L).bl (out16 q l true kind li t L).x ∧ AImg w' base p m B g A n c l (out16 q l true kind li t L).t (out16 q l true kind li t L).L ∧ Fr2 w w' (some g) (some p) := by
  have hl := h.alc.ints.len
  have hle := h.alc.le
  by_cases ht : t < n
  · rw [out16_next (by omega)]
    exact (h.next ht).mono fun e w' ⟨h1, h2, h3⟩ => ⟨_, h1, ErrD16.nil _, h2, (Fr2.of_one h3 _).swap⟩
  · rw [out16_none (by omega)]
    exact (Next_none16 h.alc (by omega)).mono fun e w' ⟨h1, h2⟩ => ⟨_, h1, ErrD16.num _ _, h.later h2, Fr2.of_below h2 _ _⟩
end

section
variable {w : World} {base p m B : Nat} {v : Value} {l : List Int} {t q : Nat} {L : List UInt8}
end
end Go.Proofs.YtnjlganofjkpfaaGreatDoor

/-
  Layer 16: the document's example.
-/
namespace Go.Proofs.YtnjlganofjkpfaaGreatDoor
open Go.RowKit
set_option linter.unusedVariables false
set_option linter.unusedSimpArgs false

abbrev live16Z : List UInt8 := List.replicate 768 0
/-- all below as it was; the example's allocator -/
structure Lv16 (w W : World) (base p m g : Nat) (A : Option Addr) (c : Nat) (t : Nat) : Prop where
  bel : Below w.heap.size w W
  ai : AImg W base p m w.heap.size g A 2 c [1, 2] t live16Z
  low : w.heap.size ≤ base
theorem Lv16.later {w W W' : World} {base p m g : Nat} {A : Option Addr} {c t : Nat} (h : Lv16 w W base p m g A c t) (hb : Below W.heap.size W W') : Lv16 w W' base p m g A c t := ⟨h.bel.trans (hb.mono h.bel.size), h.ai.later hb, h.low⟩

section
variable {w : World}
end

end Go.Proofs.YtnjlganofjkpfaaGreatDoor

/-
  Layer 16: both sides in one world: made, stepped, asked.
-/
namespace Go.Proofs.YtnjlganofjkpfaaGreatDoor
open Go.RowKit
set_option linter.unusedVariables false
set_option linter.unusedSimpArgs false

/-- blocks of other kinds than what either side writes stand as they stood -/
def Kp16 (W W' : World) : Prop := ∀ (k : Nat) (c : Array Value) (T : TypeId), W.heap[k]? = some (Obj.cells c T (0, 0)) → T ≠ 85 → T ≠ 5 → T ≠ 9 → T ≠ 48 → W'.heap[k]? = W.heap[k]?
theorem Kp16.keeps {W W' : World} (h : Kp16 W W') : Keeps W W' := fun p c e => (h p c _ e (by decide) (by decide) (by decide) (by decide)).trans e
theorem Kp16.flt {W W' : World} {b : Nat} {x y : Value} (h : Kp16 W W') (hf : FltAt W b x y) : FltAt W' b x y := (h b _ _ hf (by decide) (by decide) (by decide) (by decide)).trans hf
theorem Kp16.trans {a b c : World} (h : Kp16 a b) (k : Kp16 b c) : Kp16 a c := fun i x T e h1 h2 h3 h4 => (k i x T ((h i x T e h1 h2 h3 h4).trans e) h1 h2 h3 h4).trans (h i x T e h1 h2 h3 h4)
theorem Kp16.of_below {W W' : World} (h : Below W.heap.size W W') : Kp16 W W' := fun k c T e _ _ _ _ => h.block k (block_lt e)
theorem Fr2.kp {W W' : World} {r1 r2 : Option Nat} (h : Fr2 W W' r1 r2) (h1 : ∀ k, r1 = some k → ∃ c T, W.heap[k]? = some (Obj.cells c T (0, 0)) ∧ (T = 85 ∨ T = 5 ∨ T = 9 ∨ T = 48))
    (h2 : ∀ k, r2 = some k → ∃ c T, W.heap[k]? = some (Obj.cells c T (0, 0)) ∧ (T = 85 ∨ T = 5 ∨ T = 9 ∨ T = 48)) : Kp16 W W' := fun k c T e a1 a2 a3 a4 => by
  have no : ∀ c' T', W.heap[k]? = some (Obj.cells c' T' (0, 0)) → (T' = 85 ∨ T' = 5 ∨ T' = 9 ∨ T' = 48) → False := fun c' T' e' ht => by
    rw [e] at e'
    injection e' with e'
    injection e' with _ e2 _
    subst e2
    rcases ht with ht | ht | ht | ht
    · exact a1 ht
    · exact a2 ht
    · exact a3 ht
    · exact a4 ht
  refine h.block k (block_lt e) (fun hr => ?_) (fun hr => ?_)
  · obtain ⟨c', T', e', ht⟩ := h1 k hr.symm
    exact no c' T' e' ht
  · obtain ⟨c', T', e', ht⟩ := h2 k hr.symm
    exact no c' T' e' ht

theorem RAlc.fr2 {w w' : World} {base p m : Nat} {fr : List Int} {u : Nat} {r1 r2 : Option Nat} (h : RAlc w base p m fr u) (hk : Fr2 w w' r1 r2) (h1 : ∀ k, r1 = some k → k < base) (h2 : ∀ k, r2 = some k → k < base) : RAlc w' base p m fr u := by
  have hp := h.plt
  obtain ⟨h0, A, c, g1, g2, g3⟩ := h
  refine ⟨h0, A, c, (hk.block p hp (fun e => by have := h1 p e.symm; omega) (fun e => by have := h2 p e.symm; omega)).trans g1, ⟨g2.len, g2.cap, g2.most, fun k v e => ?_⟩, g3⟩
  obtain ⟨ad, ea, hc⟩ := g2.row k v e
  refine ⟨ad, ea, ?_⟩
  have hbk : (ad.add k).block = ad.block := addr_add_block ad k
  have := (g3 ad ea).1
  exact (World.cell?_of_block (w := w) (hk.block _ (cell_lt hc) (fun e => by have := h1 _ e.symm; omega) (fun e => by have := h2 _ e.symm; omega))).trans hc
theorem Alc.fr2 {w w' : World} {base p m : Nat} {A : Option Addr} {n c : Nat} {l : List Int} {t : Nat} {r1 r2 : Option Nat} (h : Alc w base p m A n c l t) (hk : Fr2 w w' r1 r2) (h1 : ∀ k, r1 = some k → k < base ∨ p < k) (h2 : ∀ k, r2 = some k → k < base ∨ p < k) : Alc w' base p m A n c l t := by
  have hp := h.plt
  have hb := h.bp
  refine ⟨h.bp, (hk.block p hp (fun e => by have := h1 p e.symm; omega) (fun e => by have := h2 p e.symm; omega)).trans h.hp, ⟨h.ints.len, h.ints.cap, h.ints.most, fun k v e => ?_⟩, h.le, h.low⟩
  obtain ⟨ad, ea, hc⟩ := h.ints.row k v e
  refine ⟨ad, ea, ?_⟩
  have hbk : (ad.add k).block = ad.block := addr_add_block ad k
  have := h.low ad ea
  exact (World.cell?_of_block (w := w) (hk.block _ (cell_lt hc) (fun e => by have := h1 _ e.symm; omega) (fun e => by have := h2 _ e.symm; omega))).trans hc

/-- both sides: the program's with t taken of l and the image L, the document's with t2 and L2 -/
structure Plb16 (w W : World) (q : Nat) (l : List Int) (p m p2 m2 t : Nat) (L : List UInt8) (t2 : Nat) (L2 : List UInt8) (lo base g : Nat) (A : Option Addr) (n c base2 : Nat) (v : Value) : Prop where
  bel : Below w.heap.size w W
  ai : AImg W base p m w.heap.size g A n c l t L
  ri : RAImg W base2 p2 m2 w.heap.size v (l.drop t2) t2 (blks L2 q)
  len : L.length = q * 256
  len2 : L2.length = q * 256
  hm : m < m2
  hg : g < m2
  ht : m2 < base
  own : ∀ k, v.ownBlock = some k → m2 < k ∧ k < base
  hp : p < base2
  lo : lo ≤ base
  few : l.length ≤ 1000000
  te : t2 ≤ 1000000
def Pl16 (w W : World) (q : Nat) (l : List Int) (p m p2 m2 t : Nat) (L : List UInt8) (t2 : Nat) (L2 : List UInt8) (lo : Nat) : Prop := ∃ base g A n c base2 v, Plb16 w W q l p m p2 m2 t L t2 L2 lo base g A n c base2 v
section
variable {w W W' : World} {q : Nat} {l : List Int} {p m p2 m2 t : Nat} {L : List UInt8} {t2 : Nat} {L2 : List UInt8} {lo : Nat}
theorem Pl16.later (h : Pl16 w W q l p m p2 m2 t L t2 L2 lo) (hb : Below W.heap.size W W') : Pl16 w W' q l p m p2 m2 t L t2 L2 lo := by
  obtain ⟨base, g, A, n, c, base2, v, h⟩ := h
  exact ⟨base, g, A, n, c, base2, v, ⟨h.bel.trans (hb.mono h.bel.size), h.ai.later hb, h.ri.later hb, h.len, h.len2, h.hm, h.hg, h.ht, h.own, h.hp, h.lo, h.few, h.te⟩⟩
theorem Pl16.bel (h : Pl16 w W q l p m p2 m2 t L t2 L2 lo) : Below w.heap.size w W := by
  obtain ⟨base, g, A, n, c, base2, v, h⟩ := h
  exact h.bel
theorem Pl16.le (h : Pl16 w W q l p m p2 m2 t L t2 L2 lo) : t ≤ l.length := by
  obtain ⟨base, g, A, n, c, base2, v, h⟩ := h
  rw [h.ai.alc.ints.len]
  exact h.ai.alc.le
/-- the program has stepped -/
theorem Plb16.prog {base g : Nat} {A : Option Addr} {n c base2 : Nat} {v : Value} {t' : Nat} {L' : List UInt8} (h : Plb16 w W q l p m p2 m2 t L t2 L2 lo base g A n c base2 v) (ha : AImg W' base p m w.heap.size g A n c l t' L') (hL : L'.length = q * 256) (hf : Fr2 W W' (some g) (some p)) :
    Plb16 w W' q l p m p2 m2 t' L' t2 L2 lo base g A n c base2 v ∧ Kp16 W W' := by
  have hbp := h.ai.alc.bp
  have hg1 := h.hg
  have hp1 := h.hp
  have ht1 := h.ht
  have hwg := h.ai.img.bg
  have hwp := h.ai.img.bp
  have hm1 := h.hm
  have hmp := h.ri.ri.plt
  refine ⟨⟨?_, ha, ⟨h.ri.ra.fr2 hf (fun k e => by injection e; omega) (fun k e => by injection e; omega), h.ri.ri.mov (hf.block _ hmp (fun e => by injection e; omega) (fun e => by injection e; omega)) (fun k e => ?_), h.ri.mlt, h.ri.own⟩, hL, h.len2, h.hm, h.hg, h.ht, h.own, h.hp, h.lo, h.few, h.te⟩, ?_⟩
  · exact h.bel.trans ⟨hf.os, hf.tape, hf.output, hf.size, fun k hk => hf.block k (by have := h.bel.size; omega) (fun e => by injection e; omega) (fun e => by injection e; omega)⟩
  · have := h.own k e
    exact hf.block k (h.ri.ri.own_of k e).2 (fun e => by injection e; omega) (fun e => by injection e; omega)
  · exact hf.kp (fun k e => by injection e with e; subst e; exact ⟨_, _, h.ai.img.hg, by simp⟩) (fun k e => by injection e with e; subst e; exact ⟨_, _, h.ai.alc.hp, by simp⟩)
/-- the document has stepped -/
theorem Plb16.ref {base g : Nat} {A : Option Addr} {n c base2 : Nat} {v : Value} {t' : Nat} {L' : List UInt8} (h : Plb16 w W q l p m p2 m2 t L t2 L2 lo base g A n c base2 v) (ha : RAImg W' base2 p2 m2 w.heap.size v (l.drop t') t' (blks L' q)) (hL : L'.length = q * 256) (ht' : t' ≤ 1000000) (hf : Fr2 W W' v.ownBlock (some p2)) :
    Plb16 w W' q l p m p2 m2 t L t' L' lo base g A n c base2 v ∧ Kp16 W W' := by
  have hbp := h.ai.alc.bp
  have hg1 := h.hg
  have hp1 := h.hp
  have ht1 := h.ht
  have hwg := h.ai.img.bg
  have hwp := h.ai.img.bp
  have hm1 := h.hm
  have hb2 := h.ri.ra.1
  refine ⟨⟨?_, ⟨h.ai.alc.fr2 hf (fun k e => .inl (h.own k e).2) (fun k e => by injection e; omega), ?_, h.ai.mlt, h.ai.glt⟩, ha, h.len, hL, h.hm, h.hg, h.ht, h.own, h.hp, h.lo, h.few, ht'⟩, ?_⟩
  · exact h.bel.trans ⟨hf.os, hf.tape, hf.output, hf.size, fun k hk => hf.block k (by have := h.bel.size; omega) (fun e => by have := h.own k e.symm; omega) (fun e => by injection e; omega)⟩
  · refine ⟨h.ai.img.bp, h.ai.img.bg, h.ai.img.ne, (hf.block m h.ai.img.plt (fun e => by have := h.own m e.symm; omega) (fun e => by injection e; omega)).trans h.ai.img.hp, (hf.block g h.ai.img.glt (fun e => by have := h.own g e.symm; omega) (fun e => by injection e; omega)).trans h.ai.img.hg, h.ai.img.most⟩
  · refine hf.kp (fun k e => ?_) (fun k e => by injection e with e; subst e; obtain ⟨_, A2, c2, g1, _⟩ := h.ri.ra; exact ⟨_, _, g1, by simp⟩)
    rcases h.ri.ri.own.2 with ⟨hv, _⟩ | ⟨g2, cap, cur, hv, _, hh, _⟩
    · rw [hv] at e; cases e
    · rw [hv] at e
      have e : some g2 = some k := e
      injection e with e
      subst e
      exact ⟨_, _, hh, by simp⟩

theorem Pl16.next (kind : Int) (li : List UInt8) (h : Pl16 w W q l p m p2 m2 t L t2 L2 lo) :
    Calls Tryz.prog 91 #[.pointer (some ⟨p, 0, none⟩)] W fun e w' => ∃ gv, e = .returned (.tuple #[.int .i64 (out16 q l true kind li t L).no, gv]) ∧ ErrD16 w' gv (out16 q l true kind li t L).bl (out16 q l true kind li t L).x ∧ Pl16 w w' q l p m p2 m2 (out16 q l true kind li t L).t (out16 q l true kind li t L).L t2 L2 lo ∧ Kp16 W w' := by
  obtain ⟨base, g, A, n, c, base2, v, h⟩ := h
  refine (Next_out16 (q := q) kind li h.ai).mono ?_
  rintro e w' ⟨gv, h1, h2, h3, h4⟩
  obtain ⟨h5, h6⟩ := h.prog h3 (out16_length h.len) h4
  exact ⟨gv, h1, h2, ⟨base, g, A, n, c, base2, v, h5⟩, h6⟩
/-! what is asked -/
theorem Pl16.left (h : Pl16 w W q l p m p2 m2 t L t2 L2 lo) : Calls Tryz.prog 21 #[.pointer (some ⟨p, 0, none⟩)] W fun e w' => e = .returned (.int .i64 ((l.drop t).length : Int)) ∧ Below W.heap.size W w' := by
  obtain ⟨base, g, A, n, c, base2, v, h⟩ := h
  have e : (l.drop t).length = n - t := by rw [List.length_drop, h.ai.alc.ints.len]
  rw [e]
  exact Left_yes16 h.ai.alc
theorem Pl16.used (h : Pl16 w W q l p m p2 m2 t L t2 L2 lo) : Calls Tryz.prog 15 #[.pointer (some ⟨p, 0, none⟩)] W fun e w' => e = .returned (.int .i64 (t : Int)) ∧ W = w' := by
  obtain ⟨base, g, A, n, c, base2, v, h⟩ := h
  exact Used_yes16 h.ai.alc
theorem Pl16.image (h : Pl16 w W q l p m p2 m2 t L t2 L2 lo) : Calls Tryz.prog 16 #[.pointer (some ⟨p, 0, none⟩)] W fun e w' => e = .returned (.pointer (some ⟨m, 0, none⟩)) ∧ W = w' := by
  obtain ⟨base, g, A, n, c, base2, v, h⟩ := h
  exact Image_yes16 h.ai.alc
theorem Pl16.cells (h : Pl16 w W q l p m p2 m2 t2 L2 t L lo) : ∃ A c, ∀ W', Below W.heap.size W W' → W'.cell? ⟨p2, 1, none⟩ = some (.slice A (l.drop t).length c) ∧ W'.cell? ⟨p2, 2, none⟩ = some (.int .i64 (t : Int)) := by
  obtain ⟨base, g, A, n, c, base2, v, h⟩ := h
  have hp := h.ri.ra.plt
  obtain ⟨_, A2, c2, g1, g2, _⟩ := h.ri.ra
  refine ⟨A2, c2, fun W' hb => ?_⟩
  obtain ⟨k0, k1, k2, _⟩ := RAlc.cells ((hb.block p2 hp).trans g1)
  exact ⟨k1, k2⟩
theorem Pl16.bytes (h : Pl16 w W q l p m p2 m2 t L t2 L2 lo) : Calls Tryz.prog 17 #[.pointer (some ⟨m, 0, none⟩)] W fun e w' => ∃ A, e = .returned (.slice A L.length L.length) ∧ Bytes8 w' A L.length L.length L ∧ Below W.heap.size W w' := by
  obtain ⟨base, g, A, n, c, base2, v, h⟩ := h
  exact Bytes_img W h.ai.img
theorem Pl16.rbytes (h : Pl16 w W q l p m p2 m2 t2 L2 t L lo) : Calls Tryz.prog 18 #[.pointer (some ⟨m2, 0, none⟩)] W fun e w' => ∃ A c, e = .returned (.slice A L.length c) ∧ Bytes8 w' A L.length c L ∧ Below W.heap.size W w' := by
  obtain ⟨base, g, A, n, c, base2, v, h⟩ := h
  have hm := h.ai.img.most
  rw [h.len] at hm
  have := refBytes_any W h.ri.ri (by rw [blks_flatten _ _ h.len2, h.len2]; exact hm)
  rw [blks_flatten _ _ h.len2] at this
  exact this
end
end Go.Proofs.YtnjlganofjkpfaaGreatDoor

/-
  Layer 16: both allocators made.
-/
namespace Go.Proofs.YtnjlganofjkpfaaGreatDoor
open Go.RowKit
set_option linter.unusedVariables false
set_option linter.unusedSimpArgs false

/-- both images; what is theirs lies below top -/
structure Im16 (w W : World) (top m g m2 : Nat) (v : Value) (q : Nat) (L : List UInt8) : Prop where
  bel : Below w.heap.size w W
  img : Img W w.heap.size m g L
  ref : RImg W w.heap.size m2 v (blks L q)
  hm : m < m2
  hg : g < m2
  ht : m2 < top
  own : ∀ k, v.ownBlock = some k → m2 < k ∧ k < top
  tp : top ≤ W.heap.size
  len : L.length = q * 256
section
variable {w W W' : World} {top m g m2 : Nat} {v : Value} {q : Nat} {L : List UInt8}
theorem Im16.later (h : Im16 w W top m g m2 v q L) (hb : Below W.heap.size W W') : Im16 w W' top m g m2 v q L := ⟨h.bel.trans (hb.mono h.bel.size), h.img.later hb, h.ref.later hb, h.hm, h.hg, h.ht, h.own, Nat.le_trans h.tp hb.size, h.len⟩
theorem Im16.two {b : Nat} (h : Im16 w W top m g m2 v q L) (hb : top ≤ b) (x y : Value) : Im16 w ((W.setCell ⟨b, 0, none⟩ x).setCell ⟨b, 1, none⟩ y) top m g m2 v q L := by
  have hk : ∀ k, k ≠ b → ((W.setCell ⟨b, 0, none⟩ x).setCell ⟨b, 1, none⟩ y).heap[k]? = W.heap[k]? := fun k hk => by
    rw [heap_setCell_other _ _ k _ hk, heap_setCell_other _ _ k _ hk]
  have h1 := h.hm
  have h2 := h.hg
  have h3 := h.ht
  have h4 := h.ref.bp
  refine ⟨below_store2 h.bel (by omega) _ _, ⟨h.img.bp, h.img.bg, h.img.ne, (hk m (by omega)).trans h.img.hp, (hk g (by omega)).trans h.img.hg, h.img.most⟩, h.ref.mov (hk m2 (by omega)) (fun k e => hk k (by have := h.own k e; omega)), h.hm, h.hg, h.ht, h.own, by simpa [World.setCell] using h.tp, h.len⟩
end

/-- the program's allocator made, or its error -/
def Mk16 (w W : World) (top m g m2 : Nat) (v : Value) (q : Nat) (L : List UInt8) (lo : Nat) (x : Int) (li : List Int) (va ve : Value) : Prop :=
  Im16 w W top m g m2 v q L ∧ ((x ≠ 0 ∧ va = .pointer none ∧ ve = .iface 40 (.int .i64 x)) ∨
    (x = 0 ∧ ve = .nilIface ∧ ∃ base p A n c, va = .pointer (some ⟨p, 0, none⟩) ∧ Alc W base p m A n c li 0 ∧ lo ≤ base ∧ top ≤ base))
/-- both made, or both errors -/
def Ns16 (w W : World) (top m g m2 : Nat) (v : Value) (q : Nat) (L : List UInt8) (lo : Nat) (x : Int) (li : List Int) (va ve va2 : Value) : Prop :=
  Im16 w W top m g m2 v q L ∧ ((x ≠ 0 ∧ va = .pointer none ∧ ve = .iface 40 (.int .i64 x) ∧ va2 = .pointer none) ∨
    (x = 0 ∧ ve = .nilIface ∧ ∃ p p2, va = .pointer (some ⟨p, 0, none⟩) ∧ va2 = .pointer (some ⟨p2, 0, none⟩) ∧ Pl16 w W q li p m p2 m2 0 L 0 L lo))
section
variable {w W W' : World} {top m g m2 : Nat} {v : Value} {q : Nat} {L : List UInt8} {lo : Nat} {x : Int} {li : List Int} {va ve va2 : Value}
theorem Ns16.later (h : Ns16 w W top m g m2 v q L lo x li va ve va2) (hb : Below W.heap.size W W') : Ns16 w W' top m g m2 v q L lo x li va ve va2 := by
  refine ⟨h.1.later hb, ?_⟩
  rcases h.2 with h2 | ⟨h2, h3, p, p2, h4, h5, h6⟩
  · exact .inl h2
  · exact .inr ⟨h2, h3, p, p2, h4, h5, h6.later hb⟩
theorem Ns16.two {b : Nat} (h : Ns16 w W top m g m2 v q L lo x li va ve va2) (hb : top ≤ b) (hlo : b < lo) (y z : Value) : Ns16 w ((W.setCell ⟨b, 0, none⟩ y).setCell ⟨b, 1, none⟩ z) top m g m2 v q L lo x li va ve va2 := by
  refine ⟨h.1.two hb _ _, ?_⟩
  rcases h.2 with h2 | ⟨h2, h3, p, p2, h4, h5, base, g', A, n, c, base2, v', h6⟩
  · exact .inl h2
  · refine .inr ⟨h2, h3, p, p2, h4, h5, base, g', A, n, c, base2, v', ?_⟩
    have hv : v' = v := by
      have e1 := h.1.ref.hp
      rw [h6.ri.ri.hp] at e1
      injection e1 with e1
      injection e1 with e1 _ _
      simpa using e1
    subst hv
    have hk : ∀ k, k ≠ b → ((W.setCell ⟨b, 0, none⟩ y).setCell ⟨b, 1, none⟩ z).heap[k]? = W.heap[k]? := fun k hk => by
      rw [heap_setCell_other _ _ k _ hk, heap_setCell_other _ _ k _ hk]
    have hf : Fr2 W ((W.setCell ⟨b, 0, none⟩ y).setCell ⟨b, 1, none⟩ z) (some b) none := ⟨rfl, rfl, rfl, by simp [World.setCell], fun k _ h1 _ => hk k (fun e => h1 (by rw [e]))⟩
    have i1 := h.1.hm
    have i3 := h.1.ht
    have j1 := h6.hg
    have j2 := h6.lo
    have j3 := h6.hp
    have j4 := h6.ai.alc.bp
    have j5 := h6.hm
    have j6 := h.1.ref.bp
    refine ⟨below_store2 h6.bel (by omega) _ _, ⟨h6.ai.alc.fr2 hf (fun k e => by injection e; omega) (fun k e => by cases e), ⟨h6.ai.img.bp, h6.ai.img.bg, h6.ai.img.ne, (hk m (by omega)).trans h6.ai.img.hp, (hk g' (by omega)).trans h6.ai.img.hg, h6.ai.img.most⟩, h6.ai.mlt, h6.ai.glt⟩,
      ⟨h6.ri.ra.fr2 hf (fun k e => by injection e; omega) (fun k e => by cases e), h6.ri.ri.mov (hk m2 (by omega)) (fun k e => hk k (by have := h.1.own k e; omega)), h6.ri.mlt, h6.ri.own⟩, h6.len, h6.len2, h6.hm, h6.hg, h6.ht, h6.own, h6.hp, h6.lo, h6.few, h6.te⟩

/-- the document's allocator made behind the program's -/
theorem Ns16.made {p2 : Nat} (h : Mk16 w W top m g m2 v q L lo 0 li va ve) (hr : RAlc W' W.heap.size p2 m2 li 0) (hb : Below W.heap.size W W') (hf : li.length ≤ 1000000) : Ns16 w W' top m g m2 v q L lo 0 li va ve (.pointer (some ⟨p2, 0, none⟩)) := by
  refine ⟨h.1.later hb, ?_⟩
  rcases h.2 with ⟨h2, _⟩ | ⟨_, h3, base, p, A, n, c, h4, h5, h6, h7⟩
  · exact absurd rfl h2
  · have hp := h5.plt
    have i1 := h.1.hm
    have i2 := h.1.hg
    have i3 := h.1.ht
    have i4 := h.1.tp
    refine .inr ⟨rfl, h3, p, p2, h4, rfl, base, g, A, n, c, W.heap.size, v, ?_⟩
    have hi := h.1.later hb
    exact ⟨hi.bel, ⟨h5.later hb, hi.img, by omega, by omega⟩, ⟨by simpa using hr, hi.ref, by omega, fun k e => ⟨(h.1.own k e).1, by have := h.1.own k e; omega⟩⟩, h.1.len, h.1.len, h.1.hm, h.1.hg, by omega, fun k e => ⟨(h.1.own k e).1, by have := h.1.own k e; omega⟩, hp, h6, hf, by omega⟩
end

/-! ### what New and From answer -/
open Classical in
noncomputable def fromX16 (q : Nat) (l : List Int) : Int := if l.any (outR16 q) = true then 1 else if Rises16 l then 0 else 8
section
variable {w W : World} {top m g m2 : Nat} {v : Value} {q : Nat} {L : List UInt8}
theorem Im16.from_ {A : Option Addr} {n c : Nat} {l : List Int} (h : Im16 w W top m g m2 v q L) (hl : Ints W A n c l) (hn : n ≤ 100) : Calls Tryz.prog 44 #[.pointer (some ⟨m, 0, none⟩), .slice A n c] W fun e w' => ∃ va ve, e = .returned (.tuple #[va, ve]) ∧ Mk16 w w' top m g m2 v q L W.heap.size (fromX16 q l) l va ve ∧ Below W.heap.size W w' := by
  by_cases ho : l.any (outR16 q) = true
  · rw [fromX16, if_pos ho]
    refine (From_bad16 h.img h.len hl ho).mono ?_
    rintro e w' ⟨h1, h2⟩
    exact ⟨_, _, h1, ⟨h.later h2, .inl ⟨by decide, rfl, rfl⟩⟩, h2⟩
  · have ho' : l.any (outR16 q) = false := by simpa using ho
    by_cases hr : Rises16 l
    · rw [fromX16, if_neg ho, if_pos hr]
      refine (From_good16 h.img h.len hl ho' hr (by omega)).mono ?_
      rintro e w' ⟨p, A2, c2, h1, h2, h3⟩
      exact ⟨_, _, h1, ⟨h.later h3, .inr ⟨rfl, rfl, _, p, A2, _, c2, rfl, h2, Nat.le_refl _, h.tp⟩⟩, h3⟩
    · rw [fromX16, if_neg ho, if_neg hr]
      refine (From_order16 h.img h.len hl ho' hr).mono ?_
      rintro e w' ⟨h1, h2⟩
      exact ⟨_, _, h1, ⟨h.later h2, .inl ⟨by decide, rfl, rfl⟩⟩, h2⟩
end
end Go.Proofs.YtnjlganofjkpfaaGreatDoor

/-
  Layer 17: a node of a level is laid, on either side.
-/
namespace Go.Proofs.YtnjlganofjkpfaaGreatDoor
open Go.RowKit
set_option linter.unusedVariables false
set_option linter.unusedSimpArgs false

section
variable {q : Nat} {tree : Int} {leaf : Bool} {mm : Nat} {l : List Ent17} {bs : List Int} {t k : Nat} {L : List UInt8}
theorem bld_wr17 (hB : Bs17 q bs) (hL : L.length = q * 256) (hk : t + k < bs.length) (hr : rightN (nodB17 tree leaf mm l k) = true) : wrE11 q (bs.getD (t + k) 0) 2 (encNod (nodB17 tree leaf mm l k)) = 0 := by
  have hb := hB.low (t + k) hk
  exact (nod_written (L := L) (no := bs.getD (t + k) 0) hL hr (outB_not.2 ⟨by omega, hb.2⟩) (by have := hB.most; omega)).1

/-- the program's -/
theorem AImg.laid17 {w : World} {base p m B g : Nat} {A : Option Addr} {n c : Nat} {Ai : Option Addr} {ni ci : Nat} (h : AImg w base p m B g A n c bs (t + k) (levW17 q tree leaf mm l bs t k L)) (hB : Bs17 q bs) (hL : L.length = q * 256) (hk : t + k < bs.length) (hr : rightN (nodB17 tree leaf mm l k) = true) (hb : Bytes8 w Ai ni ci (encNod (nodB17 tree leaf mm l k))) :
    Calls Tryz.prog 72 #[.pointer (some ⟨p, 0, none⟩), .int .i64 2, .slice Ai ni ci] w fun e w' => e = .returned (.tuple #[.int .i64 (bs.getD (t + k) 0), .nilIface]) ∧ AImg w' base p m B g A n c bs (t + (k + 1)) (levW17 q tree leaf mm l bs t (k + 1) L) ∧ Fr2 w w' (some g) (some p) := by
  have hl := levW17_length (tree := tree) (leaf := leaf) (m := mm) (l := l) (bs := bs) (t := t) k L hL
  have hx := bld_wr17 hB hl hk hr
  have hn := h.alc.ints.len
  refine (Lay_good16 2 h hl (by omega) hb hx).mono ?_
  rintro e w' ⟨h1, h2, W, h3, h4⟩
  exact ⟨h1, h2, Fr2.of_two h3 h4⟩
/-- no block is left, or some are: how many -/
theorem AImg.left17 {w : World} {base p m B g : Nat} {A : Option Addr} {n c : Nat} (h : AImg w base p m B g A n c bs t L) : Calls Tryz.prog 21 #[.pointer (some ⟨p, 0, none⟩)] w fun e w' => e = .returned (.int .i64 ((bs.length - t : Nat) : Int)) ∧ Below w.heap.size w w' := by
  have hn := h.alc.ints.len
  rw [hn]
  exact Left_yes16 h.alc

/-- the reference's -/
theorem RAImg.laid17 {w : World} {base p m B : Nat} {v : Value} {Ai : Option Addr} {ni ci : Nat} (h : RAImg w base p m B v (bs.drop (t + k)) (t + k) (blks (levW17 q tree leaf mm l bs t k L) q)) (hB : Bs17 q bs) (hL : L.length = q * 256) (hk : t + k < bs.length) (hu : t + k ≤ 1000000) (hr : rightN (nodB17 tree leaf mm l k) = true) (hb : Bytes8 w Ai ni ci (encNod (nodB17 tree leaf mm l k))) :
    Calls Tryz.prog 37 #[.pointer (some ⟨p, 0, none⟩), .int .i64 2, .slice Ai ni ci] w fun e w' => e = .returned (.tuple #[.int .i64 (bs.getD (t + k) 0), rf none 0 0 0]) ∧ RAImg w' base p m B v (bs.drop (t + (k + 1))) (t + (k + 1)) (blks (levW17 q tree leaf mm l bs t (k + 1) L) q) ∧ Fr2 w w' v.ownBlock (some p) := by
  have hl := levW17_length (tree := tree) (leaf := leaf) (m := mm) (l := l) (bs := bs) (t := t) k L hL
  have hx := bld_wr17 hB hl hk hr
  rw [drop16 hk] at h
  refine (refLay_some16 2 h hl hb hu).mono ?_
  rintro e w' (⟨hne, _⟩ | ⟨_, h1, h2, h3⟩)
  · exact absurd hx hne
  · exact ⟨h1, h2, h3⟩
end

/-- the blocks of an allocator that New made -/
theorem seq17_bs {f q : Nat} (h1 : 1 ≤ f) (hq : q ≤ 14400) : Bs17 q (seq16 f q) := by
  refine ⟨fun i j hij hj => ?_, fun i hi => ?_, hq⟩
  · rw [seq16_length] at hj
    rw [seq16_getD (by omega), seq16_getD (by omega)]
    omega
  · rw [seq16_length] at hi
    rw [seq16_getD hi]
    omega
end Go.Proofs.YtnjlganofjkpfaaGreatDoor

/-
  Layer 17: part, lay.
-/
namespace Go.Proofs.YtnjlganofjkpfaaGreatDoor
open Go.RowKit
set_option linter.unusedVariables false
set_option linter.unusedSimpArgs false

theorem info_strv17 : (Tryz.prog.info? 9).map (fun i => (i.zero, i.size, i.bytes)) = some (some (.string ByteArray.empty), 1, 16) := by kernel_rfl
/-- an entry stands while a row of another type grows -/
theorem EntAt.grown {U w' : World} {p q : Nat} {k : Int} {s : ByteArray} {a : Int} {T : TypeId} {B n : Nat} {v x : Value} {xs : List Value} (h : EntAt U p k s a) (ho : U.ownsRow B T 1 v n xs) (hT : T ≠ 57) (hg : U.grownBy w' v.ownBlock) (hq : q ≠ p) (i : Nat) : EntAt (w'.setCell ⟨q, i, none⟩ x) p k s a := by
  have h1 : w'.heap[p]? = U.heap[p]? := hg.block p (block_lt h) (fun e => by
    obtain ⟨_, cur, hc⟩ := own_apart ho p e.symm
    rw [show U.heap[p]? = _ from h] at hc
    injection hc with hc
    injection hc with _ e2 _
    exact hT e2.symm)
  show (w'.setCell ⟨q, i, none⟩ x).heap[p]? = _
  rw [heap_setCell_other _ _ p _ (fun e => hq e.symm), h1]
  exact h

/-- keys and values of entries -/
abbrev keys17 (l : List Ent17) : List Int := l.map (·.1)
abbrev vals17 (l : List Ent17) : List (List UInt8) := l.map (·.2.1)
theorem keys17_step {l : List Ent17} {k : Nat} (h : k < l.length) : (keys17 l).take (k + 1) = (keys17 l).take k ++ [l[k].1] := by
  rw [List.take_succ_eq_append_getElem (by simpa using h)]
  simp
theorem vals17_step {l : List Ent17} {k : Nat} (h : k < l.length) : (vals17 l).take (k + 1) = (vals17 l).take k ++ [l[k].2.1] := by
  rw [List.take_succ_eq_append_getElem (by simpa using h)]
  simp

set_option maxRecDepth 100000 in
set_option maxHeartbeats 1600000 in
theorem part_any17 (tree : Int) (leaf : Bool) {A : Option Addr} {n c : Nat} {l : List Ent17} (w : World) (h : Ens w A n c l) (hB : EntB l) (ht : i64b tree) (hn : n ≤ 1000000) :
    Calls Tryz.prog 49 #[.int .i64 tree, .bool leaf, .slice A n c] w fun e w' => ∃ Ak ck Av cv, e = .returned (nodV ⟨tree, leaf, keys17 l, vals17 l⟩ Ak n ck Av n cv) ∧ NodIn w' ⟨tree, leaf, keys17 l, vals17 l⟩ Ak n ck Av n cv ∧ Below w.heap.size w w' ∧ Newer w.heap.size Ak ∧ Newer w.heap.size Av := by
  have hlen := h.len
  have hcap := h.cap
  have hmost := h.most
  have hk0 : (keys17 l).take n = keys17 l := List.take_of_length_le (by simp [hlen])
  have hv0 : (vals17 l).take n = vals17 l := List.take_of_length_le (by simp [hlen])
  have FN := Lib.hid (And.intro hk0 hv0)
  have KB : Hid (∀ k ∈ keys17 l, i64b k) := fun k hk => by
    obtain ⟨q, hq, rfl⟩ := List.mem_map.1 hk
    exact (hB q hq).1
  have VB : Hid (∀ v ∈ vals17 l, v.length ≤ 9223372036854775807) := fun v hv => by
    obtain ⟨q, hq, rfl⟩ := List.mem_map.1 hv
    exact (hB q hq).2
  have HT := Lib.hid ht
  have HE := Lib.hid h
  have HL := Lib.hid hlen
  have hz := NodAt.new w 0 false (.slice none 0 0) (.slice none 0 0)
  have hb0 : Below w.heap.size w (w.alloc (.cells #[.int .i64 0, .bool false, .slice none 0 0, .slice none 0 0] 76)) := (Below.refl _ _).alloc (Nat.le_refl _) _
  clear h hB ht hlen hk0 hv0
  go_enter Tryz.func49, Tryz.ntmps49
  go_wp2
  have hS0 : w.heap.size + 1 = (w.alloc (.cells #[.int .i64 0, .bool false, .slice none 0 0, .slice none 0 0] 76)).heap.size := by simp
  obtain ⟨w0, hw0⟩ : ∃ w0, w.alloc (.cells #[.int .i64 0, .bool false, .slice none 0 0, .slice none 0 0] 76) = w0 := ⟨_, rfl⟩
  rw [hw0] at hz hb0 hS0
  simp only [hw0]
  have HZ := Lib.hid hz
  have HB0 := Lib.hid hb0
  have M0 := Lib.hid (MsN.start w0 tree leaf)
  clear hz hb0 hw0
  simp only [hS0]
  go_loopw [15] (fun i wr => ∃ k : Nat, k ≤ n ∧ i = .int .i64 k ∧ Hid (∃ Ak ck Av cv, MsN w0 wr tree leaf k Ak ck k Av cv ((keys17 l).take k) ((vals17 l).take k))) (fun i _ => n - (intOf i).toNat)
  case atStart => exact ⟨0, by omega, rfl, none, 0, none, 0, by simpa using M0.out⟩
  case round =>
    clear M0
    obtain ⟨k, hk, rfl, Ak, ck, Av, cv, hS⟩ := hrel
    by_cases hlt : k < n
    · have hkl : k < l.length := by have := HL.out; omega
      have hbl : Below w.heap.size w wr := HB0.out.trans (hS.bel.mono (by omega))
      obtain ⟨b, off, hA, c0, c1, c2⟩ := (HE.out.below hbl).at_ (k := k) hlt
      subst hA
      have c1b := c1
      have c2b := c2
      rw [← Nat.add_assoc] at c1b c2b
      have HKS := Lib.hid (keys17_step hkl)
      have HVS := Lib.hid (vals17_step hkl)
      generalize l[k].1 = key at *
      generalize l[k].2.1 = vl at *
      generalize l[k].2.2 = aa at *
      clear hkl hbl
      obtain ⟨y, hy⟩ : ∃ y : ByteArray, (⟨vl.toArray⟩ : ByteArray) = y := ⟨_, rfl⟩
      rw [hy] at c1 c1b
      have HY := Lib.hid hy
      clear hy
      have hE := EntAt.new wr key y aa
      obtain ⟨e0, e1, e2⟩ := hE.cs
      have hS1 := hS.later ((Below.refl wr.heap.size wr).alloc (Nat.le_refl _) (.cells #[.int .i64 key, .string y, .int .i64 aa] 57))
      have hlt0 : w0.heap.size < wr.heap.size := by have := hS.low; omega
      have n2 := hS1.node.c2
      clear hS
      go_wp2_with (first
        | (at_builtin; (refine wpList_append_newG (wr.alloc (.cells #[.int .i64 key, .string y, .int .i64 aa] 57)) rfl (.tmp 20) (.tmp 23) _ rfl (w0.heap.size + 1) 3 _ _ 8 Tryz.underlying31 info_i64 rfl (.slice Ak k ck) _ _ rfl hS1.ok hS1.low [_] 1 1 (by rw [World.size_alloc]; rfl) rfl (by simp [Value.oneCell']) (by omega) (by omega) ?_); intro v6 w6 ho6 hg6; obtain ⟨Ak', ck', rfl, hn6, hS6⟩ := hS1.addKey ho6.out hg6.out; have m2 := hn6.c2; have g2 := Lib.frozen_of_heap hn6 2; have hE6 := hE.grown (q := w0.heap.size) (x := .slice Ak' (k + 1) ck') hS1.ok (by decide) hg6.out (by omega) 2; have n3 := hS6.node.c3; obtain ⟨x0, x1, x2⟩ := hE6.cs; have HS6 := Lib.hid hS6; clear hS6 hn6 ho6 hg6)
        | (at_builtin; go_must (refine wpList_append_newG _ rfl (.tmp 27) (.tmp 30) _ rfl (w0.heap.size + 1) 9 _ _ 16 Tryz.underlying61 info_strv17 rfl (.slice Av k cv) _ _ rfl HS6.out.ov HS6.out.low [_] 1 1 (by rw [show (w6.setCell ⟨w0.heap.size, 2, none⟩ (.slice Ak' (k + 1) ck')).heap.size = w6.heap.size by simp [World.setCell]]; rfl) rfl (by simp [Value.oneCell']) (by omega) (by omega) ?_); intro v8 w8 ho8 hg8; obtain ⟨Av', cv', rfl, hn8, hS8⟩ := HS6.out.addVal (s := vl) (by have := ho8.out; rw [← HY.out] at this; exact this) hg8.out; have m3 := hn8.c3; have g3 := Lib.frozen_of_heap hn8 3))
      go_roundw
      case rel => exact ⟨k + 1, by omega, by go_num, Ak', ck', Av', cv', by rw [HKS.out, HVS.out]; exact hS8⟩
      case measure => simp [intOf]; omega
    · obtain rfl : k = n := by omega
      rw [FN.out.1, FN.out.2] at hS
      obtain ⟨q0, q1, q2, q3⟩ := (And.intro hS.node.c0 (And.intro hS.node.c1 (And.intro hS.node.c2 hS.node.c3)))
      have hz2 : NodAt wr w.heap.size 0 false (.slice none 0 0) (.slice none 0 0) := HZ.out.keep hS.bel (by omega)
      obtain ⟨z0, z1, z2, z3⟩ := (And.intro hz2.c0 (And.intro hz2.c1 (And.intro hz2.c2 hz2.c3)))
      have y0 := Lib.frozen_of_heap hz2 0
      have y1 := Lib.frozen_of_heap hz2 1
      have y2 := Lib.frozen_of_heap hz2 2
      have y3 := Lib.frozen_of_heap hz2 3
      have HS := Lib.hid hS
      have HZ2 := Lib.hid hz2
      clear hS hz2
      go_wp2
      have hst := HZ2.out.store tree leaf (.slice Ak k ck) (.slice Av k cv)
      refine bodyPost_ret (res1_13 Tryz.results49 _ _ (a := ⟨w.heap.size, 0, none⟩) rfl (run_loadVar_row _ w.heap.size _ _ _ _ _ hst Tryz.underlying76 rfl (by kernel_rfl))) rfl ?_
      have hni := HS.out.nodin HT.out KB.out VB.out
      have hK := Newer.of_own HS.out.ok
      have hV := Newer.of_own HS.out.ov
      have hk9 : ∀ j, w.heap.size + 1 ≤ j → ((((wr.setCell ⟨w.heap.size, 0, none⟩ (.int .i64 tree)).setCell ⟨w.heap.size, 1, none⟩ (.bool leaf)).setCell ⟨w.heap.size, 2, none⟩ (.slice Ak k ck)).setCell ⟨w.heap.size, 3, none⟩ (.slice Av k cv)).heap[j]? = wr.heap[j]? := fun j hj => by
        rw [heap_setCell_other _ _ j _ (by show j ≠ w.heap.size; omega), heap_setCell_other _ _ j _ (by show j ≠ w.heap.size; omega), heap_setCell_other _ _ j _ (by show j ≠ w.heap.size; omega), heap_setCell_other _ _ j _ (by show j ≠ w.heap.size; omega)]
      refine ⟨Ak, ck, Av, cv, rfl, ⟨hni.keys.newer (hK.mono (by omega)) hk9, ⟨hni.vals.len, hni.vals.cap, hni.vals.most, hni.vals.row.newer (hV.mono (by omega)) hk9⟩, hni.tb, hni.kb, hni.vb⟩, ?_, hK.mono (by omega), hV.mono (by omega)⟩
      have hbb : Below w.heap.size w wr := HB0.out.trans (HS.out.bel.mono (by omega))
      exact below_store7 hbb (Nat.le_refl _) _ _ _ _

section
variable {q : Nat} {tree : Int} {leaf : Bool} {mm : Nat} {l : List Ent17} {bs : List Int} {t k : Nat} {L : List UInt8}
theorem Fr2.after17 {a b c : World} {r1 r2 : Option Nat} (h : Below a.heap.size a b) (k : Fr2 b c r1 r2) : Fr2 a c r1 r2 := (Fr2.of_below h r1 r2).trans k
set_option maxRecDepth 100000 in
set_option maxHeartbeats 800000 in
/-- a node is encoded and laid -/
theorem lay_any17 {w : World} {base p m B g : Nat} {A : Option Addr} {n c : Nat} {Ak : Option Addr} {nk ck : Nat} {Av : Option Addr} {nv cv : Nat} (h : AImg w base p m B g A n c bs (t + k) (levW17 q tree leaf mm l bs t k L)) (hB : Bs17 q bs) (hL : L.length = q * 256) (hk : t + k < bs.length) (hr : rightN (nodB17 tree leaf mm l k) = true) (hN : NodIn w (nodB17 tree leaf mm l k) Ak nk ck Av nv cv) :
    Calls Tryz.prog 50 #[.pointer (some ⟨p, 0, none⟩), nodV (nodB17 tree leaf mm l k) Ak nk ck Av nv cv] w fun e w' => e = .returned (.tuple #[.int .i64 (bs.getD (t + k) 0), .nilIface]) ∧ AImg w' base p m B g A n c bs (t + (k + 1)) (levW17 q tree leaf mm l bs t (k + 1) L) ∧ Fr2 w w' (some g) (some p) := by
  have hb0 : Below w.heap.size w (w.alloc (.cells #[.int .i64 tree, .bool leaf, .slice Ak nk ck, .slice Av nv cv] 76)) := (Below.refl _ _).alloc (Nat.le_refl _) _
  have PT : Hid (Calls Tryz.prog 71 #[.agg #[.int .i64 tree, .bool leaf, .slice Ak nk ck, .slice Av nv cv]] (w.alloc (.cells #[.int .i64 tree, .bool leaf, .slice Ak nk ck, .slice Av nv cv] 76)) fun e w' => ∃ g2, e = .returned (.tuple #[.slice (some ⟨g2, 0, none⟩) 244 244, .int .i64 0]) ∧ Bytes8 w' (some ⟨g2, 0, none⟩) 244 244 (encNod (nodB17 tree leaf mm l k)) ∧ Below w.heap.size w w') := by
    refine (NPut_good _ (nodB17 tree leaf mm l k) Ak nk ck Av nv cv (hN.below hb0) hr).mono ?_
    rintro e w' ⟨g2, h1, h2, h3⟩
    exact ⟨g2, h1, h2.bytes (by rw [← putK_all hr]; exact putK_length hr (Nat.le_refl _)) (by omega), hb0.trans (h3.mono hb0.size)⟩
  have LY : Hid (∀ W g2, Below w.heap.size w W → Bytes8 W (some ⟨g2, 0, none⟩) 244 244 (encNod (nodB17 tree leaf mm l k)) → Calls Tryz.prog 72 #[.pointer (some ⟨p, 0, none⟩), .int .i64 2, .slice (some ⟨g2, 0, none⟩) 244 244] W fun e w' => e = .returned (.tuple #[.int .i64 (bs.getD (t + k) 0), .nilIface]) ∧ Hid (AImg w' base p m B g A n c bs (t + (k + 1)) (levW17 q tree leaf mm l bs t (k + 1) L)) ∧ Hid (Fr2 w w' (some g) (some p))) := fun W g2 hW hb8 => by
    refine ((h.later hW).laid17 hB hL hk hr hb8).mono ?_
    rintro e w' ⟨h1, h2, h3⟩
    exact ⟨h1, h2, Fr2.after17 hW h3⟩
  obtain ⟨n0, n1, n2, n3⟩ : _ ∧ _ ∧ _ ∧ _ := And.intro (NodAt.new w tree leaf (.slice Ak nk ck) (.slice Av nv cv)).c0 (And.intro (NodAt.new w tree leaf (.slice Ak nk ck) (.slice Av nv cv)).c1 (And.intro (NodAt.new w tree leaf (.slice Ak nk ck) (.slice Av nv cv)).c2 (NodAt.new w tree leaf (.slice Ak nk ck) (.slice Av nv cv)).c3))
  have e : nodV (nodB17 tree leaf mm l k) Ak nk ck Av nv cv = .agg #[.int .i64 tree, .bool leaf, .slice Ak nk ck, .slice Av nv cv] := rfl
  rw [e]
  clear h hB hL hk hr hN hb0 e
  generalize encNod (nodB17 tree leaf mm l k) = en at *
  generalize bs.getD (t + k) 0 = no at *
  go_enter Tryz.func50, Tryz.ntmps50
  go_wp2_with (first
    | (go_at_call 71; (with_reducible refine (PT.out).mono ?_); rintro e w1 ⟨g2, rfl, hb8, hb1⟩)
    | (go_at_call 72; (with_reducible refine (LY.out _ _ hb1 hb8).mono ?_); rintro e w2 ⟨rfl, hi, hf⟩))
  go_ret2
  exact ⟨rfl, hi.out, hf.out⟩
end
end Go.Proofs.YtnjlganofjkpfaaGreatDoor

/-
  Layer 17: write.
-/
namespace Go.Proofs.YtnjlganofjkpfaaGreatDoor
open Go.RowKit
set_option linter.unusedVariables false
set_option linter.unusedSimpArgs false

theorem rootB17 {no : Int} (h : 1 ≤ no) (h2 : no ≤ 14399) : rootB no = encN 4 no.toNat := by
  obtain ⟨n, rfl⟩ := Int.eq_ofNat_of_zero_le (show 0 ≤ no by omega)
  have ho : okP (rootS.zip [(n : Int)]) = true := by
    simp [okP, rootS, inB]
    omega
  show bldP (rootS.zip [(n : Int)]) = _
  rw [bldP, if_pos ho]
  simp [encP, rootS]
theorem el17_take {l : List Ent17} {n m k : Nat} (hl : l.length = n) : (l.drop (k * m)).take (el15 n m k) = (l.drop (k * m)).take m := by
  unfold el15
  by_cases h : n - k * m ≤ m
  · rw [Nat.min_eq_left h, List.take_of_length_le (by rw [List.length_drop]; omega), List.take_of_length_le (by rw [List.length_drop]; omega)]
  · rw [Nat.min_eq_right (by omega)]
theorem el17_drop {l : List Ent17} {n m k : Nat} (hl : l.length = n) : (l.drop (k * m)).drop (el15 n m k) = l.drop ((k + 1) * m) := by
  rw [List.drop_drop, Nat.succ_mul]
  unfold el15
  by_cases h : n - k * m ≤ m
  · rw [Nat.min_eq_left h, List.drop_eq_nil_of_le (by omega), List.drop_eq_nil_of_le (by omega)]
  · rw [Nat.min_eq_right (by omega)]
theorem nodB17_chunk (tree : Int) (leaf : Bool) (l : List Ent17) {n m k : Nat} (hl : l.length = n) : (⟨tree, leaf, keys17 ((l.drop (k * m)).take (el15 n m k)), vals17 ((l.drop (k * m)).take (el15 n m k))⟩ : Nod) = nodB17 tree leaf m l k := by
  rw [el17_take hl]
  rfl
theorem EntB.up17 {l : List Ent17} (h : EntB l) (m : Nat) (bs : List Int) (t k : Nat) : EntB (upP17 m l bs t k) := by
  intro q hq
  unfold upP17 at hq
  split at hq
  · cases hq
  · obtain ⟨j, _, rfl⟩ := List.mem_map.1 hq
    refine ⟨?_, by simp [encN_length]⟩
    show _ ≤ ((l.drop (j * m)).headD (0, [], 0)).1 ∧ ((l.drop (j * m)).headD (0, [], 0)).1 ≤ _
    cases hd : l.drop (j * m) with
    | nil => simp
    | cons x r => exact (h x (List.mem_of_mem_drop (by rw [hd]; exact List.mem_cons_self ..))).1
theorem EntB.sub17 {l r : List Ent17} (h : EntB l) (hs : ∀ x ∈ r, x ∈ l) : EntB r := fun q hq => h q (hs q hq)

/-- blocks as they were, but for those two and what is newer -/
theorem AImg.keep17 {w w' : World} {base p m B g B9 : Nat} {A : Option Addr} {n c : Nat} {l : List Int} {t : Nat} {L : List UInt8} (h : AImg w base p m B g A n c l t L) (hb : Below B9 w w') (h1 : p < B9) : AImg w' base p m B g A n c l t L := by
  have h2 := h.mlt
  have h3 := h.glt
  have h4 := h.alc.bp
  exact ⟨h.alc.mov (hb.block p h1) (fun ad e => hb.block _ (by have := (h.alc.low ad e).2; omega)), ⟨h.img.bp, h.img.bg, h.img.ne, (hb.block m (by omega)).trans h.img.hp, (hb.block g (by omega)).trans h.img.hg, h.img.most⟩, h2, h3⟩

theorem Row.fr17 {w w' : World} {A : Option Addr} {l : List Value} {r1 r2 : Option Nat} (h : Row w A l) (hA : l ≠ [] → ∀ ad, A = some ad → some ad.block ≠ r1 ∧ some ad.block ≠ r2) (hf : Fr2 w w' r1 r2) : Row w' A l := fun k v e => by
  obtain ⟨ad, ea, hc⟩ := h k v e
  refine ⟨ad, ea, ?_⟩
  have hbk : (ad.add k).block = ad.block := addr_add_block ad k
  have := hA (fun e2 => by rw [e2] at e; simp at e) ad ea
  exact (World.cell?_of_block (w := w) (hf.block _ (cell_lt hc) (by rw [hbk]; exact this.1) (by rw [hbk]; exact this.2))).trans hc
theorem Ens.fr17 {w w' : World} {A : Option Addr} {n c : Nat} {l : List Ent17} {r1 r2 : Option Nat} (h : Ens w A n c l) (hA : 0 < n → ∀ ad, A = some ad → some ad.block ≠ r1 ∧ some ad.block ≠ r2) (hf : Fr2 w w' r1 r2) : Ens w' A n c l := ⟨h.len, h.cap, h.most, h.row.fr17 (fun e => hA (Nat.pos_of_ne_zero fun e2 => e (by have hl := h.len; rw [e2] at hl; rw [List.eq_nil_of_length_eq_zero hl]; rfl))) hf⟩

theorem Ints.fr17 {w w' : World} {A : Option Addr} {n c : Nat} {l : List Int} {r1 r2 : Option Nat} (h : Ints w A n c l) (hA : ∀ ad, A = some ad → some ad.block ≠ r1 ∧ some ad.block ≠ r2) (hf : Fr2 w w' r1 r2) : Ints w' A n c l := ⟨h.len, h.cap, h.most, h.row.fr17 (fun _ => hA) hf⟩

/-- between two nodes of a level: i are laid, j stand above, the entries from r on are left -/
structure Wr17 (w1 wr : World) (q : Nat) (tree : Int) (leaf : Bool) (mm : Nat) (l : List Ent17) (bs : List Int) (t : Nat) (L : List UInt8) (base p m B g : Nat) (A : Option Addr) (n c i j r : Nat) (A2 : Option Addr) (n2 c2 : Nat) (va : Value) : Prop where
  ai : AImg wr base p m B g A n c bs (t + i) (levW17 q tree leaf mm l bs t i L)
  rest : Ens wr A2 n2 c2 (l.drop (r * mm))
  far : 0 < n2 → ∀ ad, A2 = some ad → ad.block ≠ g ∧ ad.block ≠ p ∧ ad.block < w1.heap.size
  ab : wr.ownsRow w1.heap.size 57 3 va (upP17 mm l bs t j).length (entC (upP17 mm l bs t j))
  fr : Fr2 w1 wr (some g) (some p)
  hp : p < w1.heap.size
section
variable {w1 wr W' : World} {q : Nat} {tree : Int} {leaf : Bool} {mm : Nat} {l : List Ent17} {bs : List Int} {t : Nat} {L : List UInt8} {base p m B g : Nat} {A : Option Addr} {n c i j r : Nat} {A2 : Option Addr} {n2 c2 : Nat} {va : Value}
theorem Wr17.glt (h : Wr17 w1 wr q tree leaf mm l bs t L base p m B g A n c i j r A2 n2 c2 va) : g < w1.heap.size := by
  have := h.hp
  have := h.ai.glt
  have := h.ai.alc.bp
  omega
theorem Wr17.later (h : Wr17 w1 wr q tree leaf mm l bs t L base p m B g A n c i j r A2 n2 c2 va) (hb : Below wr.heap.size wr W') : Wr17 w1 W' q tree leaf mm l bs t L base p m B g A n c i j r A2 n2 c2 va :=
  ⟨h.ai.later hb, h.rest.below hb, h.far, own_keptS h.ab (fun k _ hk => hb.block k hk), h.fr.trans (Fr2.of_below hb _ _), h.hp⟩
theorem Wr17.laid (h : Wr17 w1 wr q tree leaf mm l bs t L base p m B g A n c i j r A2 n2 c2 va) (ha : AImg W' base p m B g A n c bs (t + (i + 1)) (levW17 q tree leaf mm l bs t (i + 1) L)) (hf : Fr2 wr W' (some g) (some p)) : Wr17 w1 W' q tree leaf mm l bs t L base p m B g A n c (i + 1) j r A2 n2 c2 va := by
  have hg := h.glt
  have hp := h.hp
  refine ⟨ha, h.rest.fr17 (fun h0 ad e => ?_) hf, h.far, own_keptS h.ab (fun k hk hs => hf.block k hs (fun e => by injection e; omega) (fun e => by injection e; omega)), h.fr.trans hf, hp⟩
  obtain ⟨a, b, _⟩ := h.far h0 ad e
  exact ⟨fun e => a (by injection e), fun e => b (by injection e)⟩
theorem Wr17.cut (h : Wr17 w1 wr q tree leaf mm l bs t L base p m B g A n c i j r A2 n2 c2 va) {A3 : Option Addr} {n3 c3 r' : Nat} (he : Ens wr A3 n3 c3 (l.drop (r' * mm))) (hn : n3 ≤ n2) (ha : ∀ ad, A3 = some ad → ∃ ad', A2 = some ad' ∧ ad.block = ad'.block) : Wr17 w1 wr q tree leaf mm l bs t L base p m B g A n c i j r' A3 n3 c3 va :=
  ⟨h.ai, he, fun h0 ad e => by obtain ⟨ad', e1, e2⟩ := ha ad e; rw [e2]; exact h.far (by omega) ad' e1, h.ab, h.fr, h.hp⟩
theorem Wr17.grew (h : Wr17 w1 wr q tree leaf mm l bs t L base p m B g A n c i j r A2 n2 c2 va) {va' : Value} {j' : Nat} (ho : W'.ownsRow w1.heap.size 57 3 va' (upP17 mm l bs t j').length (entC (upP17 mm l bs t j'))) (hg : wr.grownBy W' va.ownBlock) : Wr17 w1 W' q tree leaf mm l bs t L base p m B g A n c i j' r A2 n2 c2 va' := by
  have hp := h.hp
  have hsz := h.fr.size
  have hb : Below w1.heap.size wr W' := ⟨hg.os, hg.tape, hg.output, hg.size, fun k hk => hg.block k (by omega) (fun e => by have := (own_apartS h.ab k e.symm).1; omega)⟩
  refine ⟨h.ai.keep17 hb hp, ⟨h.rest.len, h.rest.cap, h.rest.most, fun k v e => ?_⟩, h.far, ho, ⟨hb.os.trans h.fr.os, hb.tape.trans h.fr.tape, hb.output.trans h.fr.output, Nat.le_trans h.fr.size hb.size, fun k hk h1 h2 => (hb.block k hk).trans (h.fr.block k hk h1 h2)⟩, hp⟩
  have h0 : 0 < n2 := Nat.pos_of_ne_zero fun e2 => by
    have hl := h.rest.len
    rw [e2] at hl
    rw [List.eq_nil_of_length_eq_zero hl] at e
    simp [entC] at e
  obtain ⟨ad, ea, hc⟩ := h.rest.row k v e
  refine ⟨ad, ea, ?_⟩
  have hbk : (ad.add k).block = ad.block := addr_add_block ad k
  exact (World.cell?_of_block (w := wr) (hb.block _ (by rw [hbk]; exact (h.far h0 ad ea).2.2))).trans hc
/-- nothing stands above nodes without keys -/
theorem Wr17.same (h : Wr17 w1 wr q tree leaf mm [] bs t L base p m B g A n c i j r A2 n2 c2 va) (j' : Nat) : Wr17 w1 wr q tree leaf mm [] bs t L base p m B g A n c i j' r A2 n2 c2 va :=
  ⟨h.ai, h.rest, h.far, by have := h.ab; rw [upP17_nil] at this ⊢; exact this, h.fr, h.hp⟩
theorem Wr17.none_ (h : Wr17 w1 wr q tree leaf mm l bs t L base p m B g A n c i j r A2 n2 c2 va) (hl : l = []) (j' : Nat) : Wr17 w1 wr q tree leaf mm l bs t L base p m B g A n c i j' r A2 n2 c2 va := by
  subst hl
  exact h.same j'
end
theorem el17_none {l : List Ent17} {m k : Nat} (hm : 1 ≤ m) (hk : k < fil15 l.length m) (h : el15 l.length m k = 0) : l = [] := by
  apply Classical.byContradiction
  intro hl
  have h0 : 0 < l.length := Nat.pos_of_ne_zero fun e => hl (List.eq_nil_of_length_eq_zero e)
  refine chk17_pos hm l h0 hk ?_
  show (l.drop (k * m)).take m = []
  rw [← el17_take (n := l.length) rfl, h, List.take_zero]
theorem el17_head {tree : Int} {leaf : Bool} {l : List Ent17} {m k : Nat} (hm : 1 ≤ m) (h : 0 < el15 l.length m k) : ∃ r, (nodB17 tree leaf m l k).keys = ((l.drop (k * m)).headD (0, [], 0)).1 :: r := by
  have h1 : 0 < l.length - k * m := by unfold el15 at h; omega
  show ∃ r, ((l.drop (k * m)).take m).map (·.1) = _
  cases hd : l.drop (k * m) with
  | nil =>
    have := congrArg List.length hd
    rw [List.length_drop] at this
    simp at this
    omega
  | cons x r =>
    obtain ⟨m', rfl⟩ : ∃ m', m = m' + 1 := ⟨m - 1, by omega⟩
    exact ⟨_, rfl⟩
end Go.Proofs.YtnjlganofjkpfaaGreatDoor
