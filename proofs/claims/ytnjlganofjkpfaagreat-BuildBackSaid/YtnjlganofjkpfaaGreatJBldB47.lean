/-
  Joined: WlkJ, WlkK, WlkL, BldO, BldLawB.
-/
import Derived.Test.YtnjlganofjkpfaaGreatJBldB46
import Derived.Test.YtnjlganofjkpfaaGreatJBldB34
import Derived.Test.YtnjlganofjkpfaaGreatJBldB37
import Derived.Test.YtnjlganofjkpfaaGreatJBldB43
import Derived.Test.YtnjlganofjkpfaaGreatJBldB36
import Derived.Test.YtnjlganofjkpfaaGreatJBldB12
import Derived.Deep.RegionHeld3
import Derived.BigQuiet
import Derived.Laws.BitsLemmas
import Derived.Test.YtnjlganofjkpfaaGreatJBldB44
/-
  Layer 14: visit, at a leaf, at an inner node; visit for any node.
-/
namespace Go.Proofs.YtnjlganofjkpfaaGreat
open Go.RowKit
set_option linter.unusedVariables false
set_option linter.unusedSimpArgs false

/-- behind the append onto the blocks -/
structure Vs14 (w w6 : World) (p q g B b : Nat) (tree fuel : Int) (s s6 : Rows14) (L : List UInt8) (n : Nat) (W : Wlk14) (no lo hi : Int) (way : List Int) (nd : Nod) (A5 : Option Addr) (n5 c5 : Nat) (A6 : Option Addr) (n6 c6 : Nat) : Prop where
  st : St14 w6 p (.pointer (some ⟨q, 0, none⟩)) tree fuel s6 (W.see.inner ⟨no, lo, hi, way, 0⟩) way
  mov : Mov14 p s w s6 w6
  own : NodAt w6 b nd.tree nd.leaf (.slice A5 n5 c5) (.slice A6 n6 c6)
  spn : SpnAt w6 w.heap.size lo hi
  ndi : NodIn w6 nd A5 n5 c5 A6 n6 c6
  f5 : 0 < nd.keys.length → Far14 s6 p A5
  f6 : 0 < nd.vals.length → Far14 s6 p A6
  im : Im14 w6 p q g B L n
theorem ints_lt14 {w : World} {A : Option Addr} {n c : Nat} {l : List Int} (h : Ints w A n c l) (hp : 0 < l.length) : ∀ ad, A = some ad → ad.block < w.heap.size := fun ad e => by
  obtain ⟨b, off, e2, hl, _⟩ := h.row.lit (by rw [i64s_length]; exact hp)
  rw [e] at e2; cases e2; exact hl
theorem Vs14.made {w w3 w4 w6 : World} {p q g B : Nat} {tree fuel : Int} {s : Rows14} {L : List UInt8} {n : Nat} {W : Wlk14} {no lo hi : Int} {way : List Int} {nd : Nod} {A5 : Option Addr} {n5 c5 : Nat} {A6 : Option Addr} {n6 c6 : Nat} {g5 cap5 : Nat}
    (h0 : St14 w p (.pointer (some ⟨q, 0, none⟩)) tree fuel s W way) (h3 : St14 w3 p (.pointer (some ⟨q, 0, none⟩)) tree fuel s W.see way) (hM3 : Mov14 p s w s w3) (hK : SpnAt w3 w.heap.size lo hi) (hI : Im14 w3 p q g B L n) (hb4 : Below w3.heap.size w3 w4) (hN : NodIn w4 nd A5 n5 c5 A6 n6 c6) (h5 : Newer w3.heap.size A5) (h6 : Newer w3.heap.size A6)
    (hgrow : ((w4.alloc (.cells #[.int .i64 nd.tree, .bool nd.leaf, .slice A5 n5 c5, .slice A6 n6 c6] 70)).alloc (.cells #[.int .i64 no] 3)).grownBy w6 s.B.ownBlock)
    (hat : s.B.ownBlock = some g5 ∨ g5 = ((w4.alloc (.cells #[.int .i64 nd.tree, .bool nd.leaf, .slice A5 n5 c5, .slice A6 n6 c6] 70)).alloc (.cells #[.int .i64 no] 3)).heap.size)
    (hown : w6.ownsRow (p + 1) 3 1 (.slice (some ⟨g5, 0, none⟩) (W.blks.length + 1) cap5) (W.blks.length + 1) (i64s W.blks ++ [.int .i64 no])) :
    Vs14 w (w6.setCell ⟨p, 1, none⟩ (.slice (some ⟨g5, 0, none⟩) (W.blks.length + 1) cap5)) p q g B w4.heap.size tree fuel s ⟨s.E, .slice (some ⟨g5, 0, none⟩) (W.blks.length + 1) cap5, s.F, s.P⟩ L n W no lo hi way nd A5 n5 c5 A6 n6 c6 := by
  have hm0 := h0.mine_lt
  have hm3 := h3.mine_lt
  have hb5 : Below w4.heap.size w4 (w4.alloc (.cells #[.int .i64 nd.tree, .bool nd.leaf, .slice A5 n5 c5, .slice A6 n6 c6] 70)) := (Below.refl _ _).alloc (Nat.le_refl _) _
  obtain ⟨w5, hw5⟩ : ∃ w5, w5 = w4.alloc (.cells #[.int .i64 nd.tree, .bool nd.leaf, .slice A5 n5 c5, .slice A6 n6 c6] 70) := ⟨_, rfl⟩
  have hV : NodAt w5 w4.heap.size nd.tree nd.leaf (.slice A5 n5 c5) (.slice A6 n6 c6) := by rw [hw5]; exact NodAt.new w4 _ _ _ _
  rw [← hw5] at hb5 hgrow hat
  have hb6 : Below w5.heap.size w5 (w5.alloc (.cells #[.int .i64 no] 3)) := (Below.refl _ _).alloc (Nat.le_refl _) _
  have hS6 := ((h3.later hb4).later hb5).later hb6
  obtain ⟨hX1, hX2⟩ := hS6.addBlk (no := no) hgrow hat hown
  have hM5 := (Mov14.of_below s hb6).trans hX2
  have hM4 := (Mov14.of_below s hb5).trans hM5
  have hMs := (Mov14.of_below s hb4).trans hM4
  have far : ∀ {A : Option Addr}, Newer w3.heap.size A → Far14 s p A := fun h ad e hm => by have := h ad e; have := (hm3 _ hm).2; omega
  have far2 : ∀ {A : Option Addr}, Newer w3.heap.size A → (∀ ad, A = some ad → ad.block < w4.heap.size) → Far14 ⟨s.E, .slice (some ⟨g5, 0, none⟩) (W.blks.length + 1) cap5, s.F, s.P⟩ p A := fun h hl => (far h).mov hM4 hl
  refine ⟨hX1, hM3.trans hMs, hV.mov (fun e => by have := (hm3 _ e).2; have := hb4.size; omega) hM5, hK.mov (fun e => by have := (hm0 _ e).2; omega) hMs, hN.mov (fun _ => far h5) (fun _ => far h6) hM4, fun e => far2 h5 fun ad ea => ?_, fun e => far2 h6 fun ad ea => ?_, hI.below (Mov14.below h3 hMs)⟩
  · obtain ⟨b, off, e2, hl, _⟩ := hN.keys.row.lit (by rw [i64s_length]; exact e)
    rw [ea] at e2; cases e2; exact hl
  · obtain ⟨b, off, e2, hl, _⟩ := hN.vals.row.lit (by rw [strV_length]; exact e)
    rw [ea] at e2; cases e2; exact hl

set_option maxRecDepth 100000 in
set_option maxHeartbeats 3200000 in
theorem visit_leaf14 {p q g B : Nat} {tree fuel : Int} {L : List UInt8} {n : Nat} {w : World} {s : Rows14} {W : Wlk14} {way : List Int} (no lo hi : Int) (h : St14 w p (.pointer (some ⟨q, 0, none⟩)) tree fuel s W way) (hIm : Im14 w p q g B L n) (hF : Fit14 fuel W way.length) (hw : way.length ≤ 16) (hr : rB13 lo hi = true) (hd : W.looked < fuel) (hx : lookE14 (nd14 L n tree) W.deep ⟨no, lo, hi, way, 0⟩ = 0) (hlf : (nd14 L n tree no).2.leaf = true) :
    Calls Tryz.prog 34 #[.pointer (some ⟨p, 0, none⟩), .int .i64 no, spnV lo hi] w fun e w' => ∃ b s' W' way', e = .returned (.bool b) ∧ St14 w' p (.pointer (some ⟨q, 0, none⟩)) tree fuel s' W' way' ∧ (b = true → way' = way) ∧ Step14 (nd14 L n tree) rt14 fuel W [⟨no, lo, hi, way, 0⟩] W' b ∧ Mov14 p s w s' w' := by
  obtain ⟨nd, hnd⟩ : ∃ nd, (nd14 L n tree no).2 = nd := ⟨_, rfl⟩
  obtain ⟨tr, lf, ks, vs⟩ := nd
  obtain rfl : lf = true := by rw [hnd] at hlf; exact hlf
  clear hlf
  have hb1 : Below w.heap.size w (w.alloc (.cells #[.int .i64 lo, .int .i64 hi] 78)) := (Below.refl _ _).alloc (Nat.le_refl _) _
  have h1 := h.later hb1
  have c3 := h1.c3
  have c7 := h1.c7
  have HB1 := Lib.hid hb1
  have hdd : decide (fuel ≤ W.looked) = false := by simpa using hd
  have HK : Hid (SpnAt (w.alloc (.cells #[.int .i64 lo, .int .i64 hi] 78)) w.heap.size lo hi) := SpnAt.new w lo hi
  have HH := Lib.hid (And.intro h (And.intro hIm (And.intro hF (And.intro hr hd))))
  have hlo0 := hF.low
  have hlo1 := hF.few
  have hpl := h.lt
  have HL : Hid (vs.length = ks.length ∧ ks.length ≤ 18) := by
    have h1 := (ndOk14 L n tree).len no (lookE14_zero hx).2.2.1
    have h2 := nd14_keys L n tree no
    rw [hnd] at h1 h2
    exact ⟨h1, h2⟩
  have EX : Hid (∀ w3, St14 w3 p (.pointer (some ⟨q, 0, none⟩)) tree fuel s W.see way → Im14 w3 p q g B L n → Calls Tryz.prog 46 #[.pointer (some ⟨p, 0, none⟩), .int .i64 no, .agg #[.int .i64 lo, .int .i64 hi]] w3 fun e w' => ∃ A5 n5 c5 A6 n6 c6, e = .returned (.tuple #[.agg #[.int .i64 tr, .bool true, .slice A5 n5 c5, .slice A6 n6 c6], .nilIface]) ∧ Hid (Below w3.heap.size w3 w' ∧ NodIn w' ⟨tr, true, ks, vs⟩ A5 n5 c5 A6 n6 c6 ∧ Newer w3.heap.size A5 ∧ Newer w3.heap.size A6)) := fun w3 h3 hI3 =>
    (examine_any14 h3 hI3.img hI3.len (by omega) no lo hi hr).mono fun e w' ⟨v, nd', A5, n5, c5, A6, n6, c6, e1, hE, hb, hz⟩ => by
      obtain ⟨z1, z2, z3, z4⟩ := hz hx
      rw [hnd] at z1 z2
      subst z1
      rcases hE with ⟨_, rfl⟩ | ⟨h0, _⟩
      · exact ⟨A5, n5, c5, A6, n6, c6, e1, hb, z2, z3, z4⟩
      · exact absurd hx h0
  have HND := Lib.hid hnd
  have hX := hx
  have HXX := Lib.hid (And.intro hx hx)
  have hbl : W.blks.length ≤ 1000 := by have := hF.blks; omega
  have HHS := Lib.hid h
  clear h hb1 h1 hd hF hIm hr hx hX hnd
  go_enter Tryz.func34, Tryz.ntmps34
  go_wp2
  go_quiet (fail)
  obtain ⟨w2, hw2⟩ : ∃ w2, ((w.alloc (.cells #[.int .i64 lo, .int .i64 hi] 78)).drewN nq) = w2 := ⟨_, rfl⟩
  have hb2 : Below w.heap.size w w2 := by rw [← hw2]; exact below_drewN HB1.out nq
  have hK2 : SpnAt w2 w.heap.size lo hi := by rw [← hw2]; exact HK.out.later (below_drewN (Below.refl _ _) nq)
  simp only [hw2]
  clear hw2 HK HB1 c3 c7 hdd
  have h2 := HH.out.1.later hb2
  have c3 := h2.c3
  have f3 := h2.fz 3
  have hwi : IntKind.i64.wrap (W.looked + 1) = W.looked + 1 := IntWalk.i64_in _ (by omega)
  obtain ⟨hp3, hm3⟩ := h2.put 3 (W.looked + 1) (.inr rfl)
  have hp3 : St14 (w2.setCell ⟨p, 3, none⟩ (.int .i64 (W.looked + 1))) p (.pointer (some ⟨q, 0, none⟩)) tree fuel s W.see way := by simp at hp3; exact hp3
  have hM3 : Mov14 p s w s (w2.setCell ⟨p, 3, none⟩ (.int .i64 (W.looked + 1))) := (Mov14.of_below s hb2).trans hm3
  have hK3 : SpnAt (w2.setCell ⟨p, 3, none⟩ (.int .i64 (W.looked + 1))) w.heap.size lo hi := hK2.mov (fun e => by have := (HH.out.1.mine_lt _ e).2; omega) hm3
  have k0 := hK3.c0
  have k1 := hK3.c1
  have HP3 := Lib.hid (And.intro hp3 (And.intro hM3 (And.intro hK3 (HH.out.2.1.below (Mov14.below HH.out.1 hM3)))))
  clear hp3 hm3 hM3 hK3 h2 hK2 hb2
  have hs3 := HP3.out.1.blk
  go_upto_region 9 with (go_at_call 46; (with_reducible refine (EX.out _ HP3.out.1 HP3.out.2.2.2).mono ?_); rintro e w4 ⟨A5, n5, c5, A6, n6, c6, rfl, hG4⟩)
  obtain ⟨w3, hw3⟩ : ∃ w3, w3 = w2.setCell ⟨p, 3, none⟩ (.int .i64 (W.looked + 1)) := ⟨_, rfl⟩
  rw [← hw3] at HP3 hG4
  clear hw3 hs3 k0 k1 c3 f3 hwi
  obtain ⟨w5, hw5⟩ : ∃ w5, w5 = w4.alloc (.cells #[.int .i64 tr, .bool true, .slice A5 n5 c5, .slice A6 n6 c6] 70) := ⟨_, rfl⟩
  have hb5 : Below w4.heap.size w4 w5 := by rw [hw5]; exact (Below.refl _ _).alloc (Nat.le_refl _) _
  have hS5 := (HP3.out.1.later hG4.out.1).later hb5
  have hz5 : w5.heap.size = w4.heap.size + 1 := by rw [hw5]; simp
  have DM : Hid (∀ (w6 : World) (g5 cap5 : Nat), (w5.alloc (.cells #[.int .i64 no] 3)).grownBy w6 s.B.ownBlock → (s.B.ownBlock = some g5 ∨ g5 = (w5.alloc (.cells #[.int .i64 no] 3)).heap.size) → w6.ownsRow (p + 1) 3 1 (.slice (some ⟨g5, 0, none⟩) (W.blks.length + 1) cap5) (W.blks.length + 1) (i64s W.blks ++ [.int .i64 no]) →
      Vs14 w (w6.setCell ⟨p, 1, none⟩ (.slice (some ⟨g5, 0, none⟩) (W.blks.length + 1) cap5)) p q g B w4.heap.size tree fuel s ⟨s.E, .slice (some ⟨g5, 0, none⟩) (W.blks.length + 1) cap5, s.F, s.P⟩ L n W no lo hi way ⟨tr, true, ks, vs⟩ A5 n5 c5 A6 n6 c6) := fun w6 g5 cap5 h1 h2 h3 => by
    rw [hw5] at h1 h2
    exact Vs14.made HHS.out HP3.out.1 HP3.out.2.1 HP3.out.2.2.1 HP3.out.2.2.2 hG4.out.1 hG4.out.2.1 hG4.out.2.2.1 hG4.out.2.2.2 h1 h2 h3
  have HOW := Lib.hid (hS5.blks.alloc (.cells #[.int .i64 no] 3))
  have HLR : Hid (Row (w5.alloc (.cells #[.int .i64 no] 3)) (some ⟨w5.heap.size, 0, none⟩) [.int .i64 no]) := Row.of_block (t := 3) (fr := (0, 0)) (heap_alloc_new w5 _)
  have HP2 : Hid (∀ (w6 : World), (w5.alloc (.cells #[.int .i64 no] 3)).grownBy w6 s.B.ownBlock → w6.heap[p]? = w5.heap[p]?) := fun w6 hg => (hg.block p (by rw [World.size_alloc]; have := hS5.lt; omega) (fun e => by have := (hS5.blks.lt p e.symm).1; omega)).trans (Below.heap_alloc _ _ _ hS5.lt)
  have HB2 := Lib.hid hS5.blk
  have c1 := hS5.c1
  have hlt5 : p < w4.heap.size := (HP3.out.1.later hG4.out.1).lt
  obtain ⟨b4, hb4⟩ : ∃ b4, b4 = w4.heap.size := ⟨_, rfl⟩
  rw [← hb4] at DM
  have CO : Hid (∀ w6 s6, Vs14 w w6 p q g B b4 tree fuel s s6 L n W no lo hi way ⟨tr, true, ks, vs⟩ A5 n5 c5 A6 n6 c6 → Calls Tryz.prog 47 #[.pointer (some ⟨p, 0, none⟩), .int .i64 no, .agg #[.int .i64 tr, .bool true, .slice A5 n5 c5, .slice A6 n6 c6]] w6 fun e w' => (∃ v, e = .returned v) ∧ ∃ s', St14 w' p (.pointer (some ⟨q, 0, none⟩)) tree fuel s' (W.see.leaf ⟨no, lo, hi, way, 0⟩ ⟨tr, true, ks, vs⟩) way ∧ Mov14 p s6 w6 s' w') := fun w6 s6 hD => collect_any14 hD.st no hD.ndi HL.out.1 hD.f5 hD.f6 HL.out.2 (by have := HH.out.2.2.1.ents; show W.ents.length ≤ 1000000; omega) (by omega)
  clear hS5 hb5 hz5
  rw [hw5] at c1
  rw [hw5] at DM HOW HLR HP2 HB2
  rw [World.size_alloc] at HLR
  rw [hb4] at DM
  clear hw5
  go_wp2_with (first
    | (at_builtin; go_must (refine wpList_append_liesG _ rfl (.tmp 50) (.tmp 52) 33 rfl (p + 1) 3 1 (.int .i64 0) 8 Tryz.underlying33 info_i64 rfl (by omega) s.B W.blks.length (i64s W.blks) rfl HOW.out (by simp; omega) ⟨_, 0, none⟩ [.int .i64 no] 1 1 rfl rfl HLR.out (by simp [Value.oneCell']) (by omega) (by omega) (by omega) ?_); intro g5 cap5 w6 hown hgrow hat; have hD := DM.out w6 g5 cap5 hgrow.out hat.out hown.out; have hp5 := (HP2.out w6 hgrow.out).trans HB2.out; have c1' : w6.cell? ⟨p, 1, none⟩ = some s.B := (by rw [cell_of_row w6 p 1 _ _ _ hp5]; rfl); have f1' := frozen_of_row w6 p 1 _ _ hp5; have k0 := hD.spn.c0; have k1 := hD.spn.c1; have n0 := hD.own.c0; have n1 := hD.own.c1; have n2 := hD.own.c2; have n3 := hD.own.c3; rw [← hb4] at hD; have HD := Lib.hid hD; clear hD hp5 hown hgrow hat)
    | (go_at_call 47; (with_reducible refine (CO.out _ _ HD.out).mono ?_); rintro e w7 ⟨⟨v9, rfl⟩, s9, hst9, hm9⟩; have HX9 := Lib.hid (And.intro hst9 hm9); clear hst9 hm9))
  go_ret
  refine ⟨true, s9, W.see.leaf ⟨no, lo, hi, way, 0⟩ (nd14 L n tree no).2, way, rfl, ?_, fun _ => rfl, Step14.leaf (nd := nd14 L n tree) (rt := rt14) (v := ⟨no, lo, hi, way, 0⟩) (w := W) rfl HH.out.2.2.2.2 HXX.out.1 (by show (nd14 L n tree no).2.leaf = true; rw [HND.out]) (nd14_keys L n tree no), HD.out.mov.trans HX9.out.2⟩
  rw [HND.out]
  exact HX9.out.1

set_option maxRecDepth 100000 in
set_option maxHeartbeats 3200000 in
theorem visit_inner14 {p q g B : Nat} {tree fuel : Int} {L : List UInt8} {n : Nat} {w : World} {s : Rows14} {W : Wlk14} {way : List Int} (no lo hi : Int) (h : St14 w p (.pointer (some ⟨q, 0, none⟩)) tree fuel s W way) (hIm : Im14 w p q g B L n) (hF : Fit14 fuel W way.length) (hw : way.length ≤ 16) (hr : rB13 lo hi = true) (hd : W.looked < fuel) (hx : lookE14 (nd14 L n tree) W.deep ⟨no, lo, hi, way, 0⟩ = 0) (hlf : (nd14 L n tree no).2.leaf = false) {k : Nat} (hHV : VisC14 p q g B tree fuel L n k) (hwk : way.length + 1 + k = 16) :
    Calls Tryz.prog 34 #[.pointer (some ⟨p, 0, none⟩), .int .i64 no, spnV lo hi] w fun e w' => ∃ b s' W' way', e = .returned (.bool b) ∧ St14 w' p (.pointer (some ⟨q, 0, none⟩)) tree fuel s' W' way' ∧ (b = true → way' = way) ∧ Step14 (nd14 L n tree) rt14 fuel W [⟨no, lo, hi, way, 0⟩] W' b ∧ Mov14 p s w s' w' := by
  obtain ⟨nd, hnd⟩ : ∃ nd, (nd14 L n tree no).2 = nd := ⟨_, rfl⟩
  obtain ⟨tr, lf, ks, vs⟩ := nd
  obtain rfl : lf = false := by rw [hnd] at hlf; exact hlf
  clear hlf
  have hb1 : Below w.heap.size w (w.alloc (.cells #[.int .i64 lo, .int .i64 hi] 78)) := (Below.refl _ _).alloc (Nat.le_refl _) _
  have h1 := h.later hb1
  have c3 := h1.c3
  have c7 := h1.c7
  have HB1 := Lib.hid hb1
  have hdd : decide (fuel ≤ W.looked) = false := by simpa using hd
  have HK : Hid (SpnAt (w.alloc (.cells #[.int .i64 lo, .int .i64 hi] 78)) w.heap.size lo hi) := SpnAt.new w lo hi
  have HH := Lib.hid (And.intro h (And.intro hIm (And.intro hF (And.intro hr hd))))
  have hlo0 := hF.low
  have hlo1 := hF.few
  have hpl := h.lt
  have HL : Hid (vs.length = ks.length ∧ ks.length ≤ 18 ∧ fit13 lo hi ks = 0 ∧ (∀ x ∈ vs, x.length = 4) ∧ 0 < ks.length) := by
    have z := lookE14_zero hx
    have h1 := (ndOk14 L n tree).len no z.2.2.1
    have h2 := nd14_keys L n tree no
    have h3 := (ndOk14 L n tree).ord no z.2.2.1
    have h4 := z.2.2.2.1
    have h5 := nd14_inner z.2.2.1 (by show (nd14 L n tree no).2.leaf = false; rw [hnd])
    have h6 := (rightN_iff.1 (nd14_read z.2.2.1).2.1).2.2.2.2.2
    have h6 : (nd14 L n tree no).2.leaf = true ∨ 0 < (nd14 L n tree no).2.keys.length := h6
    have h4 : ins13 lo hi (nd14 L n tree no).2.keys = true := h4
    have h5 : ∀ v ∈ (nd14 L n tree no).2.vals, v.length = 4 := h5
    rw [hnd] at h1 h2 h3 h4 h5 h6
    refine ⟨h1, h2, fit13_ok hr h3 h4, h5, ?_⟩
    rcases h6 with h6 | h6
    · cases h6
    · exact h6
  have HVV := Lib.hid hHV
  have HWK := Lib.hid hwk
  have HFI : Hid (Fit14 fuel (W.see.inner ⟨no, lo, hi, way, 0⟩) way.length) := by
    obtain ⟨f1, f2, f3, f4, f5, f6⟩ := hF
    have e := Wlk14.inner_len W.see ⟨no, lo, hi, way, 0⟩
    refine ⟨?_, ?_, f3, ?_, ?_, ?_⟩
    · show 0 ≤ W.looked + 1; omega
    · show W.looked + 1 ≤ 1000; omega
    · show (W.ents.length : Int) ≤ 18 * (W.looked + 1); omega
    · rw [e]; show (W.blks.length : Int) + 1 ≤ W.looked + 1; omega
    · show (W.flts.length : Int) ≤ 19 * (W.looked + 1) + _; omega
  have EX : Hid (∀ w3, St14 w3 p (.pointer (some ⟨q, 0, none⟩)) tree fuel s W.see way → Im14 w3 p q g B L n → Calls Tryz.prog 46 #[.pointer (some ⟨p, 0, none⟩), .int .i64 no, .agg #[.int .i64 lo, .int .i64 hi]] w3 fun e w' => ∃ A5 n5 c5 A6 n6 c6, e = .returned (.tuple #[.agg #[.int .i64 tr, .bool false, .slice A5 n5 c5, .slice A6 n6 c6], .nilIface]) ∧ Hid (Below w3.heap.size w3 w' ∧ NodIn w' ⟨tr, false, ks, vs⟩ A5 n5 c5 A6 n6 c6 ∧ Newer w3.heap.size A5 ∧ Newer w3.heap.size A6)) := fun w3 h3 hI3 =>
    (examine_any14 h3 hI3.img hI3.len (by omega) no lo hi hr).mono fun e w' ⟨v, nd', A5, n5, c5, A6, n6, c6, e1, hE, hb, hz⟩ => by
      obtain ⟨z1, z2, z3, z4⟩ := hz hx
      rw [hnd] at z1 z2
      subst z1
      rcases hE with ⟨_, rfl⟩ | ⟨h0, _⟩
      · exact ⟨A5, n5, c5, A6, n6, c6, e1, hb, z2, z3, z4⟩
      · exact absurd hx h0
  have HND := Lib.hid hnd
  have hX := hx
  have HXX := Lib.hid (And.intro hx hx)
  have hbl : W.blks.length ≤ 1000 := by have := hF.blks; omega
  have HHS := Lib.hid h
  clear h hb1 h1 hd hF hIm hr hx hX hnd hHV hwk
  go_enter Tryz.func34, Tryz.ntmps34
  go_wp2
  go_quiet (fail)
  obtain ⟨w2, hw2⟩ : ∃ w2, ((w.alloc (.cells #[.int .i64 lo, .int .i64 hi] 78)).drewN nq) = w2 := ⟨_, rfl⟩
  have hb2 : Below w.heap.size w w2 := by rw [← hw2]; exact below_drewN HB1.out nq
  have hK2 : SpnAt w2 w.heap.size lo hi := by rw [← hw2]; exact HK.out.later (below_drewN (Below.refl _ _) nq)
  simp only [hw2]
  clear hw2 HK HB1 c3 c7 hdd
  have h2 := HH.out.1.later hb2
  have c3 := h2.c3
  have f3 := h2.fz 3
  have hwi : IntKind.i64.wrap (W.looked + 1) = W.looked + 1 := IntWalk.i64_in _ (by omega)
  obtain ⟨hp3, hm3⟩ := h2.put 3 (W.looked + 1) (.inr rfl)
  have hp3 : St14 (w2.setCell ⟨p, 3, none⟩ (.int .i64 (W.looked + 1))) p (.pointer (some ⟨q, 0, none⟩)) tree fuel s W.see way := by simp at hp3; exact hp3
  have hM3 : Mov14 p s w s (w2.setCell ⟨p, 3, none⟩ (.int .i64 (W.looked + 1))) := (Mov14.of_below s hb2).trans hm3
  have hK3 : SpnAt (w2.setCell ⟨p, 3, none⟩ (.int .i64 (W.looked + 1))) w.heap.size lo hi := hK2.mov (fun e => by have := (HH.out.1.mine_lt _ e).2; omega) hm3
  have k0 := hK3.c0
  have k1 := hK3.c1
  have HP3 := Lib.hid (And.intro hp3 (And.intro hM3 (And.intro hK3 (HH.out.2.1.below (Mov14.below HH.out.1 hM3)))))
  clear hp3 hm3 hM3 hK3 h2 hK2 hb2
  have hs3 := HP3.out.1.blk
  go_upto_region 9 with (go_at_call 46; (with_reducible refine (EX.out _ HP3.out.1 HP3.out.2.2.2).mono ?_); rintro e w4 ⟨A5, n5, c5, A6, n6, c6, rfl, hG4⟩)
  obtain ⟨w3, hw3⟩ : ∃ w3, w3 = w2.setCell ⟨p, 3, none⟩ (.int .i64 (W.looked + 1)) := ⟨_, rfl⟩
  rw [← hw3] at HP3 hG4
  clear hw3 hs3 k0 k1 c3 f3 hwi
  obtain ⟨w5, hw5⟩ : ∃ w5, w5 = w4.alloc (.cells #[.int .i64 tr, .bool false, .slice A5 n5 c5, .slice A6 n6 c6] 70) := ⟨_, rfl⟩
  have hb5 : Below w4.heap.size w4 w5 := by rw [hw5]; exact (Below.refl _ _).alloc (Nat.le_refl _) _
  have hS5 := (HP3.out.1.later hG4.out.1).later hb5
  have hz5 : w5.heap.size = w4.heap.size + 1 := by rw [hw5]; simp
  have DM : Hid (∀ (w6 : World) (g5 cap5 : Nat), (w5.alloc (.cells #[.int .i64 no] 3)).grownBy w6 s.B.ownBlock → (s.B.ownBlock = some g5 ∨ g5 = (w5.alloc (.cells #[.int .i64 no] 3)).heap.size) → w6.ownsRow (p + 1) 3 1 (.slice (some ⟨g5, 0, none⟩) (W.blks.length + 1) cap5) (W.blks.length + 1) (i64s W.blks ++ [.int .i64 no]) →
      Vs14 w (w6.setCell ⟨p, 1, none⟩ (.slice (some ⟨g5, 0, none⟩) (W.blks.length + 1) cap5)) p q g B w4.heap.size tree fuel s ⟨s.E, .slice (some ⟨g5, 0, none⟩) (W.blks.length + 1) cap5, s.F, s.P⟩ L n W no lo hi way ⟨tr, false, ks, vs⟩ A5 n5 c5 A6 n6 c6) := fun w6 g5 cap5 h1 h2 h3 => by
    rw [hw5] at h1 h2
    exact Vs14.made HHS.out HP3.out.1 HP3.out.2.1 HP3.out.2.2.1 HP3.out.2.2.2 hG4.out.1 hG4.out.2.1 hG4.out.2.2.1 hG4.out.2.2.2 h1 h2 h3
  have HOW := Lib.hid (hS5.blks.alloc (.cells #[.int .i64 no] 3))
  have HLR : Hid (Row (w5.alloc (.cells #[.int .i64 no] 3)) (some ⟨w5.heap.size, 0, none⟩) [.int .i64 no]) := Row.of_block (t := 3) (fr := (0, 0)) (heap_alloc_new w5 _)
  have HP2 : Hid (∀ (w6 : World), (w5.alloc (.cells #[.int .i64 no] 3)).grownBy w6 s.B.ownBlock → w6.heap[p]? = w5.heap[p]?) := fun w6 hg => (hg.block p (by rw [World.size_alloc]; have := hS5.lt; omega) (fun e => by have := (hS5.blks.lt p e.symm).1; omega)).trans (Below.heap_alloc _ _ _ hS5.lt)
  have HB2 := Lib.hid hS5.blk
  have c1 := hS5.c1
  have hlt5 : p < w4.heap.size := (HP3.out.1.later hG4.out.1).lt
  obtain ⟨b4, hb4⟩ : ∃ b4, b4 = w4.heap.size := ⟨_, rfl⟩
  rw [← hb4] at DM
  have DE : Hid (∀ w6 s6, Vs14 w w6 p q g B b4 tree fuel s s6 L n W no lo hi way ⟨tr, false, ks, vs⟩ A5 n5 c5 A6 n6 c6 → Calls Tryz.prog 48 #[.pointer (some ⟨p, 0, none⟩), .int .i64 no, .agg #[.int .i64 tr, .bool false, .slice A5 n5 c5, .slice A6 n6 c6], .agg #[.int .i64 lo, .int .i64 hi]] w6 fun e w' => ∃ b s' W' way', e = .returned (.bool b) ∧ St14 w' p (.pointer (some ⟨q, 0, none⟩)) tree fuel s' W' way' ∧ (b = true → way' = way) ∧ Step14 (nd14 L n tree) rt14 fuel (W.see.inner ⟨no, lo, hi, way, 0⟩) (kids14 rt14 ⟨no, lo, hi, way, 0⟩ ⟨tr, false, ks, vs⟩) W' b ∧ Mov14 p s6 w6 s' w') := fun w6 s6 hD =>
    descend_of14 HVV.out no lo hi HWK.out hD.st hD.im HFI.out HL.out.2.2.1 hD.ndi HL.out.1 HL.out.2.2.2.1 (hD.f5 HL.out.2.2.2.2) (hD.f6 (by rw [HL.out.1]; exact HL.out.2.2.2.2)) (ints_lt14 hD.ndi.keys HL.out.2.2.2.2) (far_lt14 hD.ndi.vals (by rw [HL.out.1]; exact HL.out.2.2.2.2)) HL.out.2.1
  clear hS5 hb5 hz5
  rw [hw5] at c1
  rw [hw5] at DM HOW HLR HP2 HB2
  rw [World.size_alloc] at HLR
  rw [hb4] at DM
  clear hw5
  go_wp2_with (first
    | (at_builtin; go_must (refine wpList_append_liesG _ rfl (.tmp 50) (.tmp 52) 33 rfl (p + 1) 3 1 (.int .i64 0) 8 Tryz.underlying33 info_i64 rfl (by omega) s.B W.blks.length (i64s W.blks) rfl HOW.out (by simp; omega) ⟨_, 0, none⟩ [.int .i64 no] 1 1 rfl rfl HLR.out (by simp [Value.oneCell']) (by omega) (by omega) (by omega) ?_); intro g5 cap5 w6 hown hgrow hat; have hD := DM.out w6 g5 cap5 hgrow.out hat.out hown.out; have hp5 := (HP2.out w6 hgrow.out).trans HB2.out; have c1' : w6.cell? ⟨p, 1, none⟩ = some s.B := (by rw [cell_of_row w6 p 1 _ _ _ hp5]; rfl); have f1' := frozen_of_row w6 p 1 _ _ hp5; have k0 := hD.spn.c0; have k1 := hD.spn.c1; have n0 := hD.own.c0; have n1 := hD.own.c1; have n2 := hD.own.c2; have n3 := hD.own.c3; rw [← hb4] at hD; have HD := Lib.hid hD; clear hD hp5 hown hgrow hat)
    | (go_at_call 48; (with_reducible refine (DE.out _ _ HD.out).mono ?_); rintro e w7 ⟨b, s9, W9, way9, rfl, hst9, hw9, hstep9, hm9⟩; have HX9 := Lib.hid (And.intro hst9 (And.intro hw9 (And.intro hstep9 hm9))); clear hst9 hw9 hstep9 hm9))
  go_ret
  refine ⟨b, s9, W9, way9, rfl, HX9.out.1, HX9.out.2.1, Step14.node (nd := nd14 L n tree) (rt := rt14) (v := ⟨no, lo, hi, way, 0⟩) (w := W) rfl HH.out.2.2.2.2 HXX.out.1 (by show (nd14 L n tree no).2.leaf = false; rw [HND.out]) (nd14_keys L n tree no) ?_, HD.out.mov.trans HX9.out.2.2.2⟩
  show Step14 _ _ _ _ (kids14 rt14 _ (nd14 L n tree no).2) _ _
  rw [HND.out]
  exact HX9.out.2.2.1

theorem visit_all14 {p q g B : Nat} {tree fuel : Int} {L : List UInt8} {n : Nat} : ∀ k, VisC14 p q g B tree fuel L n k := by
  intro k
  induction k with
  | zero =>
    intro w s W way no lo hi hk h hI hF hr
    by_cases hd : fuel ≤ W.looked
    · exact visit_dry14 (g := g) (B := B) no lo hi h hF (by omega) hd
    · have hx : lookE14 (nd14 L n tree) W.deep ⟨no, lo, hi, way, 0⟩ ≠ 0 := fun hz => by
        have := (lookE14_zero hz).2.1
        have : way.length + 1 ≤ 16 := this
        omega
      exact visit_bad14 no lo hi h hI hF (by omega) hr (by omega) hx
  | succ k ih =>
    intro w s W way no lo hi hk h hI hF hr
    by_cases hd : fuel ≤ W.looked
    · exact visit_dry14 (g := g) (B := B) no lo hi h hF (by omega) hd
    · by_cases hx : lookE14 (nd14 L n tree) W.deep ⟨no, lo, hi, way, 0⟩ = 0
      · cases hl : (nd14 L n tree no).2.leaf with
        | true => exact visit_leaf14 no lo hi h hI hF (by omega) hr (by omega) hx hl
        | false => exact visit_inner14 no lo hi h hI hF (by omega) hr (by omega) hx hl ih (by omega)
      · exact visit_bad14 no lo hi h hI hF (by omega) hr (by omega) hx

end Go.Proofs.YtnjlganofjkpfaaGreat

/-
  Layer 14: Scan.
-/
namespace Go.Proofs.YtnjlganofjkpfaaGreat
open Go.RowKit
set_option linter.unusedVariables false
set_option linter.unusedSimpArgs false

theorem Errs.of_own {w : World} {base n : Nat} {e : TypeId} {v : Value} {ls : List (List Node)} (h : w.ownsRow base e 1 v n (ls.map val)) : ∃ A c, v = .slice A n c ∧ Errs w A n c ls := by
  obtain ⟨A, c, rfl, h1, h2⟩ := ownsRow_form h
  refine ⟨A, c, rfl, by have := h.1; rw [List.length_map] at this; omega, h1, by simpa [maxLen] using h2, Row.of_own h⟩

/-- what a scan hands back, in memory -/
structure Wk14 (w : World) (R : Wlk14) (AE : Option Addr) (nE cE : Nat) (AB : Option Addr) (nB cB : Nat) (AF : Option Addr) (nF cF : Nat) : Prop where
  ents : Ens w AE nE cE R.ents
  blks : Ints w AB nB cB R.blks
  flts : ∃ fs, Errs w AF nF cF fs ∧ Flts14 w fs R.flts
theorem Wk14.below {w w' : World} {R : Wlk14} {AE : Option Addr} {nE cE : Nat} {AB : Option Addr} {nB cB : Nat} {AF : Option Addr} {nF cF : Nat} (h : Wk14 w R AE nE cE AB nB cB AF nF cF) (hb : Below w.heap.size w w') : Wk14 w' R AE nE cE AB nB cB AF nF cF := by
  obtain ⟨fs, h1, h2⟩ := h.flts
  exact ⟨h.ents.below hb, h.blks.below hb, fs, h1.below hb, h2.same (Keeps.of_below hb)⟩

def wkV (deep looked : Int) (AE : Option Addr) (nE cE : Nat) (AB : Option Addr) (nB cB : Nat) (AF : Option Addr) (nF cF : Nat) : Value := .agg #[.slice AE nE cE, .slice AB nB cB, .int .i64 deep, .int .i64 looked, .slice AF nF cF]

theorem St14.handed {w : World} {p : Nat} {im : Value} {tree fuel : Int} {s : Rows14} {W : Wlk14} {way : List Int} (h : St14 w p im tree fuel s W way) : ∃ AE cE AB cB AF cF, s.E = .slice AE W.ents.length cE ∧ s.B = .slice AB W.blks.length cB ∧ s.F = .slice AF W.flts.length cF ∧ Wk14 w W AE W.ents.length cE AB W.blks.length cB AF W.flts.length cF ∧ Newer (p + 1) AE ∧ Newer (p + 1) AB ∧ Newer (p + 1) AF := by
  obtain ⟨AE, cE, hE, h1⟩ := Ens.of_own h.ents
  obtain ⟨AB, cB, hB, h2⟩ := Ints.of_own h.blks
  obtain ⟨fs, hf, hF⟩ := h.flts
  obtain ⟨AF, cF, hFv, h3⟩ := Errs.of_own hf
  refine ⟨AE, cE, AB, cB, AF, cF, hE, hB, hFv, ⟨h1, h2, fs, h3, hF⟩, ?_, ?_, ?_⟩
  · have := h.ents; rw [hE] at this; exact Newer.of_own this
  · have := h.blks; rw [hB] at this; exact Newer.of_own this
  · rw [hFv] at hf; exact Newer.of_own hf

/-- the result's variable -/
def WkAt (w : World) (b : Nat) (v0 v1 v2 v3 v4 : Value) : Prop := w.heap[b]? = some (.cells #[v0, v1, v2, v3, v4] 36 (0, 0))
theorem WkAt.load {w : World} {b : Nat} {AE : Option Addr} {nE cE : Nat} {AB : Option Addr} {nB cB : Nat} {AF : Option Addr} {nF cF : Nat} {deep looked : Int} (h : WkAt w b (.slice AE nE cE) (.slice AB nB cB) (.int .i64 deep) (.int .i64 looked) (.slice AF nF cF)) : (loadVar 36 ⟨b, 0, none⟩).run Tryz.prog w = .ok (wkV deep looked AE nE cE AB nB cB AF nF cF) w := run_loadVar_row w b _ _ _ _ _ h Tryz.underlying36 rfl (by kernel_rfl)

theorem WkAt.set5 {w : World} {b : Nat} {v0 v1 v2 v3 v4 : Value} (h : WkAt w b v0 v1 v2 v3 v4) (a0 a1 a2 a3 a4 : Value) : WkAt (((((w.setCell ⟨b, 0, none⟩ a0).setCell ⟨b, 1, none⟩ a1).setCell ⟨b, 2, none⟩ a2).setCell ⟨b, 3, none⟩ a3).setCell ⟨b, 4, none⟩ a4) b a0 a1 a2 a3 a4 := by
  have h1 : Blk w b 36 [v0, v1, v2, v3, v4] := h
  exact ((((h1.set 0 a0).set 1 a1).set 2 a2).set 3 a3).set 4 a4
theorem five_keep (w : World) (b : Nat) (a0 a1 a2 a3 a4 : Value) (k : Nat) (hk : k ≠ b) : (((((w.setCell ⟨b, 0, none⟩ a0).setCell ⟨b, 1, none⟩ a1).setCell ⟨b, 2, none⟩ a2).setCell ⟨b, 3, none⟩ a3).setCell ⟨b, 4, none⟩ a4).heap[k]? = w.heap[k]? := by
  rw [heap_setCell_other _ _ k _ hk, heap_setCell_other _ _ k _ hk, heap_setCell_other _ _ k _ hk, heap_setCell_other _ _ k _ hk, heap_setCell_other _ _ k _ hk]
theorem Wk14.keep {w w' : World} {R : Wlk14} {AE : Option Addr} {nE cE : Nat} {AB : Option Addr} {nB cB : Nat} {AF : Option Addr} {nF cF : Nat} {b : Nat} {v0 v1 v2 v3 v4 : Value} (h : Wk14 w R AE nE cE AB nB cB AF nF cF) (hV : WkAt w b v0 v1 v2 v3 v4) (h1 : Newer (b + 1) AE) (h2 : Newer (b + 1) AB) (h3 : Newer (b + 1) AF) (hk : ∀ k, k ≠ b → w'.heap[k]? = w.heap[k]?) : Wk14 w' R AE nE cE AB nB cB AF nF cF := by
  obtain ⟨fs, hf, hF⟩ := h.flts
  refine ⟨h.ents.newer h1 fun k hk2 => hk k (by omega), h.blks.newer h2 fun k hk2 => hk k (by omega), fs, ⟨hf.len, hf.cap, hf.most, hf.row.newer h3 fun k hk2 => hk k (by omega)⟩, hF.same fun p c e => (hk p (fun e2 => ?_)).trans e⟩
  subst e2
  rw [show w.heap[p]? = _ from hV] at e
  injection e with e
  injection e with _ e3 _
  exact absurd e3 (by decide)

set_option maxRecDepth 100000 in
set_option maxHeartbeats 3200000 in
theorem Scan_any14 {w : World} {B q g n : Nat} {L : List UInt8} (hI : Img w B q g L) (hL : L.length = n * 256) (root tree fuel : Int) (hf : fuel ≤ 1000) :
    Calls Tryz.prog 19 #[.pointer (some ⟨q, 0, none⟩), .int .i64 root, .int .i64 tree, .int .i64 fuel] w fun e w' => ∃ R AE cE AB cB AF cF, e = .returned (wkV R.deep R.looked AE R.ents.length cE AB R.blks.length cB AF R.flts.length cF) ∧ Wk14 w' R AE R.ents.length cE AB R.blks.length cB AF R.flts.length cF ∧ Done14 (nd14 L n tree) rt14 fuel Wlk14.zero [Vis14.root root] R ∧ Below w.heap.size w w' ∧ Newer w.heap.size AE ∧ Newer w.heap.size AB ∧ Newer w.heap.size AF ∧ Fit14 fuel R 1 := by
  obtain ⟨w1, hw1⟩ : ∃ w1, w1 = (w.alloc (.cells #[.slice none 0 0, .slice none 0 0, .int .i64 0, .int .i64 0, .slice none 0 0] 36)).alloc (.cells #[.slice none 0 0, .slice none 0 0, .int .i64 0, .int .i64 0, .slice none 0 0, .pointer (some ⟨q, 0, none⟩), .int .i64 tree, .int .i64 fuel, .slice none 0 0] 75) := ⟨_, rfl⟩
  have hb0 : Below w.heap.size w (w.alloc (.cells #[.slice none 0 0, .slice none 0 0, .int .i64 0, .int .i64 0, .slice none 0 0] 36)) := (Below.refl _ _).alloc (Nat.le_refl _) _
  have hb1 : Below w.heap.size w w1 := by rw [hw1]; exact hb0.alloc (by simp) _
  have hS : St14 w1 (w.heap.size + 1) (.pointer (some ⟨q, 0, none⟩)) tree fuel ⟨.slice none 0 0, .slice none 0 0, .slice none 0 0, .slice none 0 0⟩ Wlk14.zero [] := by
    have := St14.new (w.alloc (.cells #[.slice none 0 0, .slice none 0 0, .int .i64 0, .int .i64 0, .slice none 0 0] 36)) (.pointer (some ⟨q, 0, none⟩)) tree fuel
    rw [World.size_alloc, ← hw1] at this
    exact this
  have hR : WkAt w1 w.heap.size (.slice none 0 0) (.slice none 0 0) (.int .i64 0) (.int .i64 0) (.slice none 0 0) := by
    rw [hw1]
    exact (Below.heap_alloc _ _ _ (by simp)).trans (heap_alloc_new w _)
  have hz : w1.heap.size = w.heap.size + 2 := by rw [hw1]; simp
  have HA := Lib.hid (All_any13 w1)
  have VI : Hid (∀ w2, Below w1.heap.size w1 w2 → Calls Tryz.prog 34 #[.pointer (some ⟨w.heap.size + 1, 0, none⟩), .int .i64 root, .agg #[.int .i64 0, .int .i64 281474976710656]] w2 fun e w' => ∃ b AE cE AB cB AF cF R, e = .returned (.bool b) ∧ (w'.cell? ⟨w.heap.size + 1, 0, none⟩ = some (.slice AE R.ents.length cE) ∧ w'.cell? ⟨w.heap.size + 1, 1, none⟩ = some (.slice AB R.blks.length cB) ∧ w'.cell? ⟨w.heap.size + 1, 2, none⟩ = some (.int .i64 R.deep) ∧ w'.cell? ⟨w.heap.size + 1, 3, none⟩ = some (.int .i64 R.looked) ∧ w'.cell? ⟨w.heap.size + 1, 4, none⟩ = some (.slice AF R.flts.length cF)) ∧
      Hid (Wk14 w' R AE R.ents.length cE AB R.blks.length cB AF R.flts.length cF ∧ Done14 (nd14 L n tree) rt14 fuel Wlk14.zero [Vis14.root root] R ∧ Below w.heap.size w w' ∧ (Newer (w.heap.size + 2) AE ∧ Newer (w.heap.size + 2) AB ∧ Newer (w.heap.size + 2) AF) ∧ Fit14 fuel R 1 ∧ WkAt w' w.heap.size (.slice none 0 0) (.slice none 0 0) (.int .i64 0) (.int .i64 0) (.slice none 0 0))) := fun w2 hb2 => by
    have hbb : Below w.heap.size w w2 := hb1.trans (hb2.mono (by omega))
    have hS2 := hS.later hb2
    refine (visit_all14 (q := q) (g := g) (B := B) 16 w2 _ Wlk14.zero [] root 0 281474976710656 rfl hS2 ⟨hI.below hbb hI.plt hI.glt, hL, by have := hI.plt; omega, by have := hI.glt; omega⟩ (Fit14.zero hf) (by decide)).mono ?_
    rintro e w3 ⟨b, s3, R, way3, rfl, hst, _, hstep, hmov⟩
    obtain ⟨AE, cE, AB, cB, AF, cF, e1, e2, e3, hWk, n1, n2, n3⟩ := hst.handed
    have c0 := hst.c0
    have c1 := hst.c1
    have c4 := hst.c4
    rw [e1] at c0
    rw [e2] at c1
    rw [e3] at c4
    have hbl := Mov14.below hS2 hmov
    refine ⟨b, AE, cE, AB, cB, AF, cF, R, rfl, ⟨c0, c1, hst.c2, hst.c3, c4⟩, hWk, hstep.done, hbb.trans (hbl.mono (by omega)), ⟨n1, n2, n3⟩, (Fit14.zero hf).step hstep (by simp), ?_⟩
    exact (hbl.block _ (Nat.lt_succ_self _)).trans ((hb2.block _ (by omega)).trans hR)
  clear hI hL hf hb0 hb1 hS hR hz
  subst hw1
  go_enter Tryz.func19, Tryz.ntmps19
  go_wp2_with (first
    | (go_at_call 35; (with_reducible refine (HA.out).mono ?_); rintro e w2 ⟨rfl, hb2⟩; have HB2 := Lib.hid hb2; clear hb2)
    | (go_at_call 34; (with_reducible refine (VI.out _ HB2.out).mono ?_); rintro e w3 ⟨b, AE, cE, AB, cB, AF, cF, R, rfl, ⟨c0, c1, c2, c3, c4⟩, HX⟩; have r0 : w3.cell? ⟨w.heap.size, 0, none⟩ = some (.slice none 0 0) := (by rw [cell_of_row w3 w.heap.size 0 _ _ _ HX.out.2.2.2.2.2]; rfl); have r1 : w3.cell? ⟨w.heap.size, 1, none⟩ = some (.slice none 0 0) := (by rw [cell_of_row w3 w.heap.size 1 _ _ _ HX.out.2.2.2.2.2]; rfl); have r2 : w3.cell? ⟨w.heap.size, 2, none⟩ = some (.int .i64 0) := (by rw [cell_of_row w3 w.heap.size 2 _ _ _ HX.out.2.2.2.2.2]; rfl); have r3 : w3.cell? ⟨w.heap.size, 3, none⟩ = some (.int .i64 0) := (by rw [cell_of_row w3 w.heap.size 3 _ _ _ HX.out.2.2.2.2.2]; rfl); have r4 : w3.cell? ⟨w.heap.size, 4, none⟩ = some (.slice none 0 0) := (by rw [cell_of_row w3 w.heap.size 4 _ _ _ HX.out.2.2.2.2.2]; rfl); have f0 := frozen_of_row w3 w.heap.size 0 _ _ HX.out.2.2.2.2.2; have f1 := frozen_of_row w3 w.heap.size 1 _ _ HX.out.2.2.2.2.2; have f2 := frozen_of_row w3 w.heap.size 2 _ _ HX.out.2.2.2.2.2; have f3 := frozen_of_row w3 w.heap.size 3 _ _ HX.out.2.2.2.2.2; have f4 := frozen_of_row w3 w.heap.size 4 _ _ HX.out.2.2.2.2.2))
  obtain ⟨hWk, hD, hb, ⟨n1, n2, n3⟩, hF, hR⟩ := HX.out
  have h5 := hR.set5 (.slice AE R.ents.length cE) (.slice AB R.blks.length cB) (.int .i64 R.deep) (.int .i64 R.looked) (.slice AF R.flts.length cF)
  refine bodyPost_ret (res1_13 Tryz.results19 _ _ rfl h5.load) rfl ?_
  exact ⟨R, AE, cE, AB, cB, AF, cF, rfl, hWk.keep hR (n1.mono (Nat.le_succ _)) (n2.mono (Nat.le_succ _)) (n3.mono (Nat.le_succ _)) (five_keep w3 w.heap.size _ _ _ _ _), hD, ((((hb.setCell (p := ⟨w.heap.size, 0, none⟩) (Nat.le_refl _) _).setCell (p := ⟨w.heap.size, 1, none⟩) (Nat.le_refl _) _).setCell (p := ⟨w.heap.size, 2, none⟩) (Nat.le_refl _) _).setCell (p := ⟨w.heap.size, 3, none⟩) (Nat.le_refl _) _).setCell (p := ⟨w.heap.size, 4, none⟩) (Nat.le_refl _) _, n1.mono (by omega), n2.mono (by omega), n3.mono (by omega), hF⟩

end Go.Proofs.YtnjlganofjkpfaaGreat

/-
  Layer 14: the law's lives.
-/
namespace Go.Proofs.YtnjlganofjkpfaaGreat
open Go.RowKit
set_option linter.unusedVariables false
set_option linter.unusedSimpArgs false

/-- an image in a later world -/
structure Lv14 (w W : World) (p g : Nat) (L : List UInt8) : Prop where
  bel : Below w.heap.size w W
  img : Img W w.heap.size p g L
theorem Lv14.later {w W W' : World} {p g : Nat} {L : List UInt8} (h : Lv14 w W p g L) (hb : Below W.heap.size W W') : Lv14 w W' p g L := ⟨h.bel.trans (hb.mono h.bel.size), h.img.later hb⟩

end Go.Proofs.YtnjlganofjkpfaaGreat

/-
  Layer 14's Whole, where the scan has no fault.
-/
namespace Go.Proofs.YtnjlganofjkpfaaGreat
open Go.RowKit
set_option linter.unusedVariables false
set_option linter.unusedSimpArgs false

theorem res17_cell {P : Program} {fn : Func} {p q : Tmp} {t1 : TypeId} (h : fn.results = #[.cell p t1, .tmp q]) (tmps : Array Value) (w : World) {a : Addr} {v : Value}
    (hp : tmps.getD p undef = .pointer (some a)) (h1 : (loadVar t1 a).run P w = .ok v w) : (results fn tmps).run P w = .ok (.tuple #[v, tmps.getD q undef]) w := by
  have hp' : tmps[p]?.getD undef = .pointer (some a) := by simpa using hp
  simp [results, h, hp', asAddr, h1, Result.andThen, Sem.run_bind]
def WkC17 (w : World) (b : Nat) (v0 v1 v2 v3 v4 : Value) : Prop := (w.cell? ⟨b, 0, none⟩ = some v0 ∧ w.cell? ⟨b, 1, none⟩ = some v1 ∧ w.cell? ⟨b, 2, none⟩ = some v2 ∧ w.cell? ⟨b, 3, none⟩ = some v3 ∧ w.cell? ⟨b, 4, none⟩ = some v4) ∧ w.frozen? ⟨b, 0, none⟩ = false ∧ w.frozen? ⟨b, 1, none⟩ = false ∧ w.frozen? ⟨b, 2, none⟩ = false ∧ w.frozen? ⟨b, 3, none⟩ = false ∧ w.frozen? ⟨b, 4, none⟩ = false
theorem WkAt.five17 {W : World} {b : Nat} {v0 v1 v2 v3 v4 : Value} (h : WkAt W b v0 v1 v2 v3 v4) : WkC17 W b v0 v1 v2 v3 v4 :=
  ⟨⟨by rw [cell_of_row W b 0 _ _ _ h]; rfl, by rw [cell_of_row W b 1 _ _ _ h]; rfl, by rw [cell_of_row W b 2 _ _ _ h]; rfl, by rw [cell_of_row W b 3 _ _ _ h]; rfl, by rw [cell_of_row W b 4 _ _ _ h]; rfl⟩, frozen_of_row W b 0 _ _ h, frozen_of_row W b 1 _ _ h, frozen_of_row W b 2 _ _ h, frozen_of_row W b 3 _ _ h, frozen_of_row W b 4 _ _ h⟩

set_option maxRecDepth 100000 in
set_option maxHeartbeats 3200000 in
theorem Whole_ok17 {w : World} {B q g n : Nat} {L : List UInt8} (hI : Img w B q g L) (hL : L.length = n * 256) (root tree fuel : Int) (hf : fuel ≤ 1000) {R : Wlk14} (hD : Done14 (nd14 L n tree) rt14 fuel Wlk14.zero [Vis14.root root] R) (hz : R.flts = []) :
    Calls Tryz.prog 7 #[.pointer (some ⟨q, 0, none⟩), .int .i64 root, .int .i64 tree, .int .i64 fuel] w fun e w' => ∃ AE cE AB cB AF cF, e = .returned (.tuple #[.agg #[.slice AE R.ents.length cE, .slice AB R.blks.length cB, .int .i64 R.deep, .int .i64 R.looked, .slice AF R.flts.length cF], .nilIface]) ∧ Wk14 w' R AE R.ents.length cE AB R.blks.length cB AF R.flts.length cF ∧ Below w.heap.size w w' := by
  have SC : Hid (Calls Tryz.prog 19 #[.pointer (some ⟨q, 0, none⟩), .int .i64 root, .int .i64 tree, .int .i64 fuel] (w.alloc (.cells #[.slice none 0 0, .slice none 0 0, .int .i64 0, .int .i64 0, .slice none 0 0] 36)) fun e w' => ∃ AE cE AB cB AF cF fs, e = .returned (.agg #[.slice AE R.ents.length cE, .slice AB R.blks.length cB, .int .i64 R.deep, .int .i64 R.looked, .slice AF R.flts.length cF]) ∧ Hid (Wk14 w' R AE R.ents.length cE AB R.blks.length cB AF R.flts.length cF ∧ Errs w' AF R.flts.length cF fs ∧ Flts14 w' fs R.flts) ∧ Hid (Newer (w.heap.size + 1) AE ∧ Newer (w.heap.size + 1) AB ∧ Newer (w.heap.size + 1) AF) ∧ Hid (Below w.heap.size w w') ∧ Hid (WkAt w' w.heap.size (.slice none 0 0) (.slice none 0 0) (.int .i64 0) (.int .i64 0) (.slice none 0 0))) := by
    have hb0 : Below w.heap.size w (w.alloc (.cells #[.slice none 0 0, .slice none 0 0, .int .i64 0, .int .i64 0, .slice none 0 0] 36)) := (Below.refl _ _).alloc (Nat.le_refl _) _
    have hR0 : WkAt (w.alloc (.cells #[.slice none 0 0, .slice none 0 0, .int .i64 0, .int .i64 0, .slice none 0 0] 36)) w.heap.size (.slice none 0 0) (.slice none 0 0) (.int .i64 0) (.int .i64 0) (.slice none 0 0) := heap_alloc_new w _
    refine (Scan_any14 (hI.later hb0) hL root tree fuel hf).mono ?_
    rintro e w' ⟨R2, AE, cE, AB, cB, AF, cF, h1, h2, h3, h4, h5, h6, h7, _⟩
    obtain rfl := hD.one h3
    rw [World.size_alloc] at h5 h6 h7
    obtain ⟨fs, h8, h9⟩ := h2.flts
    exact ⟨AE, cE, AB, cB, AF, cF, fs, h1, ⟨h2, h8, h9⟩, ⟨h5, h6, h7⟩, hb0.trans (h4.mono hb0.size), (h4.block _ (block_lt hR0)).trans hR0⟩
  have FI : Hid (∀ U AF n cF fs, Hid (Errs U AF n cF fs) → Calls Tryz.prog 20 #[.slice AF n cF] U fun e w' => e = .returned (val (firstOf fs)) ∧ U = w') := fun U AF n cF fs hE => First_any hE.out
  clear hI hL hf hD
  have HZ := Lib.hid hz
  clear hz
  go_enter Tryz.func7, Tryz.ntmps7
  go_wp2_with (first
    | (go_at_call 19; (with_reducible refine (SC.out).mono ?_); rintro e w1 ⟨AE, cE, AB, cB, AF, cF, fs, rfl, HK, HNW, HB, HR⟩; obtain ⟨U2, hU2⟩ : ∃ U2, w1.alloc (.cells #[.slice AE R.ents.length cE, .slice AB R.blks.length cB, .int .i64 R.deep, .int .i64 R.looked, .slice AF R.flts.length cF] 36) = U2 := ⟨_, rfl⟩; have hbu : Below w1.heap.size w1 U2 := (by rw [← hU2]; exact (Below.refl _ _).alloc (Nat.le_refl _) _); have hV : WkAt U2 w1.heap.size (.slice AE R.ents.length cE) (.slice AB R.blks.length cB) (.int .i64 R.deep) (.int .i64 R.looked) (.slice AF R.flts.length cF) := (by rw [← hU2]; exact heap_alloc_new w1 _); have HK2 : Hid (Wk14 U2 R AE R.ents.length cE AB R.blks.length cB AF R.flts.length cF) := HK.out.1.below hbu; have hE2 : Hid (Errs U2 AF R.flts.length cF fs) := HK.out.2.1.below hbu; have HR2 : Hid (WkAt U2 w.heap.size (.slice none 0 0) (.slice none 0 0) (.int .i64 0) (.int .i64 0) (.slice none 0 0)) := (hbu.block _ (block_lt HR.out)).trans HR.out; have HB2 := Lib.hid (HB.out.trans (hbu.mono HB.out.size)); have hfs : fs = [] := (by have h := HK.out.2.2; rw [HZ.out] at h; cases fs with | nil => rfl | cons a b => exact h.elim); have HFS := Lib.hid hfs; clear hfs; obtain ⟨⟨v0, v1, v2, v3, v4⟩, _⟩ := hV.five17; obtain ⟨⟨r0, r1, r2, r3, r4⟩, f0, f1, f2, f3, f4⟩ := HR2.out.five17; clear hV hbu)
    | (go_at_call 20; (with_reducible refine (FI.out _ _ _ _ _ hE2).mono ?_); rintro e w3 ⟨rfl, rfl⟩; rw [HFS.out]; have hvn : val (firstOf []) = .nilIface := rfl; rw [hvn]))
  have h5 := HR2.out.set5 (.slice AE R.ents.length cE) (.slice AB R.blks.length cB) (.int .i64 R.deep) (.int .i64 R.looked) (.slice AF R.flts.length cF)
  refine bodyPost_ret (res17_cell Tryz.results7 _ _ (a := ⟨w.heap.size, 0, none⟩) rfl h5.load) rfl ?_
  refine ⟨AE, cE, AB, cB, AF, cF, rfl, HK2.out.keep HR2.out HNW.out.1 HNW.out.2.1 HNW.out.2.2 (five_keep U2 w.heap.size _ _ _ _ _), ?_⟩
  exact ((((HB2.out.setCell (p := ⟨w.heap.size, 0, none⟩) (Nat.le_refl _) _).setCell (p := ⟨w.heap.size, 1, none⟩) (Nat.le_refl _) _).setCell (p := ⟨w.heap.size, 2, none⟩) (Nat.le_refl _) _).setCell (p := ⟨w.heap.size, 3, none⟩) (Nat.le_refl _) _).setCell (p := ⟨w.heap.size, 4, none⟩) (Nat.le_refl _) _
end Go.Proofs.YtnjlganofjkpfaaGreat

/-
  The walk of BuildBack.
-/
namespace Go.Proofs.YtnjlganofjkpfaaGreat
open Go.RowKit
set_option linter.unusedVariables false
set_option linter.unusedSimpArgs false

/-! ### a row of one's own, one cell of it set -/
theorem own_set17 {w : World} {base : Nat} {e : TypeId} {size n c : Nat} {A : Option Addr} {xs : List Value} (h : w.ownsRow base e size (.slice A n c) n xs) {j : Nat} (hj : j < xs.length) : ∃ g, A = some ⟨g, 0, none⟩ ∧ base ≤ g ∧ w.frozen? ⟨g, j, none⟩ = false ∧ ∀ v, (w.setCell ⟨g, j, none⟩ v).ownsRow base e size (.slice A n c) n (xs.set j v) := by
  rcases h.2 with ⟨_, h0⟩ | ⟨g, cap, cur, hv, hg, hh, h1, h2, h3, h4⟩
  · have := h.1
    rw [h0] at this
    simp at this
    rw [this] at hj
    simp at hj
  · injection hv with hv1 _ hv3
    subst hv1 hv3
    refine ⟨g, rfl, hg, frozen_of_row w g j _ _ hh, fun v => ⟨by rw [List.length_set]; exact h.1, .inr ⟨g, c, cur.setIfInBounds j v, rfl, hg, ?_, h1, h2, by simpa using h3, ?_⟩⟩⟩
    · rw [heap_setCell_same w g j _ e v hh]
    · rw [Array.toList_setIfInBounds, ← h4, List.take_set]
theorem entC_set : ∀ (l : List Ent17) (i : Nat) (k : Int), (entC l).set (i * 3) (.int .i64 k) = entC (l.set i (k, (l.getD i (0, [], 0)).2))
  | [], i, k => by simp [entC]
  | x :: r, 0, k => by simp [entC]
  | x :: r, i + 1, k => by
    have ih := entC_set r i k
    rw [show (i + 1) * 3 = i * 3 + 1 + 1 + 1 by omega]
    have e1 : entC (x :: r) = .int .i64 x.1 :: .string ⟨x.2.1.toArray⟩ :: .int .i64 x.2.2 :: entC r := by simp [entC]
    rw [e1, List.set_cons_succ, List.set_cons_succ, List.set_cons_succ, ih]
    simp [entC]

/-! ### the entries that are built -/
/-- the keys: from the first on, with gaps -/
def keyG17 (first : Nat) (gaps : List UInt8) : Nat → Nat
  | 0 => first
  | i + 1 => keyG17 first gaps i + 1 + (if i < gaps.length then (gaps.getD i 0).toNat else 0)
theorem keyG17_le (first : Nat) (gaps : List UInt8) : ∀ i, keyG17 first gaps i ≤ first + 256 * i
  | 0 => by simp [keyG17]
  | i + 1 => by
    have := keyG17_le first gaps i
    have h2 : (gaps.getD i 0).toNat ≤ 255 := by have := (gaps.getD i 0).toNat_lt; omega
    rw [keyG17]
    split <;> omega
theorem keyG17_lt (first : Nat) (gaps : List UInt8) (i : Nat) : keyG17 first gaps i < keyG17 first gaps (i + 1) := by
  rw [keyG17]
  split <;> omega
/-- so many of them have their keys -/
def back17 (wd N first : Nat) (gaps : List UInt8) (i : Nat) : List Ent17 := (List.range N).map fun j : Nat => (if j < i then ((keyG17 first gaps j : Nat) : Int) else 3 * (j : Int), zero17 wd, 0)
theorem back17_length (wd N first : Nat) (gaps : List UInt8) (i : Nat) : (back17 wd N first gaps i).length = N := by simp [back17]
theorem back17_zero (wd N first : Nat) (gaps : List UInt8) : back17 wd N first gaps 0 = some17 wd N := by simp [back17, some17]
theorem back17_succ {wd N first : Nat} {gaps : List UInt8} {i : Nat} (hi : i < N) : (back17 wd N first gaps i).set i (((keyG17 first gaps i : Nat) : Int), ((back17 wd N first gaps i).getD i (0, [], 0)).2) = back17 wd N first gaps (i + 1) := by
  apply List.ext_getElem
  · simp [back17]
  · intro j h1 h2
    rw [List.getElem_set]
    have hj : j < N := by rw [back17_length] at h2; exact h2
    have e : (back17 wd N first gaps i).getD i (0, [], 0) = (3 * (i : Int), zero17 wd, 0) := by
      simp [back17, List.getD_eq_getElem?_getD, hi]
    by_cases hij : i = j
    · subst hij
      rw [if_pos rfl, e]
      simp [back17]
    · rw [if_neg hij]
      simp only [back17, List.getElem_map, List.getElem_range]
      by_cases h3 : j < i
      · rw [if_pos h3, if_pos (by omega)]
      · rw [if_neg h3, if_neg (by omega)]
theorem back17_at {wd N first : Nat} {gaps : List UInt8} {j : Nat} (hj : j < N) : (back17 wd N first gaps N)[j]'(by rw [back17_length]; exact hj) = (((keyG17 first gaps j : Nat) : Int), zero17 wd, 0) := by
  simp [back17, hj]
theorem back17_right {T N first : Nat} {gaps : List UInt8} (hT : 1 ≤ T ∧ T ≤ 5) (hN : N ≤ 511) (hf : first ≤ 16777215) : rightB17 (T : Int) (back17 (widN (T : Int) true) N first gaps N) = true := by
  have hw := wide17 hT
  have hK : maxK = 281474976710655 := rfl
  refine right17_of (by omega) (by rw [back17_length]; omega) (fun e he => ?_) (fun i hi => ?_)
  · obtain ⟨j, hj, rfl⟩ := List.getElem_of_mem he
    rw [back17_length] at hj
    rw [back17_at hj]
    have := keyG17_le first gaps j
    exact ⟨by show 0 ≤ ((keyG17 first gaps j : Nat) : Int); omega, by show ((keyG17 first gaps j : Nat) : Int) ≤ maxK; omega, by simp⟩
  · rw [back17_length] at hi
    rw [key17_at (by rw [back17_length]; omega), key17_at (by rw [back17_length]; omega), back17_at (by omega), back17_at hi]
    have := keyG17_lt first gaps i
    show ((keyG17 first gaps i : Nat) : Int) < ((keyG17 first gaps (i + 1) : Nat) : Int)
    omega
theorem back17_entB {wd N first : Nat} {gaps : List UInt8} (hw : wd ≤ 24) (hN : N ≤ 511) (hf : first ≤ 16777215) : EntB (back17 wd N first gaps N) := by
  intro q hq
  obtain ⟨j, hj, rfl⟩ := List.getElem_of_mem hq
  rw [back17_length] at hj
  rw [back17_at hj]
  have := keyG17_le first gaps j
  exact ⟨⟨by show -9223372036854775808 ≤ ((keyG17 first gaps j : Nat) : Int); omega, by show ((keyG17 first gaps j : Nat) : Int) ≤ _; omega⟩, by simp; omega⟩
/-- how many nodes, more narrowly -/
theorem need17b {T n : Nat} (hT : 1 ≤ T ∧ T ≤ 5) (hn : n ≤ 511) : (lev15 n (capN (widN (T : Int) true))).sum ≤ 100 := by
  have h := lev15_mono (m := capN (widN (T : Int) true)) hn
  have big : ∀ m a b : Nat, fil15 511 m = a → fil15 a 18 = b → 1 < a → b ≤ 18 → (lev15 511 m).sum ≤ (a : Int) + b + 1 := fun m a b h1 h2 h3 h4 => by
    rw [lev15, h1, up15_more h3, h2]
    by_cases hb : 1 < b
    · have e : fil15 b 18 = 1 := by unfold fil15; omega
      rw [up15_more hb, e, up15_one (by omega)]
      simp only [List.sum_cons, List.sum_nil]
      omega
    · rw [up15_one hb]
      simp only [List.sum_cons, List.sum_nil]
      omega
  have c : capN (widN (T : Int) true) = 18 ∨ capN (widN (T : Int) true) = 12 ∨ capN (widN (T : Int) true) = 6 ∨ capN (widN (T : Int) true) = 9 := by
    have hw := wide17 hT
    rcases widN_cases (T : Int) true with ⟨_, h2⟩ | ⟨_, h2⟩ | ⟨_, h2⟩ | ⟨_, h2⟩ | ⟨_, h2⟩ <;> omega
  rcases c with c | c | c | c <;> rw [c] at h ⊢
  · have := big 18 29 2 (by decide) (by decide) (by omega) (by omega); omega
  · have := big 12 43 3 (by decide) (by decide) (by omega) (by omega); omega
  · have := big 6 86 5 (by decide) (by decide) (by omega) (by omega); omega
  · have := big 9 57 4 (by decide) (by decide) (by omega) (by omega); omega

theorem and17_first (n : Int) : ∃ N : Nat, bits .and .i64 n 16777215 = (N : Int) ∧ N ≤ 16777215 := by
  have hm : (BitVec.ofInt 64 16777215).toNat = 2 ^ 24 - 1 := by decide
  have key : (BitVec.ofInt 64 n &&& BitVec.ofInt 64 16777215).toNat = (n % ((2 ^ 64 : Nat) : Int)).toNat % 2 ^ 24 := by
    rw [BitVec.toNat_and, BitVec.toNat_ofInt, hm, Nat.and_two_pow_sub_one_eq_mod]
  refine ⟨(BitVec.ofInt 64 n &&& BitVec.ofInt 64 16777215).toNat, ?_, by rw [key]; omega⟩
  show IntKind.i64.wrap ((BitVec.ofInt 64 n &&& BitVec.ofInt 64 16777215).toNat : Nat) = _
  rw [IntKind.wrap_i64, key]
  omega
/-- the tree built, and scanned: what is told of it -/
structure Bb17 (w W : World) (p k K : Nat) (deep : Int) (A2 : Option Addr) (N c2 : Nat) (l : List Ent17) (A3 : Option Addr) (c3 : Nat) (es : List Ent17) (bw : Nat) (AB : Option Addr) (cB : Nat) : Prop where
  bel : Below w.heap.size w W
  us : ∃ base m g A n c B bs L, AImg W base p m B g A n c bs k L
  ens : Ens W A2 N c2 l
  ent : Ens W A3 N c3 es
  wk : ∃ AF nF cF looked, WkAt W bw (.slice A3 N c3) (.slice AB k cB) (.int .i64 deep) (.int .i64 looked) (.slice AF nF cF)
section
variable {w W W' : World} {p k K : Nat} {deep : Int} {A2 : Option Addr} {N c2 : Nat} {l : List Ent17} {A3 : Option Addr} {c3 : Nat} {es : List Ent17} {bw : Nat} {AB : Option Addr} {cB : Nat}
theorem Bb17.later (h : Bb17 w W p k K deep A2 N c2 l A3 c3 es bw AB cB) (hb : Below W.heap.size W W') : Bb17 w W' p k K deep A2 N c2 l A3 c3 es bw AB cB := by
  obtain ⟨base, m, g, A, n, c, B, bs, L, h1⟩ := h.us
  obtain ⟨AF, nF, cF, lk, h2⟩ := h.wk
  exact ⟨h.bel.trans (hb.mono h.bel.size), ⟨base, m, g, A, n, c, B, bs, L, h1.later hb⟩, h.ens.below hb, h.ent.below hb, AF, nF, cF, lk, (hb.block _ (block_lt h2)).trans h2⟩
theorem Bb17.used (h : Bb17 w W p k K deep A2 N c2 l A3 c3 es bw AB cB) : Calls Tryz.prog 9 #[.pointer (some ⟨p, 0, none⟩)] W fun e w' => e = .returned (.int .i64 (k : Int)) ∧ W = w' := by
  obtain ⟨base, m, g, A, n, c, B, bs, L, h1⟩ := h.us
  exact Used_yes16 h1.alc
theorem Bb17.cs (h : Bb17 w W p k K deep A2 N c2 l A3 c3 es bw AB cB) : W.cell? ⟨bw, 0, none⟩ = some (.slice A3 N c3) ∧ W.cell? ⟨bw, 1, none⟩ = some (.slice AB k cB) ∧ W.cell? ⟨bw, 2, none⟩ = some (.int .i64 deep) := by
  obtain ⟨AF, nF, cF, lk, h2⟩ := h.wk
  obtain ⟨⟨a, b, c, _⟩, _⟩ := h2.five17
  exact ⟨a, b, c⟩
end

/-- behind Tree -/
structure TrB17 (w W : World) (p m k T N K : Nat) (A2 : Option Addr) (c2 : Nat) (l : List Ent17) (base g : Nat) (A : Option Addr) (n c B : Nat) (L : List UInt8) (es : List Ent17) (bl : List Int) : Prop where
  bel : Below w.heap.size w W
  ai : AImg W base p m B g A n c (seq16 2 150) k L
  len : L.length = 150 * 256
  ens : Ens W A2 N c2 l
  dn : Done14 (nd14 L 150 (T : Int)) rt14 200 Wlk14.zero [Vis14.root ((k : Int) + 1)] ⟨es, bl, (K : Int), (bl.length : Int), []⟩
  kv : es.map kv17 = l.map kv17
  bll : bl.length = k
theorem tree17_back {w Wl W : World} {p N T k m g : Nat} {A2 : Option Addr} {c2 base : Nat} {A : Option Addr} {n c : Nat} {l : List Ent17} (hT : 1 ≤ T ∧ T ≤ 5) (hr : rightB17 (T : Int) l = true) (hEB : EntB l) (hlN : l.length = N) (hk : (lev15 N (capN (widN (T : Int) true))).sum = (k : Int)) (hk1 : 1 ≤ k) (hk2 : k ≤ 100) (hw : Below w.heap.size w Wl) (hE : Ens Wl A2 N c2 l) (hb : Below Wl.heap.size Wl W) (ha : AImg W base p m Wl.heap.size g A n c (seq16 2 150) 0 (zero17 (150 * 256))) (hlo : Wl.heap.size ≤ base) :
    Calls Tryz.prog 6 #[.pointer (some ⟨p, 0, none⟩), .int .i64 (T : Int), .slice A2 N c2] W fun e w' => e = .returned (.tuple #[.int .i64 ((k : Int) + 1), .nilIface]) ∧ ∃ L es bl, TrB17 w w' p m k T N (lev15 N (capN (widN (T : Int) true))).length A2 c2 l base g A n c Wl.heap.size L es bl := by
  subst hlN
  have hR := rightB17_yes hr
  have hB := seq17_bs (f := 2) (q := 150) (by omega) (by omega)
  have hL0 : (zero17 (150 * 256)).length = 150 * 256 := by simp
  have hf : ((0 : Nat) : Int) + (lev15 l.length (capN (widN (T : Int) true))).sum ≤ ((seq16 2 150).length : Int) := by rw [hk, seq16_length]; omega
  obtain ⟨root, t', L', es, bl, s1, s2, s3, s4, s5, s6, s7⟩ := bldB17_scan (fuel := 200) hR hB hL0 hf (by rw [hk]; omega)
  obtain ⟨o1, o2, o3, o4, o5, o6⟩ := out17_room (q := 150) (f := 2) (L := zero17 (150 * 256)) hr hk (by omega)
  rw [s1] at o5 o6
  simp only at o5 o6
  have hgl := ha.img.bg
  have hpl := ha.alc.bp
  have hwl := hw.size
  have hfar : 0 < l.length → ∀ ad, A2 = some ad → ad.block ≠ g ∧ ad.block ≠ p := fun h0 ad e => by
    obtain ⟨b', off', hA', hlt, _⟩ := hE.row.lit (by rw [entC_length]; omega)
    rw [hA'] at e
    injection e with e
    rw [← e]
    exact ⟨by show b' ≠ g; omega, by show b' ≠ p; omega⟩
  have hC := Tree_any17 (tree := (T : Int)) ha (hE.below hb) hfar hEB hB hL0 (by simp only [i64b]; omega)
  rw [o1, o2, o3, o4, s1] at hC
  refine hC.mono ?_
  rintro e w' ⟨g1, g2, g3⟩
  rw [show ((2 + k - 1 : Nat) : Int) = (k : Int) + 1 by omega] at g1 o6
  have hbw := hw.trans (hb.mono hwl)
  refine ⟨g1, L', es, bl, ⟨⟨g3.os.trans hbw.os, g3.tape.trans hbw.tape, g3.output.trans hbw.output, Nat.le_trans hbw.size g3.size, fun j hj => (g3.block j (Nat.lt_of_lt_of_le hj hbw.size) (fun e => by injection e; omega) (fun e => by injection e; omega)).trans (hbw.block j hj)⟩, g2, s5, (hE.below hb).fr17 (fun h0 ad e => ⟨fun e2 => (hfar h0 ad e).1 (by injection e2), fun e2 => (hfar h0 ad e).2 (by injection e2)⟩) g3, ?_, s2, by omega⟩⟩
  rw [← o6]
  exact s7

set_option maxRecDepth 100000 in
set_option maxHeartbeats 6400000 in
theorem buildback_walk (n tree first : Int) (A3 : Option Addr) (n3 c3 : Nat) (gaps : List UInt8) (w : World) (_hn : -9223372036854775808 ≤ n ∧ n ≤ 9223372036854775807) (_ht : -9223372036854775808 ≤ tree ∧ tree ≤ 9223372036854775807) (_hf : -9223372036854775808 ≤ first ∧ first ≤ 9223372036854775807) (hG : Bytes8 w A3 n3 c3 gaps) :
    Calls Tryz.prog 3 #[.int .i64 n, .int .i64 tree, .int .i64 first, .slice A3 n3 c3] w fun e w' => e = .returned (.bool true) ∧ Below w.heap.size w w' := by
  obtain ⟨N, hN, hN2⟩ := and17_511 n
  obtain ⟨T, hT0, hT⟩ := tree17_in tree
  obtain ⟨F, hF, hF2⟩ := and17_first first
  obtain ⟨k, hk, hk1, _, hkl⟩ := need17 hT hN2
  have hk2 := need17b hT hN2
  rw [hk] at hk2
  have hwd := (wide17 hT).1
  have SM : Hid (Calls Tryz.prog 4 #[.int .i64 (N : Int), .int .i64 (T : Int)] w fun e w' => ∃ A2 c2, e = .returned (.slice A2 N c2) ∧ Hid (w'.ownsRow w.heap.size 26 3 (.slice A2 N c2) N (entC (back17 (widN (T : Int) true) N F gaps 0))) ∧ Hid (Below w.heap.size w w')) := by
    refine (some_any17 T N hT (by omega) w).mono ?_
    rintro e w' ⟨v, h1, h2, h3⟩
    obtain ⟨A2, c2, rfl, _, _⟩ := ownsRow_form h2
    rw [← back17_zero (widN (T : Int) true) N F gaps] at h2
    exact ⟨A2, c2, h1, h2, h3⟩
  have hglen := hG.len
  have hgcap := hG.cap
  have hgmost := hG.most
  have HG := Lib.hid hG
  have STEP : Hid (∀ (W : World) (A2 : Option Addr) (c2 i : Nat), i < N → W.ownsRow w.heap.size 26 3 (.slice A2 N c2) N (entC (back17 (widN (T : Int) true) N F gaps i)) → ∃ g, A2 = some ⟨g, 0, none⟩ ∧ w.heap.size ≤ g ∧ W.frozen? ⟨g, i * 3, none⟩ = false ∧ (∃ u, W.cell? ⟨g, i * 3, none⟩ = some u) ∧ (W.setCell ⟨g, i * 3, none⟩ (.int .i64 ((keyG17 F gaps i : Nat) : Int))).ownsRow w.heap.size 26 3 (.slice A2 N c2) N (entC (back17 (widN (T : Int) true) N F gaps (i + 1)))) := fun W A2 c2 i hi ho => by
    obtain ⟨g, h1, h2, h3, h4⟩ := own_set17 ho (j := i * 3) (by rw [entC_length, back17_length]; omega)
    have h5 := h4 (.int .i64 ((keyG17 F gaps i : Nat) : Int))
    rw [entC_set, back17_succ hi] at h5
    obtain ⟨A', c', hv, hE⟩ := Ens.of_own ho
    injection hv with hv _ _
    subst hv
    subst h1
    obtain ⟨b, off, hA, e0, _⟩ := hE.at_ (k := i) hi
    injection hA with hA
    injection hA with x1 x2
    subst x1 x2
    simp only [Nat.zero_add] at e0
    exact ⟨g, rfl, h2, h3, ⟨_, e0⟩, h5⟩
  have KL := Lib.hid (fun i => keyG17_le F gaps i)
  have KS : Hid (∀ i, i < n3 → keyG17 F gaps (i + 1) = keyG17 F gaps i + 1 + (gaps.getD i 0).toNat) := fun i hi => by rw [keyG17, if_pos (by omega)]
  have KN : Hid (∀ i, ¬ i < n3 → keyG17 F gaps (i + 1) = keyG17 F gaps i + 1) := fun i hi => by rw [keyG17, if_neg (by omega)]
  have MD : Hid (∀ W : World, Hid (Below w.heap.size w W) → Calls Tryz.prog 5 #[.int .i64 150, .int .i64 2] W fun e w' => ∃ p, e = .returned (.pointer (some ⟨p, 0, none⟩)) ∧ Hid (∃ base m g A n c, AImg w' base p m W.heap.size g A n c (seq16 2 150) 0 (zero17 (150 * 256)) ∧ W.heap.size ≤ base) ∧ Hid (Below W.heap.size W w')) := fun W hW => by
    refine (made_any17 150 2 W (by omega)).mono ?_
    rintro e w' ⟨va, rfl, h2, h3⟩
    rcases h2 with ⟨h, _⟩ | ⟨_, base, p, m, g, A, n, c, rfl, h4, h5⟩
    · exact absurd h (by omega)
    · exact ⟨p, rfl, ⟨base, m, g, A, n, c, h4, h5⟩, h3⟩
  have hr := back17_right (gaps := gaps) hT hN2 hF2
  have hEB := back17_entB (gaps := gaps) hwd hN2 hF2
  have TR : Hid (∀ (Wl W : World) (p : Nat) (A2 : Option Addr) (c2 : Nat), Hid (Below w.heap.size w Wl) → Hid (Ens Wl A2 N c2 (back17 (widN (T : Int) true) N F gaps N)) → Hid (Below Wl.heap.size Wl W) → Hid (∃ base m g A n c, AImg W base p m Wl.heap.size g A n c (seq16 2 150) 0 (zero17 (150 * 256)) ∧ Wl.heap.size ≤ base) → Calls Tryz.prog 6 #[.pointer (some ⟨p, 0, none⟩), .int .i64 (T : Int), .slice A2 N c2] W fun e w' => e = .returned (.tuple #[.int .i64 ((k : Int) + 1), .nilIface]) ∧ Hid (∃ m base g A n c B L es bl, TrB17 w w' p m k T N (lev15 N (capN (widN (T : Int) true))).length A2 c2 (back17 (widN (T : Int) true) N F gaps N) base g A n c B L es bl)) := fun Wl W p A2 c2 hw hE hb hA => by
    obtain ⟨base, m, g, A, n, c, ha, hlo⟩ := hA.out
    refine (tree17_back hT hr hEB (back17_length _ _ _ _ _) hk hk1 (by omega) hw.out hE.out hb.out ha hlo).mono ?_
    rintro e w' ⟨h1, L, es, bl, h2⟩
    exact ⟨h1, m, base, g, A, n, c, _, L, es, bl, h2⟩
  have LV : Hid (∀ W : World, Below w.heap.size w W → Calls Tryz.prog 12 #[] W fun e w' => e = .returned (.bool true) ∧ Below w.heap.size w w') := fun W hW => (lives17_any W).mono fun e w' g => ⟨g.1, hW.trans (g.2.mono hW.size)⟩
  have ND : Hid (∀ W : World, Calls Tryz.prog 10 #[.int .i64 (T : Int), .int .i64 (N : Int)] W fun e w' => e = .returned (.int .i64 (k : Int)) ∧ Below W.heap.size W w') := fun W => (Nodes_any15 (T : Int) (N : Int) (capN (widN (T : Int) true)) rfl W).mono fun e w' h => ⟨by rw [h.1, hkl, hk], h.2⟩
  have LE : Hid (∀ W : World, Calls Tryz.prog 11 #[.int .i64 (T : Int), .int .i64 (N : Int)] W fun e w' => ∃ A c, e = .returned (.slice A (lev15 N (capN (widN (T : Int) true))).length c) ∧ Below W.heap.size W w') := fun W => by
    have := Levels_any15 (T : Int) (N : Int) (capN (widN (T : Int) true)) rfl W
    rw [hkl] at this
    exact this.mono fun e w' ⟨A, c, h1, _, h3⟩ => ⟨A, c, h1, h3⟩
  have BKAT : Hid (∀ j (hj : j < N), (back17 (widN (T : Int) true) N F gaps N).length = N) := fun j _ => back17_length _ _ _ _ _
  clear hT hr hEB hk hkl hG hwd
  generalize (lev15 N (capN (widN (T : Int) true))).length = K at *
  generalize widN (T : Int) true = wd at *
  have hFi : (F : Int) ≤ 16777215 := by omega
  go_enter Tryz.func3, Tryz.ntmps3
  go_wp2_with (go_at_call 4; (with_reducible refine (SM.out).mono ?_); rintro e w1 ⟨A2, c2, rfl, ho1, hb1⟩)
  go_loopw [10, 11] (fun s i wr => ∃ j : Nat, j ≤ N ∧ i = .int .i64 j ∧ s = .int .i64 ((keyG17 F gaps j : Nat) : Int) ∧ Hid (wr.ownsRow w.heap.size 26 3 (.slice A2 N c2) N (entC (back17 wd N F gaps j))) ∧ Hid (Below w.heap.size w wr)) (fun _ i _ => N - (intOf i).toNat)
  case atStart => exact ⟨0, by omega, rfl, rfl, ho1, hb1⟩
  case round =>
    clear ho1 hb1
    obtain ⟨j, hj, rfl, rfl, ho, hb⟩ := hrel
    by_cases hlt : j < N
    · obtain ⟨g0, hA0, hg0, hfz, ⟨u0, hu0⟩, ho2⟩ := STEP.out wr A2 c2 j hlt ho.out
      have hlti : (j : Int) < (N : Int) := by omega
      have hkl := KL.out j
      have HO2 := Lib.hid ho2
      have hb2 : Hid (Below w.heap.size w (wr.setCell ⟨g0, j * 3, none⟩ (.int .i64 ((keyG17 F gaps j : Nat) : Int)))) := hb.out.setCell (p := ⟨g0, j * 3, none⟩) hg0 _
      subst hA0
      clear ho2 ho
      by_cases hgp : j < n3
      · have hgi : (j : Int) < (n3 : Int) := by omega
        have hks := Lib.hid (KS.out j hgp)
        obtain ⟨b3, o3, hA3, hb3l, hc3⟩ := HG.out.row.lit (by rw [u8s_length]; omega)
        have hge := hc3 j _ (u8s_at gaps j (by omega))
        have hg255 : (gaps[j]'(by omega)).toNat ≤ 255 := by have := (gaps[j]'(by omega)).toNat_lt; omega
        have hgd : (gaps.getD j 0).toNat = (gaps[j]'(by omega)).toNat := by simp [List.getD_eq_getElem?_getD, (show j < gaps.length by omega)]
        rw [hgd] at hks
        have hge2 := (hb2.out.cell (p := ⟨b3, o3 + j, none⟩) hb3l).trans hge
        generalize (gaps[j]'(by omega)).toNat = gz at *
        generalize keyG17 F gaps j = kj at *
        subst hA3
        clear hc3 hge hgd
        go_wp2
        go_roundw
        case rel => exact ⟨j + 1, by omega, by go_num, by rw [hks.out]; simp, HO2.out, hb2.out⟩
        case measure => simp [intOf]; omega
      · have hgi : ¬ (j : Int) < (n3 : Int) := by omega
        have hks := Lib.hid (KN.out j hgp)
        generalize keyG17 F gaps j = kj at *
        go_wp2
        go_roundw
        case rel => exact ⟨j + 1, by omega, by go_num, by rw [hks.out]; simp, HO2.out, hb2.out⟩
        case measure => simp [intOf]; omega
    · obtain rfl : j = N := by omega
      have hE : Ens wr A2 j c2 (back17 wd j F gaps j) := by
        obtain ⟨A', c', hv, hE⟩ := Ens.of_own ho.out
        injection hv with h1 _ h3
        subst h1 h3
        exact hE
      have HE := Lib.hid hE
      have WH : Hid (∀ (W : World) (p m base g : Nat) (A : Option Addr) (n c B : Nat) (L : List UInt8) (es : List Ent17) (bl : List Int), TrB17 w W p m k T j K A2 c2 (back17 wd j F gaps j) base g A n c B L es bl → Calls Tryz.prog 7 #[.pointer (some ⟨m, 0, none⟩), .int .i64 ((k : Int) + 1), .int .i64 (T : Int), .int .i64 200] W fun e w' => ∃ AE cE AB cB AF cF nF lk, e = .returned (.tuple #[.agg #[.slice AE j cE, .slice AB k cB, .int .i64 (K : Int), .int .i64 lk, .slice AF nF cF], .nilIface]) ∧ Hid (Bb17 w (w'.alloc (.cells #[.slice AE j cE, .slice AB k cB, .int .i64 (K : Int), .int .i64 lk, .slice AF nF cF] 36)) p k K (K : Int) A2 j c2 (back17 wd j F gaps j) AE cE es w'.heap.size AB cB)) := fun W p m base g A n c B L es bl h => by
        refine (Whole_ok17 h.ai.img h.len ((k : Int) + 1) (T : Int) 200 (by omega) h.dn rfl).mono ?_
        rintro e w' ⟨AE, cE, AB, cB, AF, cF, h1, h2, h3⟩
        have hl : es.length = j := by rw [kv17_length h.kv, back17_length]
        simp only [hl, h.bll] at h1
        have hb9 : Below w'.heap.size w' (w'.alloc (.cells #[.slice AE j cE, .slice AB k cB, .int .i64 (K : Int), .int .i64 (k : Int), .slice AF 0 cF] 36)) := (Below.refl _ _).alloc (Nat.le_refl _) _
        have hbW := h3.trans (hb9.mono h3.size)
        have hents := h2.ents
        simp only [hl] at hents
        exact ⟨AE, cE, AB, cB, AF, cF, 0, (k : Int), h1, ⟨h.bel.trans (hbW.mono h.bel.size), ⟨base, m, g, A, n, c, B, _, L, h.ai.later hbW⟩, h.ens.below hbW, hents.below hb9, AF, 0, cF, _, heap_alloc_new w' _⟩⟩
      have IM : Hid (∀ (W : World) (p m base g : Nat) (A : Option Addr) (n c B : Nat) (L : List UInt8) (es : List Ent17) (bl : List Int), TrB17 w W p m k T j K A2 c2 (back17 wd j F gaps j) base g A n c B L es bl → Calls Tryz.prog 8 #[.pointer (some ⟨p, 0, none⟩)] W fun e w' => e = .returned (.pointer (some ⟨m, 0, none⟩)) ∧ W = w') := fun W p m base g A n c B L es bl h => Image_yes16 h.ai.alc
      clear STEP KL KS KN SM ho hE BKAT
      have hkpos : (1 : Int) ≤ (k : Int) := by omega
      go_wp2_with (first
        | (go_at_call 5; (with_reducible refine (MD.out _ hb).mono ?_); rintro e w4 ⟨p, rfl, hA4, hb4⟩)
        | (go_at_call 6; (with_reducible refine (TR.out _ _ _ _ _ hb HE hb4 hA4).mono ?_); rintro e w5 ⟨rfl, hT5⟩; obtain ⟨m, base, g, A, n', c', B, L, es, bl, hT6⟩ := hT5.out; have HT6 := Lib.hid hT6; have HKV := Lib.hid hT6.kv; clear hT5 hT6)
        | (go_at_call 8; (with_reducible refine (IM.out _ _ _ _ _ _ _ _ _ _ _ _ HT6.out).mono ?_); rintro e w6 ⟨rfl, rfl⟩)
        | (go_at_call 7; (with_reducible refine (WH.out _ _ _ _ _ _ _ _ _ _ _ _ HT6.out).mono ?_); rintro e w7 ⟨AE, cE, AB, cB, AF, cF, nF, lk, rfl, HB7⟩))
      obtain ⟨w8, hw8⟩ : ∃ w8, w7.alloc (.cells #[.slice AE j cE, .slice AB k cB, .int .i64 (K : Int), .int .i64 lk, .slice AF nF cF] 36) = w8 := ⟨_, rfl⟩
      obtain ⟨bw, hbw⟩ : ∃ bw, w7.heap.size = bw := ⟨_, rfl⟩
      rw [hw8, hbw] at HB7
      have hd8 := HB7.out.later (Below.refl w8.heap.size w8).drew
      obtain ⟨c80, c81, c82⟩ := HB7.out.cs
      obtain ⟨d80, d81, d82⟩ := hd8.cs
      generalize hlb : back17 wd j F gaps j = lb at *
      have HLB := Lib.hid hlb
      clear hlb
      have US := Lib.hid (fun W (h : Bb17 w W p k K (K : Int) A2 j c2 lb AE cE es bw AB cB) => h.used)
      have CS := Lib.hid (fun W (h : Bb17 w W p k K (K : Int) A2 j c2 lb AE cE es bw AB cB) => h.cs)
      have ND2 : Hid (∀ W, Bb17 w W p k K (K : Int) A2 j c2 lb AE cE es bw AB cB → Calls Tryz.prog 10 #[.int .i64 (T : Int), .int .i64 (j : Int)] W fun e w' => e = .returned (.int .i64 (k : Int)) ∧ Bb17 w w' p k K (K : Int) A2 j c2 lb AE cE es bw AB cB) := fun W h => (ND.out W).mono fun e w' g => ⟨g.1, h.later g.2⟩
      have LE2 : Hid (∀ W, Bb17 w W p k K (K : Int) A2 j c2 lb AE cE es bw AB cB → Calls Tryz.prog 11 #[.int .i64 (T : Int), .int .i64 (j : Int)] W fun e w' => ∃ A c, e = .returned (.slice A K c) ∧ Bb17 w w' p k K (K : Int) A2 j c2 lb AE cE es bw AB cB) := fun W h => (LE.out W).mono fun e w' ⟨A, c, g1, g2⟩ => ⟨A, c, g1, h.later g2⟩
      clear ND LE IM WH TR MD HT6 hA4 hb4 HE hb
      have hkv : es.length = j ∧ lb.length = j := ⟨HB7.out.ent.len, HB7.out.ens.len⟩
      go_wp2
      go_region_held3 (fun W => W.cell? ⟨bw, 0, none⟩ = some (.slice AE j cE) ∧ W.cell? ⟨bw, 1, none⟩ = some (.slice AB k cB) ∧ W.cell? ⟨bw, 2, none⟩ = some (.int .i64 (K : Int)))
        (first | assumption | exact ⟨c80, c81, c82⟩ | exact ⟨d80, d81, d82⟩ | go_keep)
        (first
        | (go_at_call 9; first
            | ((with_reducible refine (US.out _ hNa).mono ?_); rintro e w' ⟨rfl, rfl⟩)
            | ((with_reducible refine (US.out _ (by assumption)).mono ?_); rintro e w' ⟨rfl, rfl⟩))
        | (go_at_call 10; (with_reducible refine (ND2.out _ (by assumption)).mono ?_); rintro e wa ⟨rfl, hNa⟩; have ca := CS.out _ hNa)
        | (go_at_call 11; (with_reducible refine (LE2.out _ hNa).mono ?_); rintro e wb ⟨Al, cl, rfl, hNb⟩; have cb := CS.out _ hNb))
      have HNb := Lib.hid hNb
      clear hNb hNa ca cb c80 c81 c82 d80 d81 d82 hd8 HB7 US ND2 LE2
      go_wp2
      go_loopw [17] (fun i wr => ∃ a : Nat, a ≤ j ∧ i = .int .i64 a ∧ Hid (Bb17 w wr p k K (K : Int) A2 j c2 lb AE cE es bw AB cB)) (fun i _ => j - (intOf i).toNat)
      case atStart => exact ⟨0, by omega, rfl, HNb⟩
      case round =>
        clear HNb
        obtain ⟨a, ha, rfl, hB⟩ := hrel
        obtain ⟨c0, _, _⟩ := CS.out _ hB.out
        by_cases hlt : a < j
        · have hlti : (a : Int) < (j : Int) := by omega
          obtain ⟨b3, o3, hA3, e30, e31, _⟩ := hB.out.ent.at_ (k := a) hlt
          obtain ⟨b2, o2, hA2, e20, e21, _⟩ := hB.out.ens.at_ (k := a) hlt
          rw [← Nat.add_assoc] at e31 e21
          have hkey : kv17 (es[a]'(by omega)) = kv17 (lb[a]'(by omega)) := by
            have := congrArg (fun l => l[a]?) HKV.out
            simp only [List.getElem?_map] at this
            rw [List.getElem?_eq_getElem (by omega), List.getElem?_eq_getElem (by omega)] at this
            simpa using this
          have hk1 : (es[a]'(by omega)).1 = (lb[a]'(by omega)).1 := congrArg (fun x : Int × List UInt8 => x.1) hkey
          have hk2 : (es[a]'(by omega)).2.1 = (lb[a]'(by omega)).2.1 := congrArg (fun x : Int × List UInt8 => x.2) hkey
          rw [hk1] at e30
          rw [hk2] at e31
          clear hkey hk1 hk2
          generalize (lb[a]'(by omega)).1 = key at *
          obtain ⟨y, hy⟩ : ∃ y : ByteArray, (⟨((lb[a]'(by omega)).2.1).toArray⟩ : ByteArray) = y := ⟨_, rfl⟩
          rw [hy] at e31 e21
          clear hy
          subst hA3 hA2
          have HB8 := Lib.hid (hB.out.later (below_drewN (Below.refl _ _) 0))
          go_wp2
          go_quiet (fail)
          go_wp2
          go_roundw
          case rel => exact ⟨a + 1, by omega, by go_num, hB.out.later (below_drewN (Below.refl _ _) _)⟩
          case measure => simp [intOf]; omega
        · obtain rfl : a = j := by omega
          go_wp2_with (go_at_call 12; (with_reducible refine (LV.out _ hB.out.bel).mono ?_); rintro e wz ⟨rfl, hbz⟩)
          go_ret
          exact ⟨rfl, hbz⟩
end Go.Proofs.YtnjlganofjkpfaaGreat
