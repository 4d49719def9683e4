/-
  Joined: WlkJ, WlkK, WlkL, WlkV.
-/
import Derived.Test.YtfcehhhcjlpklaaGreatDoorJWlkA36
import Derived.Test.YtfcehhhcjlpklaaGreatDoorJWlkA26
import Derived.Test.YtfcehhhcjlpklaaGreatDoorJWlkA28
import Derived.Test.YtfcehhhcjlpklaaGreatDoorJWlkA34
import Derived.Test.YtfcehhhcjlpklaaGreatDoorJWlkA08
/-
  Layer 14: visit, at a leaf, at an inner node; visit for any node.
-/
namespace Go.Proofs.YtfcehhhcjlpklaaGreatDoor
open Go.RowKit
set_option linter.unusedVariables false
set_option linter.unusedSimpArgs false

/-- behind the append onto the blocks -/
structure Vs14 (w w6 : World) (p q g B b : Nat) (tree fuel : Int) (s s6 : Rows14) (L : List UInt8) (n : Nat) (W : Wlk14) (no lo hi : Int) (way : List Int) (nd : Nod) (A5 : Option Addr) (n5 c5 : Nat) (A6 : Option Addr) (n6 c6 : Nat) : Prop where
  st : St14 w6 p (.pointer (some ⟨q, 0, none⟩)) tree fuel s6 (W.see.inner ⟨no, lo, hi, way, 0⟩) way
  mov : Mov14 p s w s6 w6
  own : NodAt w6 b nd.tree nd.leaf (.slice A5 n5 c5) (.slice A6 n6 c6)
  spn : SpnAt w6 w.heap.size lo hi
  ndi : NodIn w6 nd A5 n5 c5 A6 n6 c6
  f5 : 0 < nd.keys.length → Far14 s6 p A5
  f6 : 0 < nd.vals.length → Far14 s6 p A6
  im : Im14 w6 p q g B L n
theorem ints_lt14 {w : World} {A : Option Addr} {n c : Nat} {l : List Int} (h : Ints w A n c l) (hp : 0 < l.length) : ∀ ad, A = some ad → ad.block < w.heap.size := fun ad e => by
  obtain ⟨b, off, e2, hl, _⟩ := h.row.lit (by rw [i64s_length]; exact hp)
  rw [e] at e2; cases e2; exact hl
theorem Vs14.made {w w3 w4 w6 : World} {p q g B : Nat} {tree fuel : Int} {s : Rows14} {L : List UInt8} {n : Nat} {W : Wlk14} {no lo hi : Int} {way : List Int} {nd : Nod} {A5 : Option Addr} {n5 c5 : Nat} {A6 : Option Addr} {n6 c6 : Nat} {g5 cap5 : Nat}
    (h0 : St14 w p (.pointer (some ⟨q, 0, none⟩)) tree fuel s W way) (h3 : St14 w3 p (.pointer (some ⟨q, 0, none⟩)) tree fuel s W.see way) (hM3 : Mov14 p s w s w3) (hK : SpnAt w3 w.heap.size lo hi) (hI : Im14 w3 p q g B L n) (hb4 : Below w3.heap.size w3 w4) (hN : NodIn w4 nd A5 n5 c5 A6 n6 c6) (h5 : Newer w3.heap.size A5) (h6 : Newer w3.heap.size A6)
    (hgrow : ((w4.alloc (.cells #[.int .i64 nd.tree, .bool nd.leaf, .slice A5 n5 c5, .slice A6 n6 c6] 55)).alloc (.cells #[.int .i64 no] 3)).grownBy w6 s.B.ownBlock)
    (hat : s.B.ownBlock = some g5 ∨ g5 = ((w4.alloc (.cells #[.int .i64 nd.tree, .bool nd.leaf, .slice A5 n5 c5, .slice A6 n6 c6] 55)).alloc (.cells #[.int .i64 no] 3)).heap.size)
    (hown : w6.ownsRow (p + 1) 3 1 (.slice (some ⟨g5, 0, none⟩) (W.blks.length + 1) cap5) (W.blks.length + 1) (i64s W.blks ++ [.int .i64 no])) :
    Vs14 w (w6.setCell ⟨p, 1, none⟩ (.slice (some ⟨g5, 0, none⟩) (W.blks.length + 1) cap5)) p q g B w4.heap.size tree fuel s ⟨s.E, .slice (some ⟨g5, 0, none⟩) (W.blks.length + 1) cap5, s.F, s.P⟩ L n W no lo hi way nd A5 n5 c5 A6 n6 c6 := by
  have hm0 := h0.mine_lt
  have hm3 := h3.mine_lt
  have hb5 : Below w4.heap.size w4 (w4.alloc (.cells #[.int .i64 nd.tree, .bool nd.leaf, .slice A5 n5 c5, .slice A6 n6 c6] 55)) := (Below.refl _ _).alloc (Nat.le_refl _) _
  obtain ⟨w5, hw5⟩ : ∃ w5, w5 = w4.alloc (.cells #[.int .i64 nd.tree, .bool nd.leaf, .slice A5 n5 c5, .slice A6 n6 c6] 55) := ⟨_, rfl⟩
  have hV : NodAt w5 w4.heap.size nd.tree nd.leaf (.slice A5 n5 c5) (.slice A6 n6 c6) := by rw [hw5]; exact NodAt.new w4 _ _ _ _
  rw [← hw5] at hb5 hgrow hat
  have hb6 : Below w5.heap.size w5 (w5.alloc (.cells #[.int .i64 no] 3)) := (Below.refl _ _).alloc (Nat.le_refl _) _
  have hS6 := ((h3.later hb4).later hb5).later hb6
  obtain ⟨hX1, hX2⟩ := hS6.addBlk (no := no) hgrow hat hown
  have hM5 := (Mov14.of_below s hb6).trans hX2
  have hM4 := (Mov14.of_below s hb5).trans hM5
  have hMs := (Mov14.of_below s hb4).trans hM4
  have far : ∀ {A : Option Addr}, Newer w3.heap.size A → Far14 s p A := fun h ad e hm => by have := h ad e; have := (hm3 _ hm).2; omega
  have far2 : ∀ {A : Option Addr}, Newer w3.heap.size A → (∀ ad, A = some ad → ad.block < w4.heap.size) → Far14 ⟨s.E, .slice (some ⟨g5, 0, none⟩) (W.blks.length + 1) cap5, s.F, s.P⟩ p A := fun h hl => (far h).mov hM4 hl
  refine ⟨hX1, hM3.trans hMs, hV.mov (fun e => by have := (hm3 _ e).2; have := hb4.size; omega) hM5, hK.mov (fun e => by have := (hm0 _ e).2; omega) hMs, hN.mov (fun _ => far h5) (fun _ => far h6) hM4, fun e => far2 h5 fun ad ea => ?_, fun e => far2 h6 fun ad ea => ?_, hI.below (Mov14.below h3 hMs)⟩
  · obtain ⟨b, off, e2, hl, _⟩ := hN.keys.row.lit (by rw [i64s_length]; exact e)
    rw [ea] at e2; cases e2; exact hl
  · obtain ⟨b, off, e2, hl, _⟩ := hN.vals.row.lit (by rw [strV_length]; exact e)
    rw [ea] at e2; cases e2; exact hl

set_option maxRecDepth 100000 in
set_option maxHeartbeats 3200000 in
theorem visit_leaf14 {p q g B : Nat} {tree fuel : Int} {L : List UInt8} {n : Nat} {w : World} {s : Rows14} {W : Wlk14} {way : List Int} (no lo hi : Int) (h : St14 w p (.pointer (some ⟨q, 0, none⟩)) tree fuel s W way) (hIm : Im14 w p q g B L n) (hF : Fit14 fuel W way.length) (hw : way.length ≤ 16) (hr : rB13 lo hi = true) (hd : W.looked < fuel) (hx : lookE14 (nd14 L n tree) W.deep ⟨no, lo, hi, way, 0⟩ = 0) (hlf : (nd14 L n tree no).2.leaf = true) :
    Calls Tryz.prog 19 #[.pointer (some ⟨p, 0, none⟩), .int .i64 no, spnV lo hi] w fun e w' => ∃ b s' W' way', e = .returned (.bool b) ∧ St14 w' p (.pointer (some ⟨q, 0, none⟩)) tree fuel s' W' way' ∧ (b = true → way' = way) ∧ Step14 (nd14 L n tree) rt14 fuel W [⟨no, lo, hi, way, 0⟩] W' b ∧ Mov14 p s w s' w' := by
  obtain ⟨nd, hnd⟩ : ∃ nd, (nd14 L n tree no).2 = nd := ⟨_, rfl⟩
  obtain ⟨tr, lf, ks, vs⟩ := nd
  obtain rfl : lf = true := by rw [hnd] at hlf; exact hlf
  clear hlf
  have hb1 : Below w.heap.size w (w.alloc (.cells #[.int .i64 lo, .int .i64 hi] 63)) := (Below.refl _ _).alloc (Nat.le_refl _) _
  have h1 := h.later hb1
  have c3 := h1.c3
  have c7 := h1.c7
  have HB1 := Lib.hid hb1
  have hdd : decide (fuel ≤ W.looked) = false := by simpa using hd
  have HK : Hid (SpnAt (w.alloc (.cells #[.int .i64 lo, .int .i64 hi] 63)) w.heap.size lo hi) := SpnAt.new w lo hi
  have HH := Lib.hid (And.intro h (And.intro hIm (And.intro hF (And.intro hr hd))))
  have hlo0 := hF.low
  have hlo1 := hF.few
  have hpl := h.lt
  have HL : Hid (vs.length = ks.length ∧ ks.length ≤ 18) := by
    have h1 := (ndOk14 L n tree).len no (lookE14_zero hx).2.2.1
    have h2 := nd14_keys L n tree no
    rw [hnd] at h1 h2
    exact ⟨h1, h2⟩
  have EX : Hid (∀ w3, St14 w3 p (.pointer (some ⟨q, 0, none⟩)) tree fuel s W.see way → Im14 w3 p q g B L n → Calls Tryz.prog 39 #[.pointer (some ⟨p, 0, none⟩), .int .i64 no, .agg #[.int .i64 lo, .int .i64 hi]] w3 fun e w' => ∃ A5 n5 c5 A6 n6 c6, e = .returned (.tuple #[.agg #[.int .i64 tr, .bool true, .slice A5 n5 c5, .slice A6 n6 c6], .nilIface]) ∧ Hid (Below w3.heap.size w3 w' ∧ NodIn w' ⟨tr, true, ks, vs⟩ A5 n5 c5 A6 n6 c6 ∧ Newer w3.heap.size A5 ∧ Newer w3.heap.size A6)) := fun w3 h3 hI3 =>
    (examine_any14 h3 hI3.img hI3.len (by omega) no lo hi hr).mono fun e w' ⟨v, nd', A5, n5, c5, A6, n6, c6, e1, hE, hb, hz⟩ => by
      obtain ⟨z1, z2, z3, z4⟩ := hz hx
      rw [hnd] at z1 z2
      subst z1
      rcases hE with ⟨_, rfl⟩ | ⟨h0, _⟩
      · exact ⟨A5, n5, c5, A6, n6, c6, e1, hb, z2, z3, z4⟩
      · exact absurd hx h0
  have HND := Lib.hid hnd
  have hX := hx
  have HXX := Lib.hid (And.intro hx hx)
  have hbl : W.blks.length ≤ 1000 := by have := hF.blks; omega
  have HHS := Lib.hid h
  clear h hb1 h1 hd hF hIm hr hx hX hnd
  go_enter Tryz.func19, Tryz.ntmps19
  go_wp2
  go_quiet (fail)
  obtain ⟨w2, hw2⟩ : ∃ w2, ((w.alloc (.cells #[.int .i64 lo, .int .i64 hi] 63)).drewN nq) = w2 := ⟨_, rfl⟩
  have hb2 : Below w.heap.size w w2 := by rw [← hw2]; exact below_drewN HB1.out nq
  have hK2 : SpnAt w2 w.heap.size lo hi := by rw [← hw2]; exact HK.out.later (below_drewN (Below.refl _ _) nq)
  simp only [hw2]
  clear hw2 HK HB1 c3 c7 hdd
  have h2 := HH.out.1.later hb2
  have c3 := h2.c3
  have f3 := h2.fz 3
  have hwi : IntKind.i64.wrap (W.looked + 1) = W.looked + 1 := IntWalk.i64_in _ (by omega)
  obtain ⟨hp3, hm3⟩ := h2.put 3 (W.looked + 1) (.inr rfl)
  have hp3 : St14 (w2.setCell ⟨p, 3, none⟩ (.int .i64 (W.looked + 1))) p (.pointer (some ⟨q, 0, none⟩)) tree fuel s W.see way := by simp at hp3; exact hp3
  have hM3 : Mov14 p s w s (w2.setCell ⟨p, 3, none⟩ (.int .i64 (W.looked + 1))) := (Mov14.of_below s hb2).trans hm3
  have hK3 : SpnAt (w2.setCell ⟨p, 3, none⟩ (.int .i64 (W.looked + 1))) w.heap.size lo hi := hK2.mov (fun e => by have := (HH.out.1.mine_lt _ e).2; omega) hm3
  have k0 := hK3.c0
  have k1 := hK3.c1
  have HP3 := Lib.hid (And.intro hp3 (And.intro hM3 (And.intro hK3 (HH.out.2.1.below (Mov14.below HH.out.1 hM3)))))
  clear hp3 hm3 hM3 hK3 h2 hK2 hb2
  have hs3 := HP3.out.1.blk
  go_upto_region 9 with (go_at_call 39; (with_reducible refine (EX.out _ HP3.out.1 HP3.out.2.2.2).mono ?_); rintro e w4 ⟨A5, n5, c5, A6, n6, c6, rfl, hG4⟩)
  obtain ⟨w3, hw3⟩ : ∃ w3, w3 = w2.setCell ⟨p, 3, none⟩ (.int .i64 (W.looked + 1)) := ⟨_, rfl⟩
  rw [← hw3] at HP3 hG4
  clear hw3 hs3 k0 k1 c3 f3 hwi
  obtain ⟨w5, hw5⟩ : ∃ w5, w5 = w4.alloc (.cells #[.int .i64 tr, .bool true, .slice A5 n5 c5, .slice A6 n6 c6] 55) := ⟨_, rfl⟩
  have hb5 : Below w4.heap.size w4 w5 := by rw [hw5]; exact (Below.refl _ _).alloc (Nat.le_refl _) _
  have hS5 := (HP3.out.1.later hG4.out.1).later hb5
  have hz5 : w5.heap.size = w4.heap.size + 1 := by rw [hw5]; simp
  have DM : Hid (∀ (w6 : World) (g5 cap5 : Nat), (w5.alloc (.cells #[.int .i64 no] 3)).grownBy w6 s.B.ownBlock → (s.B.ownBlock = some g5 ∨ g5 = (w5.alloc (.cells #[.int .i64 no] 3)).heap.size) → w6.ownsRow (p + 1) 3 1 (.slice (some ⟨g5, 0, none⟩) (W.blks.length + 1) cap5) (W.blks.length + 1) (i64s W.blks ++ [.int .i64 no]) →
      Vs14 w (w6.setCell ⟨p, 1, none⟩ (.slice (some ⟨g5, 0, none⟩) (W.blks.length + 1) cap5)) p q g B w4.heap.size tree fuel s ⟨s.E, .slice (some ⟨g5, 0, none⟩) (W.blks.length + 1) cap5, s.F, s.P⟩ L n W no lo hi way ⟨tr, true, ks, vs⟩ A5 n5 c5 A6 n6 c6) := fun w6 g5 cap5 h1 h2 h3 => by
    rw [hw5] at h1 h2
    exact Vs14.made HHS.out HP3.out.1 HP3.out.2.1 HP3.out.2.2.1 HP3.out.2.2.2 hG4.out.1 hG4.out.2.1 hG4.out.2.2.1 hG4.out.2.2.2 h1 h2 h3
  have HOW := Lib.hid (hS5.blks.alloc (.cells #[.int .i64 no] 3))
  have HLR : Hid (Row (w5.alloc (.cells #[.int .i64 no] 3)) (some ⟨w5.heap.size, 0, none⟩) [.int .i64 no]) := Row.of_block (t := 3) (fr := (0, 0)) (heap_alloc_new w5 _)
  have HP2 : Hid (∀ (w6 : World), (w5.alloc (.cells #[.int .i64 no] 3)).grownBy w6 s.B.ownBlock → w6.heap[p]? = w5.heap[p]?) := fun w6 hg => (hg.block p (by rw [World.size_alloc]; have := hS5.lt; omega) (fun e => by have := (hS5.blks.lt p e.symm).1; omega)).trans (Below.heap_alloc _ _ _ hS5.lt)
  have HB2 := Lib.hid hS5.blk
  have c1 := hS5.c1
  have hlt5 : p < w4.heap.size := (HP3.out.1.later hG4.out.1).lt
  obtain ⟨b4, hb4⟩ : ∃ b4, b4 = w4.heap.size := ⟨_, rfl⟩
  rw [← hb4] at DM
  have CO : Hid (∀ w6 s6, Vs14 w w6 p q g B b4 tree fuel s s6 L n W no lo hi way ⟨tr, true, ks, vs⟩ A5 n5 c5 A6 n6 c6 → Calls Tryz.prog 40 #[.pointer (some ⟨p, 0, none⟩), .int .i64 no, .agg #[.int .i64 tr, .bool true, .slice A5 n5 c5, .slice A6 n6 c6]] w6 fun e w' => (∃ v, e = .returned v) ∧ ∃ s', St14 w' p (.pointer (some ⟨q, 0, none⟩)) tree fuel s' (W.see.leaf ⟨no, lo, hi, way, 0⟩ ⟨tr, true, ks, vs⟩) way ∧ Mov14 p s6 w6 s' w') := fun w6 s6 hD => collect_any14 hD.st no hD.ndi HL.out.1 hD.f5 hD.f6 HL.out.2 (by have := HH.out.2.2.1.ents; show W.ents.length ≤ 1000000; omega) (by omega)
  clear hS5 hb5 hz5
  rw [hw5] at c1
  rw [hw5] at DM HOW HLR HP2 HB2
  rw [World.size_alloc] at HLR
  rw [hb4] at DM
  clear hw5
  go_wp2_with (first
    | (at_builtin; go_must (refine wpList_append_liesG _ rfl (.tmp 50) (.tmp 52) 26 rfl (p + 1) 3 1 (.int .i64 0) 8 Tryz.underlying26 info_i64 rfl (by omega) s.B W.blks.length (i64s W.blks) rfl HOW.out (by simp; omega) ⟨_, 0, none⟩ [.int .i64 no] 1 1 rfl rfl HLR.out (by simp [Value.oneCell']) (by omega) (by omega) (by omega) ?_); intro g5 cap5 w6 hown hgrow hat; have hD := DM.out w6 g5 cap5 hgrow.out hat.out hown.out; have hp5 := (HP2.out w6 hgrow.out).trans HB2.out; have c1' : w6.cell? ⟨p, 1, none⟩ = some s.B := (by rw [cell_of_row w6 p 1 _ _ _ hp5]; rfl); have f1' := frozen_of_row w6 p 1 _ _ hp5; have k0 := hD.spn.c0; have k1 := hD.spn.c1; have n0 := hD.own.c0; have n1 := hD.own.c1; have n2 := hD.own.c2; have n3 := hD.own.c3; rw [← hb4] at hD; have HD := Lib.hid hD; clear hD hp5 hown hgrow hat)
    | (go_at_call 40; (with_reducible refine (CO.out _ _ HD.out).mono ?_); rintro e w7 ⟨⟨v9, rfl⟩, s9, hst9, hm9⟩; have HX9 := Lib.hid (And.intro hst9 hm9); clear hst9 hm9))
  go_ret
  refine ⟨true, s9, W.see.leaf ⟨no, lo, hi, way, 0⟩ (nd14 L n tree no).2, way, rfl, ?_, fun _ => rfl, Step14.leaf (nd := nd14 L n tree) (rt := rt14) (v := ⟨no, lo, hi, way, 0⟩) (w := W) rfl HH.out.2.2.2.2 HXX.out.1 (by show (nd14 L n tree no).2.leaf = true; rw [HND.out]) (nd14_keys L n tree no), HD.out.mov.trans HX9.out.2⟩
  rw [HND.out]
  exact HX9.out.1

set_option maxRecDepth 100000 in
set_option maxHeartbeats 3200000 in
theorem visit_inner14 {p q g B : Nat} {tree fuel : Int} {L : List UInt8} {n : Nat} {w : World} {s : Rows14} {W : Wlk14} {way : List Int} (no lo hi : Int) (h : St14 w p (.pointer (some ⟨q, 0, none⟩)) tree fuel s W way) (hIm : Im14 w p q g B L n) (hF : Fit14 fuel W way.length) (hw : way.length ≤ 16) (hr : rB13 lo hi = true) (hd : W.looked < fuel) (hx : lookE14 (nd14 L n tree) W.deep ⟨no, lo, hi, way, 0⟩ = 0) (hlf : (nd14 L n tree no).2.leaf = false) {k : Nat} (hHV : VisC14 p q g B tree fuel L n k) (hwk : way.length + 1 + k = 16) :
    Calls Tryz.prog 19 #[.pointer (some ⟨p, 0, none⟩), .int .i64 no, spnV lo hi] w fun e w' => ∃ b s' W' way', e = .returned (.bool b) ∧ St14 w' p (.pointer (some ⟨q, 0, none⟩)) tree fuel s' W' way' ∧ (b = true → way' = way) ∧ Step14 (nd14 L n tree) rt14 fuel W [⟨no, lo, hi, way, 0⟩] W' b ∧ Mov14 p s w s' w' := by
  obtain ⟨nd, hnd⟩ : ∃ nd, (nd14 L n tree no).2 = nd := ⟨_, rfl⟩
  obtain ⟨tr, lf, ks, vs⟩ := nd
  obtain rfl : lf = false := by rw [hnd] at hlf; exact hlf
  clear hlf
  have hb1 : Below w.heap.size w (w.alloc (.cells #[.int .i64 lo, .int .i64 hi] 63)) := (Below.refl _ _).alloc (Nat.le_refl _) _
  have h1 := h.later hb1
  have c3 := h1.c3
  have c7 := h1.c7
  have HB1 := Lib.hid hb1
  have hdd : decide (fuel ≤ W.looked) = false := by simpa using hd
  have HK : Hid (SpnAt (w.alloc (.cells #[.int .i64 lo, .int .i64 hi] 63)) w.heap.size lo hi) := SpnAt.new w lo hi
  have HH := Lib.hid (And.intro h (And.intro hIm (And.intro hF (And.intro hr hd))))
  have hlo0 := hF.low
  have hlo1 := hF.few
  have hpl := h.lt
  have HL : Hid (vs.length = ks.length ∧ ks.length ≤ 18 ∧ fit13 lo hi ks = 0 ∧ (∀ x ∈ vs, x.length = 4) ∧ 0 < ks.length) := by
    have z := lookE14_zero hx
    have h1 := (ndOk14 L n tree).len no z.2.2.1
    have h2 := nd14_keys L n tree no
    have h3 := (ndOk14 L n tree).ord no z.2.2.1
    have h4 := z.2.2.2.1
    have h5 := nd14_inner z.2.2.1 (by show (nd14 L n tree no).2.leaf = false; rw [hnd])
    have h6 := (rightN_iff.1 (nd14_read z.2.2.1).2.1).2.2.2.2.2
    have h6 : (nd14 L n tree no).2.leaf = true ∨ 0 < (nd14 L n tree no).2.keys.length := h6
    have h4 : ins13 lo hi (nd14 L n tree no).2.keys = true := h4
    have h5 : ∀ v ∈ (nd14 L n tree no).2.vals, v.length = 4 := h5
    rw [hnd] at h1 h2 h3 h4 h5 h6
    refine ⟨h1, h2, fit13_ok hr h3 h4, h5, ?_⟩
    rcases h6 with h6 | h6
    · cases h6
    · exact h6
  have HVV := Lib.hid hHV
  have HWK := Lib.hid hwk
  have HFI : Hid (Fit14 fuel (W.see.inner ⟨no, lo, hi, way, 0⟩) way.length) := by
    obtain ⟨f1, f2, f3, f4, f5, f6⟩ := hF
    have e := Wlk14.inner_len W.see ⟨no, lo, hi, way, 0⟩
    refine ⟨?_, ?_, f3, ?_, ?_, ?_⟩
    · show 0 ≤ W.looked + 1; omega
    · show W.looked + 1 ≤ 1000; omega
    · show (W.ents.length : Int) ≤ 18 * (W.looked + 1); omega
    · rw [e]; show (W.blks.length : Int) + 1 ≤ W.looked + 1; omega
    · show (W.flts.length : Int) ≤ 19 * (W.looked + 1) + _; omega
  have EX : Hid (∀ w3, St14 w3 p (.pointer (some ⟨q, 0, none⟩)) tree fuel s W.see way → Im14 w3 p q g B L n → Calls Tryz.prog 39 #[.pointer (some ⟨p, 0, none⟩), .int .i64 no, .agg #[.int .i64 lo, .int .i64 hi]] w3 fun e w' => ∃ A5 n5 c5 A6 n6 c6, e = .returned (.tuple #[.agg #[.int .i64 tr, .bool false, .slice A5 n5 c5, .slice A6 n6 c6], .nilIface]) ∧ Hid (Below w3.heap.size w3 w' ∧ NodIn w' ⟨tr, false, ks, vs⟩ A5 n5 c5 A6 n6 c6 ∧ Newer w3.heap.size A5 ∧ Newer w3.heap.size A6)) := fun w3 h3 hI3 =>
    (examine_any14 h3 hI3.img hI3.len (by omega) no lo hi hr).mono fun e w' ⟨v, nd', A5, n5, c5, A6, n6, c6, e1, hE, hb, hz⟩ => by
      obtain ⟨z1, z2, z3, z4⟩ := hz hx
      rw [hnd] at z1 z2
      subst z1
      rcases hE with ⟨_, rfl⟩ | ⟨h0, _⟩
      · exact ⟨A5, n5, c5, A6, n6, c6, e1, hb, z2, z3, z4⟩
      · exact absurd hx h0
  have HND := Lib.hid hnd
  have hX := hx
  have HXX := Lib.hid (And.intro hx hx)
  have hbl : W.blks.length ≤ 1000 := by have := hF.blks; omega
  have HHS := Lib.hid h
  clear h hb1 h1 hd hF hIm hr hx hX hnd hHV hwk
  go_enter Tryz.func19, Tryz.ntmps19
  go_wp2
  go_quiet (fail)
  obtain ⟨w2, hw2⟩ : ∃ w2, ((w.alloc (.cells #[.int .i64 lo, .int .i64 hi] 63)).drewN nq) = w2 := ⟨_, rfl⟩
  have hb2 : Below w.heap.size w w2 := by rw [← hw2]; exact below_drewN HB1.out nq
  have hK2 : SpnAt w2 w.heap.size lo hi := by rw [← hw2]; exact HK.out.later (below_drewN (Below.refl _ _) nq)
  simp only [hw2]
  clear hw2 HK HB1 c3 c7 hdd
  have h2 := HH.out.1.later hb2
  have c3 := h2.c3
  have f3 := h2.fz 3
  have hwi : IntKind.i64.wrap (W.looked + 1) = W.looked + 1 := IntWalk.i64_in _ (by omega)
  obtain ⟨hp3, hm3⟩ := h2.put 3 (W.looked + 1) (.inr rfl)
  have hp3 : St14 (w2.setCell ⟨p, 3, none⟩ (.int .i64 (W.looked + 1))) p (.pointer (some ⟨q, 0, none⟩)) tree fuel s W.see way := by simp at hp3; exact hp3
  have hM3 : Mov14 p s w s (w2.setCell ⟨p, 3, none⟩ (.int .i64 (W.looked + 1))) := (Mov14.of_below s hb2).trans hm3
  have hK3 : SpnAt (w2.setCell ⟨p, 3, none⟩ (.int .i64 (W.looked + 1))) w.heap.size lo hi := hK2.mov (fun e => by have := (HH.out.1.mine_lt _ e).2; omega) hm3
  have k0 := hK3.c0
  have k1 := hK3.c1
  have HP3 := Lib.hid (And.intro hp3 (And.intro hM3 (And.intro hK3 (HH.out.2.1.below (Mov14.below HH.out.1 hM3)))))
  clear hp3 hm3 hM3 hK3 h2 hK2 hb2
  have hs3 := HP3.out.1.blk
  go_upto_region 9 with (go_at_call 39; (with_reducible refine (EX.out _ HP3.out.1 HP3.out.2.2.2).mono ?_); rintro e w4 ⟨A5, n5, c5, A6, n6, c6, rfl, hG4⟩)
  obtain ⟨w3, hw3⟩ : ∃ w3, w3 = w2.setCell ⟨p, 3, none⟩ (.int .i64 (W.looked + 1)) := ⟨_, rfl⟩
  rw [← hw3] at HP3 hG4
  clear hw3 hs3 k0 k1 c3 f3 hwi
  obtain ⟨w5, hw5⟩ : ∃ w5, w5 = w4.alloc (.cells #[.int .i64 tr, .bool false, .slice A5 n5 c5, .slice A6 n6 c6] 55) := ⟨_, rfl⟩
  have hb5 : Below w4.heap.size w4 w5 := by rw [hw5]; exact (Below.refl _ _).alloc (Nat.le_refl _) _
  have hS5 := (HP3.out.1.later hG4.out.1).later hb5
  have hz5 : w5.heap.size = w4.heap.size + 1 := by rw [hw5]; simp
  have DM : Hid (∀ (w6 : World) (g5 cap5 : Nat), (w5.alloc (.cells #[.int .i64 no] 3)).grownBy w6 s.B.ownBlock → (s.B.ownBlock = some g5 ∨ g5 = (w5.alloc (.cells #[.int .i64 no] 3)).heap.size) → w6.ownsRow (p + 1) 3 1 (.slice (some ⟨g5, 0, none⟩) (W.blks.length + 1) cap5) (W.blks.length + 1) (i64s W.blks ++ [.int .i64 no]) →
      Vs14 w (w6.setCell ⟨p, 1, none⟩ (.slice (some ⟨g5, 0, none⟩) (W.blks.length + 1) cap5)) p q g B w4.heap.size tree fuel s ⟨s.E, .slice (some ⟨g5, 0, none⟩) (W.blks.length + 1) cap5, s.F, s.P⟩ L n W no lo hi way ⟨tr, false, ks, vs⟩ A5 n5 c5 A6 n6 c6) := fun w6 g5 cap5 h1 h2 h3 => by
    rw [hw5] at h1 h2
    exact Vs14.made HHS.out HP3.out.1 HP3.out.2.1 HP3.out.2.2.1 HP3.out.2.2.2 hG4.out.1 hG4.out.2.1 hG4.out.2.2.1 hG4.out.2.2.2 h1 h2 h3
  have HOW := Lib.hid (hS5.blks.alloc (.cells #[.int .i64 no] 3))
  have HLR : Hid (Row (w5.alloc (.cells #[.int .i64 no] 3)) (some ⟨w5.heap.size, 0, none⟩) [.int .i64 no]) := Row.of_block (t := 3) (fr := (0, 0)) (heap_alloc_new w5 _)
  have HP2 : Hid (∀ (w6 : World), (w5.alloc (.cells #[.int .i64 no] 3)).grownBy w6 s.B.ownBlock → w6.heap[p]? = w5.heap[p]?) := fun w6 hg => (hg.block p (by rw [World.size_alloc]; have := hS5.lt; omega) (fun e => by have := (hS5.blks.lt p e.symm).1; omega)).trans (Below.heap_alloc _ _ _ hS5.lt)
  have HB2 := Lib.hid hS5.blk
  have c1 := hS5.c1
  have hlt5 : p < w4.heap.size := (HP3.out.1.later hG4.out.1).lt
  obtain ⟨b4, hb4⟩ : ∃ b4, b4 = w4.heap.size := ⟨_, rfl⟩
  rw [← hb4] at DM
  have DE : Hid (∀ w6 s6, Vs14 w w6 p q g B b4 tree fuel s s6 L n W no lo hi way ⟨tr, false, ks, vs⟩ A5 n5 c5 A6 n6 c6 → Calls Tryz.prog 41 #[.pointer (some ⟨p, 0, none⟩), .int .i64 no, .agg #[.int .i64 tr, .bool false, .slice A5 n5 c5, .slice A6 n6 c6], .agg #[.int .i64 lo, .int .i64 hi]] w6 fun e w' => ∃ b s' W' way', e = .returned (.bool b) ∧ St14 w' p (.pointer (some ⟨q, 0, none⟩)) tree fuel s' W' way' ∧ (b = true → way' = way) ∧ Step14 (nd14 L n tree) rt14 fuel (W.see.inner ⟨no, lo, hi, way, 0⟩) (kids14 rt14 ⟨no, lo, hi, way, 0⟩ ⟨tr, false, ks, vs⟩) W' b ∧ Mov14 p s6 w6 s' w') := fun w6 s6 hD =>
    descend_of14 HVV.out no lo hi HWK.out hD.st hD.im HFI.out HL.out.2.2.1 hD.ndi HL.out.1 HL.out.2.2.2.1 (hD.f5 HL.out.2.2.2.2) (hD.f6 (by rw [HL.out.1]; exact HL.out.2.2.2.2)) (ints_lt14 hD.ndi.keys HL.out.2.2.2.2) (far_lt14 hD.ndi.vals (by rw [HL.out.1]; exact HL.out.2.2.2.2)) HL.out.2.1
  clear hS5 hb5 hz5
  rw [hw5] at c1
  rw [hw5] at DM HOW HLR HP2 HB2
  rw [World.size_alloc] at HLR
  rw [hb4] at DM
  clear hw5
  go_wp2_with (first
    | (at_builtin; go_must (refine wpList_append_liesG _ rfl (.tmp 50) (.tmp 52) 26 rfl (p + 1) 3 1 (.int .i64 0) 8 Tryz.underlying26 info_i64 rfl (by omega) s.B W.blks.length (i64s W.blks) rfl HOW.out (by simp; omega) ⟨_, 0, none⟩ [.int .i64 no] 1 1 rfl rfl HLR.out (by simp [Value.oneCell']) (by omega) (by omega) (by omega) ?_); intro g5 cap5 w6 hown hgrow hat; have hD := DM.out w6 g5 cap5 hgrow.out hat.out hown.out; have hp5 := (HP2.out w6 hgrow.out).trans HB2.out; have c1' : w6.cell? ⟨p, 1, none⟩ = some s.B := (by rw [cell_of_row w6 p 1 _ _ _ hp5]; rfl); have f1' := frozen_of_row w6 p 1 _ _ hp5; have k0 := hD.spn.c0; have k1 := hD.spn.c1; have n0 := hD.own.c0; have n1 := hD.own.c1; have n2 := hD.own.c2; have n3 := hD.own.c3; rw [← hb4] at hD; have HD := Lib.hid hD; clear hD hp5 hown hgrow hat)
    | (go_at_call 41; (with_reducible refine (DE.out _ _ HD.out).mono ?_); rintro e w7 ⟨b, s9, W9, way9, rfl, hst9, hw9, hstep9, hm9⟩; have HX9 := Lib.hid (And.intro hst9 (And.intro hw9 (And.intro hstep9 hm9))); clear hst9 hw9 hstep9 hm9))
  go_ret
  refine ⟨b, s9, W9, way9, rfl, HX9.out.1, HX9.out.2.1, Step14.node (nd := nd14 L n tree) (rt := rt14) (v := ⟨no, lo, hi, way, 0⟩) (w := W) rfl HH.out.2.2.2.2 HXX.out.1 (by show (nd14 L n tree no).2.leaf = false; rw [HND.out]) (nd14_keys L n tree no) ?_, HD.out.mov.trans HX9.out.2.2.2⟩
  show Step14 _ _ _ _ (kids14 rt14 _ (nd14 L n tree no).2) _ _
  rw [HND.out]
  exact HX9.out.2.2.1

theorem visit_all14 {p q g B : Nat} {tree fuel : Int} {L : List UInt8} {n : Nat} : ∀ k, VisC14 p q g B tree fuel L n k := by
  intro k
  induction k with
  | zero =>
    intro w s W way no lo hi hk h hI hF hr
    by_cases hd : fuel ≤ W.looked
    · exact visit_dry14 (g := g) (B := B) no lo hi h hF (by omega) hd
    · have hx : lookE14 (nd14 L n tree) W.deep ⟨no, lo, hi, way, 0⟩ ≠ 0 := fun hz => by
        have := (lookE14_zero hz).2.1
        have : way.length + 1 ≤ 16 := this
        omega
      exact visit_bad14 no lo hi h hI hF (by omega) hr (by omega) hx
  | succ k ih =>
    intro w s W way no lo hi hk h hI hF hr
    by_cases hd : fuel ≤ W.looked
    · exact visit_dry14 (g := g) (B := B) no lo hi h hF (by omega) hd
    · by_cases hx : lookE14 (nd14 L n tree) W.deep ⟨no, lo, hi, way, 0⟩ = 0
      · cases hl : (nd14 L n tree no).2.leaf with
        | true => exact visit_leaf14 no lo hi h hI hF (by omega) hr (by omega) hx hl
        | false => exact visit_inner14 no lo hi h hI hF (by omega) hr (by omega) hx hl ih (by omega)
      · exact visit_bad14 no lo hi h hI hF (by omega) hr (by omega) hx

end Go.Proofs.YtfcehhhcjlpklaaGreatDoor

/-
  Layer 14: Scan.
-/
namespace Go.Proofs.YtfcehhhcjlpklaaGreatDoor
open Go.RowKit
set_option linter.unusedVariables false
set_option linter.unusedSimpArgs false

theorem Errs.of_own {w : World} {base n : Nat} {e : TypeId} {v : Value} {ls : List (List Node)} (h : w.ownsRow base e 1 v n (ls.map val)) : ∃ A c, v = .slice A n c ∧ Errs w A n c ls := by
  obtain ⟨A, c, rfl, h1, h2⟩ := ownsRow_form h
  refine ⟨A, c, rfl, by have := h.1; rw [List.length_map] at this; omega, h1, by simpa [maxLen] using h2, Row.of_own h⟩

/-- what a scan hands back, in memory -/
structure Wk14 (w : World) (R : Wlk14) (AE : Option Addr) (nE cE : Nat) (AB : Option Addr) (nB cB : Nat) (AF : Option Addr) (nF cF : Nat) : Prop where
  ents : Ens w AE nE cE R.ents
  blks : Ints w AB nB cB R.blks
  flts : ∃ fs, Errs w AF nF cF fs ∧ Flts14 w fs R.flts
theorem Wk14.below {w w' : World} {R : Wlk14} {AE : Option Addr} {nE cE : Nat} {AB : Option Addr} {nB cB : Nat} {AF : Option Addr} {nF cF : Nat} (h : Wk14 w R AE nE cE AB nB cB AF nF cF) (hb : Below w.heap.size w w') : Wk14 w' R AE nE cE AB nB cB AF nF cF := by
  obtain ⟨fs, h1, h2⟩ := h.flts
  exact ⟨h.ents.below hb, h.blks.below hb, fs, h1.below hb, h2.same (Keeps.of_below hb)⟩

def wkV (deep looked : Int) (AE : Option Addr) (nE cE : Nat) (AB : Option Addr) (nB cB : Nat) (AF : Option Addr) (nF cF : Nat) : Value := .agg #[.slice AE nE cE, .slice AB nB cB, .int .i64 deep, .int .i64 looked, .slice AF nF cF]

theorem St14.handed {w : World} {p : Nat} {im : Value} {tree fuel : Int} {s : Rows14} {W : Wlk14} {way : List Int} (h : St14 w p im tree fuel s W way) : ∃ AE cE AB cB AF cF, s.E = .slice AE W.ents.length cE ∧ s.B = .slice AB W.blks.length cB ∧ s.F = .slice AF W.flts.length cF ∧ Wk14 w W AE W.ents.length cE AB W.blks.length cB AF W.flts.length cF ∧ Newer (p + 1) AE ∧ Newer (p + 1) AB ∧ Newer (p + 1) AF := by
  obtain ⟨AE, cE, hE, h1⟩ := Ens.of_own h.ents
  obtain ⟨AB, cB, hB, h2⟩ := Ints.of_own h.blks
  obtain ⟨fs, hf, hF⟩ := h.flts
  obtain ⟨AF, cF, hFv, h3⟩ := Errs.of_own hf
  refine ⟨AE, cE, AB, cB, AF, cF, hE, hB, hFv, ⟨h1, h2, fs, h3, hF⟩, ?_, ?_, ?_⟩
  · have := h.ents; rw [hE] at this; exact Newer.of_own this
  · have := h.blks; rw [hB] at this; exact Newer.of_own this
  · rw [hFv] at hf; exact Newer.of_own hf

/-- the result's variable -/
def WkAt (w : World) (b : Nat) (v0 v1 v2 v3 v4 : Value) : Prop := w.heap[b]? = some (.cells #[v0, v1, v2, v3, v4] 29 (0, 0))
theorem WkAt.load {w : World} {b : Nat} {AE : Option Addr} {nE cE : Nat} {AB : Option Addr} {nB cB : Nat} {AF : Option Addr} {nF cF : Nat} {deep looked : Int} (h : WkAt w b (.slice AE nE cE) (.slice AB nB cB) (.int .i64 deep) (.int .i64 looked) (.slice AF nF cF)) : (loadVar 29 ⟨b, 0, none⟩).run Tryz.prog w = .ok (wkV deep looked AE nE cE AB nB cB AF nF cF) w := run_loadVar_row w b _ _ _ _ _ h Tryz.underlying29 rfl (by kernel_rfl)

theorem WkAt.set5 {w : World} {b : Nat} {v0 v1 v2 v3 v4 : Value} (h : WkAt w b v0 v1 v2 v3 v4) (a0 a1 a2 a3 a4 : Value) : WkAt (((((w.setCell ⟨b, 0, none⟩ a0).setCell ⟨b, 1, none⟩ a1).setCell ⟨b, 2, none⟩ a2).setCell ⟨b, 3, none⟩ a3).setCell ⟨b, 4, none⟩ a4) b a0 a1 a2 a3 a4 := by
  have h1 : Blk w b 29 [v0, v1, v2, v3, v4] := h
  exact ((((h1.set 0 a0).set 1 a1).set 2 a2).set 3 a3).set 4 a4
theorem five_keep (w : World) (b : Nat) (a0 a1 a2 a3 a4 : Value) (k : Nat) (hk : k ≠ b) : (((((w.setCell ⟨b, 0, none⟩ a0).setCell ⟨b, 1, none⟩ a1).setCell ⟨b, 2, none⟩ a2).setCell ⟨b, 3, none⟩ a3).setCell ⟨b, 4, none⟩ a4).heap[k]? = w.heap[k]? := by
  rw [heap_setCell_other _ _ k _ hk, heap_setCell_other _ _ k _ hk, heap_setCell_other _ _ k _ hk, heap_setCell_other _ _ k _ hk, heap_setCell_other _ _ k _ hk]
theorem Wk14.keep {w w' : World} {R : Wlk14} {AE : Option Addr} {nE cE : Nat} {AB : Option Addr} {nB cB : Nat} {AF : Option Addr} {nF cF : Nat} {b : Nat} {v0 v1 v2 v3 v4 : Value} (h : Wk14 w R AE nE cE AB nB cB AF nF cF) (hV : WkAt w b v0 v1 v2 v3 v4) (h1 : Newer (b + 1) AE) (h2 : Newer (b + 1) AB) (h3 : Newer (b + 1) AF) (hk : ∀ k, k ≠ b → w'.heap[k]? = w.heap[k]?) : Wk14 w' R AE nE cE AB nB cB AF nF cF := by
  obtain ⟨fs, hf, hF⟩ := h.flts
  refine ⟨h.ents.newer h1 fun k hk2 => hk k (by omega), h.blks.newer h2 fun k hk2 => hk k (by omega), fs, ⟨hf.len, hf.cap, hf.most, hf.row.newer h3 fun k hk2 => hk k (by omega)⟩, hF.same fun p c e => (hk p (fun e2 => ?_)).trans e⟩
  subst e2
  rw [show w.heap[p]? = _ from hV] at e
  injection e with e
  injection e with _ e3 _
  exact absurd e3 (by decide)

set_option maxRecDepth 100000 in
set_option maxHeartbeats 3200000 in
theorem Scan_any14 {w : World} {B q g n : Nat} {L : List UInt8} (hI : Img w B q g L) (hL : L.length = n * 256) (root tree fuel : Int) (hf : fuel ≤ 1000) :
    Calls Tryz.prog 7 #[.pointer (some ⟨q, 0, none⟩), .int .i64 root, .int .i64 tree, .int .i64 fuel] w fun e w' => ∃ R AE cE AB cB AF cF, e = .returned (wkV R.deep R.looked AE R.ents.length cE AB R.blks.length cB AF R.flts.length cF) ∧ Wk14 w' R AE R.ents.length cE AB R.blks.length cB AF R.flts.length cF ∧ Done14 (nd14 L n tree) rt14 fuel Wlk14.zero [Vis14.root root] R ∧ Below w.heap.size w w' ∧ Newer w.heap.size AE ∧ Newer w.heap.size AB ∧ Newer w.heap.size AF ∧ Fit14 fuel R 1 := by
  obtain ⟨w1, hw1⟩ : ∃ w1, w1 = (w.alloc (.cells #[.slice none 0 0, .slice none 0 0, .int .i64 0, .int .i64 0, .slice none 0 0] 29)).alloc (.cells #[.slice none 0 0, .slice none 0 0, .int .i64 0, .int .i64 0, .slice none 0 0, .pointer (some ⟨q, 0, none⟩), .int .i64 tree, .int .i64 fuel, .slice none 0 0] 60) := ⟨_, rfl⟩
  have hb0 : Below w.heap.size w (w.alloc (.cells #[.slice none 0 0, .slice none 0 0, .int .i64 0, .int .i64 0, .slice none 0 0] 29)) := (Below.refl _ _).alloc (Nat.le_refl _) _
  have hb1 : Below w.heap.size w w1 := by rw [hw1]; exact hb0.alloc (by simp) _
  have hS : St14 w1 (w.heap.size + 1) (.pointer (some ⟨q, 0, none⟩)) tree fuel ⟨.slice none 0 0, .slice none 0 0, .slice none 0 0, .slice none 0 0⟩ Wlk14.zero [] := by
    have := St14.new (w.alloc (.cells #[.slice none 0 0, .slice none 0 0, .int .i64 0, .int .i64 0, .slice none 0 0] 29)) (.pointer (some ⟨q, 0, none⟩)) tree fuel
    rw [World.size_alloc, ← hw1] at this
    exact this
  have hR : WkAt w1 w.heap.size (.slice none 0 0) (.slice none 0 0) (.int .i64 0) (.int .i64 0) (.slice none 0 0) := by
    rw [hw1]
    exact (Below.heap_alloc _ _ _ (by simp)).trans (heap_alloc_new w _)
  have hz : w1.heap.size = w.heap.size + 2 := by rw [hw1]; simp
  have HA := Lib.hid (All_any13 w1)
  have VI : Hid (∀ w2, Below w1.heap.size w1 w2 → Calls Tryz.prog 19 #[.pointer (some ⟨w.heap.size + 1, 0, none⟩), .int .i64 root, .agg #[.int .i64 0, .int .i64 281474976710656]] w2 fun e w' => ∃ b AE cE AB cB AF cF R, e = .returned (.bool b) ∧ (w'.cell? ⟨w.heap.size + 1, 0, none⟩ = some (.slice AE R.ents.length cE) ∧ w'.cell? ⟨w.heap.size + 1, 1, none⟩ = some (.slice AB R.blks.length cB) ∧ w'.cell? ⟨w.heap.size + 1, 2, none⟩ = some (.int .i64 R.deep) ∧ w'.cell? ⟨w.heap.size + 1, 3, none⟩ = some (.int .i64 R.looked) ∧ w'.cell? ⟨w.heap.size + 1, 4, none⟩ = some (.slice AF R.flts.length cF)) ∧
      Hid (Wk14 w' R AE R.ents.length cE AB R.blks.length cB AF R.flts.length cF ∧ Done14 (nd14 L n tree) rt14 fuel Wlk14.zero [Vis14.root root] R ∧ Below w.heap.size w w' ∧ (Newer (w.heap.size + 2) AE ∧ Newer (w.heap.size + 2) AB ∧ Newer (w.heap.size + 2) AF) ∧ Fit14 fuel R 1 ∧ WkAt w' w.heap.size (.slice none 0 0) (.slice none 0 0) (.int .i64 0) (.int .i64 0) (.slice none 0 0))) := fun w2 hb2 => by
    have hbb : Below w.heap.size w w2 := hb1.trans (hb2.mono (by omega))
    have hS2 := hS.later hb2
    refine (visit_all14 (q := q) (g := g) (B := B) 16 w2 _ Wlk14.zero [] root 0 281474976710656 rfl hS2 ⟨hI.below hbb hI.plt hI.glt, hL, by have := hI.plt; omega, by have := hI.glt; omega⟩ (Fit14.zero hf) (by decide)).mono ?_
    rintro e w3 ⟨b, s3, R, way3, rfl, hst, _, hstep, hmov⟩
    obtain ⟨AE, cE, AB, cB, AF, cF, e1, e2, e3, hWk, n1, n2, n3⟩ := hst.handed
    have c0 := hst.c0
    have c1 := hst.c1
    have c4 := hst.c4
    rw [e1] at c0
    rw [e2] at c1
    rw [e3] at c4
    have hbl := Mov14.below hS2 hmov
    refine ⟨b, AE, cE, AB, cB, AF, cF, R, rfl, ⟨c0, c1, hst.c2, hst.c3, c4⟩, hWk, hstep.done, hbb.trans (hbl.mono (by omega)), ⟨n1, n2, n3⟩, (Fit14.zero hf).step hstep (by simp), ?_⟩
    exact (hbl.block _ (Nat.lt_succ_self _)).trans ((hb2.block _ (by omega)).trans hR)
  clear hI hL hf hb0 hb1 hS hR hz
  subst hw1
  go_enter Tryz.func7, Tryz.ntmps7
  go_wp2_with (first
    | (go_at_call 20; (with_reducible refine (HA.out).mono ?_); rintro e w2 ⟨rfl, hb2⟩; have HB2 := Lib.hid hb2; clear hb2)
    | (go_at_call 19; (with_reducible refine (VI.out _ HB2.out).mono ?_); rintro e w3 ⟨b, AE, cE, AB, cB, AF, cF, R, rfl, ⟨c0, c1, c2, c3, c4⟩, HX⟩; have r0 : w3.cell? ⟨w.heap.size, 0, none⟩ = some (.slice none 0 0) := (by rw [cell_of_row w3 w.heap.size 0 _ _ _ HX.out.2.2.2.2.2]; rfl); have r1 : w3.cell? ⟨w.heap.size, 1, none⟩ = some (.slice none 0 0) := (by rw [cell_of_row w3 w.heap.size 1 _ _ _ HX.out.2.2.2.2.2]; rfl); have r2 : w3.cell? ⟨w.heap.size, 2, none⟩ = some (.int .i64 0) := (by rw [cell_of_row w3 w.heap.size 2 _ _ _ HX.out.2.2.2.2.2]; rfl); have r3 : w3.cell? ⟨w.heap.size, 3, none⟩ = some (.int .i64 0) := (by rw [cell_of_row w3 w.heap.size 3 _ _ _ HX.out.2.2.2.2.2]; rfl); have r4 : w3.cell? ⟨w.heap.size, 4, none⟩ = some (.slice none 0 0) := (by rw [cell_of_row w3 w.heap.size 4 _ _ _ HX.out.2.2.2.2.2]; rfl); have f0 := frozen_of_row w3 w.heap.size 0 _ _ HX.out.2.2.2.2.2; have f1 := frozen_of_row w3 w.heap.size 1 _ _ HX.out.2.2.2.2.2; have f2 := frozen_of_row w3 w.heap.size 2 _ _ HX.out.2.2.2.2.2; have f3 := frozen_of_row w3 w.heap.size 3 _ _ HX.out.2.2.2.2.2; have f4 := frozen_of_row w3 w.heap.size 4 _ _ HX.out.2.2.2.2.2))
  obtain ⟨hWk, hD, hb, ⟨n1, n2, n3⟩, hF, hR⟩ := HX.out
  have h5 := hR.set5 (.slice AE R.ents.length cE) (.slice AB R.blks.length cB) (.int .i64 R.deep) (.int .i64 R.looked) (.slice AF R.flts.length cF)
  refine bodyPost_ret (res1_13 Tryz.results7 _ _ rfl h5.load) rfl ?_
  exact ⟨R, AE, cE, AB, cB, AF, cF, rfl, hWk.keep hR (n1.mono (Nat.le_succ _)) (n2.mono (Nat.le_succ _)) (n3.mono (Nat.le_succ _)) (five_keep w3 w.heap.size _ _ _ _ _), hD, ((((hb.setCell (p := ⟨w.heap.size, 0, none⟩) (Nat.le_refl _) _).setCell (p := ⟨w.heap.size, 1, none⟩) (Nat.le_refl _) _).setCell (p := ⟨w.heap.size, 2, none⟩) (Nat.le_refl _) _).setCell (p := ⟨w.heap.size, 3, none⟩) (Nat.le_refl _) _).setCell (p := ⟨w.heap.size, 4, none⟩) (Nat.le_refl _) _, n1.mono (by omega), n2.mono (by omega), n3.mono (by omega), hF⟩

end Go.Proofs.YtfcehhhcjlpklaaGreatDoor

/-
  Layer 14: the law's lives.
-/
namespace Go.Proofs.YtfcehhhcjlpklaaGreatDoor
open Go.RowKit
set_option linter.unusedVariables false
set_option linter.unusedSimpArgs false

def lvZ14 : List UInt8 := List.replicate 512 0
def lvN14 : Nod := ⟨2, true, [], []⟩
def lvL14 : List UInt8 := wrL11 lvZ14 2 1 2 (encNod lvN14)
theorem lvZ14_len : lvZ14.length = 2 * 256 := List.length_replicate
theorem lv_written : wrE11 2 1 2 (encNod lvN14) = 0 ∧ nodE11 lvL14 2 1 2 = 0 ∧ nodN11 lvL14 2 1 2 = lvN14 := by
  obtain ⟨h1, h2, _⟩ := nod_written (L := lvZ14) (n := 2) (no := 1) (nd := lvN14) lvZ14_len (by decide) (by decide) (by decide)
  exact ⟨h1, h2 2 (.inr rfl)⟩
theorem lvL14_len : lvL14.length = 2 * 256 := wrL11_length lvZ14_len
theorem lv_done : Done14 (nd14 lvL14 2 2) rt14 9 Wlk14.zero [Vis14.root 1] ⟨[], [1], 1, 1, []⟩ := by
  obtain ⟨_, h1, h2⟩ := lv_written
  have h0 : nd14 lvL14 2 2 1 = (0, lvN14) := by show (nodE11 _ _ _ _, nodN11 _ _ _ _) = _; rw [h1, h2]
  have e0 : lookE14 (nd14 lvL14 2 2) 0 (Vis14.root 1) = 0 := by simp [lookE14, Vis14.root, h0, lvN14, ins13]
  have := Done14.leaf (nd := nd14 lvL14 2 2) (rt := rt14) (fuel := 9) Wlk14.zero (Vis14.root 1) [] ⟨[], [1], 1, 1, []⟩ rfl (by decide) e0 (by show (nd14 lvL14 2 2 1).2.leaf = true; rw [h0]; rfl)
  refine this ?_
  have e : Wlk14.zero.see.leaf (Vis14.root 1) (nd14 lvL14 2 2 (Vis14.root 1).no).2 = ⟨[], [1], 1, 1, []⟩ := by
    show Wlk14.leaf _ _ (nd14 lvL14 2 2 1).2 = _
    rw [h0]; rfl
  rw [e]
  exact .nil _

/-- a scan whose end is known -/
theorem Scan_is14 {w : World} {B q g n : Nat} {L : List UInt8} (hI : Img w B q g L) (hL : L.length = n * 256) (root tree fuel : Int) (hf : fuel ≤ 1000) {R : Wlk14} (hD : Done14 (nd14 L n tree) rt14 fuel Wlk14.zero [Vis14.root root] R) :
    Calls Tryz.prog 7 #[.pointer (some ⟨q, 0, none⟩), .int .i64 root, .int .i64 tree, .int .i64 fuel] w fun e w' => ∃ AE cE AB cB AF cF, e = .returned (wkV R.deep R.looked AE R.ents.length cE AB R.blks.length cB AF R.flts.length cF) ∧ Wk14 w' R AE R.ents.length cE AB R.blks.length cB AF R.flts.length cF ∧ Below w.heap.size w w' := by
  refine (Scan_any14 hI hL root tree fuel hf).mono ?_
  rintro e w' ⟨R', AE, cE, AB, cB, AF, cF, h1, h2, h3, h4, _⟩
  obtain rfl := Done14.one h3 hD
  exact ⟨AE, cE, AB, cB, AF, cF, h1, h2, h4⟩

/-- an image in a later world -/
structure Lv14 (w W : World) (p g : Nat) (L : List UInt8) : Prop where
  bel : Below w.heap.size w W
  img : Img W w.heap.size p g L
theorem Lv14.later {w W W' : World} {p g : Nat} {L : List UInt8} (h : Lv14 w W p g L) (hb : Below W.heap.size W W') : Lv14 w W' p g L := ⟨h.bel.trans (hb.mono h.bel.size), h.img.later hb⟩

set_option maxRecDepth 100000 in
set_option maxHeartbeats 1600000 in
theorem lives14_any (w : World) : Calls Tryz.prog 5 #[] w fun e w' => e = .returned (.bool true) ∧ Below w.heap.size w w' := by
  obtain ⟨i0, hi0, hz0, hz1, hz2⟩ := info_parts info_u8
  have OF : Hid (∀ W g0, Own8 W w.heap.size g0 lvZ14 → Below w.heap.size w W → Calls Tryz.prog 8 #[.slice (some ⟨g0, 0, none⟩) 512 512] W fun e w' => ∃ p g, e = .returned (.pointer (some ⟨p, 0, none⟩)) ∧ Lv14 w w' p g lvZ14) := fun W g0 hO hb => by
    refine (Of_any _ 512 512 lvZ14 W (hO.bytes (n := 512) List.length_replicate (by omega))).mono ?_
    rintro e w' ⟨p, g, h1, h2, h3⟩
    refine ⟨p, g, h1, hb.trans (h3.mono hb.size), ?_⟩
    rw [show whole 512 * 256 = 512 by decide, List.take_of_length_le (by rw [lvZ14_len]; decide)] at h2
    exact h2.down hb.size
  have PT : Hid (∀ W p g, Lv14 w W p g lvZ14 → Calls Tryz.prog 15 #[.agg #[.int .i64 2, .bool true, .slice none 0 0, .slice none 0 0]] W fun e w' => ∃ g2, e = .returned (.tuple #[.slice (some ⟨g2, 0, none⟩) 244 244, .int .i64 0]) ∧ Own8 w' W.heap.size g2 (encNod lvN14) ∧ Lv14 w w' p g lvZ14) := fun W p g h => by
    refine (NPut_good W lvN14 none 0 0 none 0 0 ⟨Ints.nil W, Strs.nil W, by simp [lvN14, i64b], by simp [lvN14], by simp [lvN14]⟩ (by decide)).mono ?_
    rintro e w' ⟨g2, h1, h2, h3⟩
    exact ⟨g2, h1, h2, h.later h3⟩
  have WT : Hid (∀ W p g g2, Lv14 w W p g lvZ14 → Own8 W 0 g2 (encNod lvN14) → Calls Tryz.prog 16 #[.pointer (some ⟨p, 0, none⟩), .int .i64 1, .int .i64 2, .slice (some ⟨g2, 0, none⟩) 244 244] W fun e w' => e = .returned .nilIface ∧ Lv14 w w' p g lvL14) := fun W p g g2 h hO => by
    refine (blockWrite_any (n := 2) 1 2 h.img lvZ14_len (hO.bytes (n := 244) (by decide +kernel) (by omega))).mono ?_
    rintro e w' ⟨v, rfl, hE, hI, hg⟩
    rw [lv_written.1] at hE
    rcases hE with ⟨_, rfl⟩ | ⟨h0, _⟩
    · exact ⟨rfl, h.bel.trans (below_grown hg h.img.bg h.bel.size), hI⟩
    · exact absurd rfl h0
  have SC : Hid (∀ W p g, Lv14 w W p g lvL14 → Calls Tryz.prog 7 #[.pointer (some ⟨p, 0, none⟩), .int .i64 1, .int .i64 2, .int .i64 9] W fun e w' => ∃ AE cE AB cB AF cF, e = .returned (.agg #[.slice AE 0 cE, .slice AB 1 cB, .int .i64 1, .int .i64 1, .slice AF 0 cF]) ∧ Below w.heap.size w w') := fun W p g h => by
    refine (Scan_is14 h.img lvL14_len 1 2 9 (by decide) lv_done).mono ?_
    rintro e w' ⟨AE, cE, AB, cB, AF, cF, h1, _, h3⟩
    exact ⟨AE, cE, AB, cB, AF, cF, h1, h.bel.trans (h3.mono h.bel.size)⟩
  go_enter Tryz.func5, Tryz.ntmps5
  go_wp2_with (first
    | (at_make; refine wpList_make_full w rfl (.const (.int .i64 512)) (.const (.int .i64 512)) _ rfl w.heap.size 5 i0 _ 1 Tryz.underlying22 hi0 hz0 hz1 .i64 .i64 _ _ 512 rfl rfl rfl rfl (by rw [hz2]; omega) (by simp only [maxLen]; omega) (Nat.le_refl _) ?_; intro w1 hown1 hg1; have hb1 := below_of_grown hg1 (by simp); have HO1 := Lib.hid (own_zeros hown1 (Nat.le_refl _)); clear hown1 hg1)
    | (go_at_call 8; (with_reducible refine (OF.out _ _ HO1.out hb1).mono ?_); rintro e w2 ⟨p, g, rfl, hN2⟩)
    | (go_at_call 15; (with_reducible refine (PT.out _ _ _ hN2).mono ?_); rintro e w3 ⟨g2, rfl, hO3, hN3⟩; have HO3 := Lib.hid (hO3.down (Nat.zero_le _)); clear hO3)
    | (go_at_call 16; (with_reducible refine (WT.out _ _ _ _ hN3 HO3.out).mono ?_); rintro e w5 ⟨rfl, hN5⟩)
    | (go_at_call 7; (with_reducible refine (SC.out _ _ _ hN5).mono ?_); rintro e w6 ⟨AE, cE, AB, cB, AF, cF, rfl, hb6⟩))
  go_ret
  exact ⟨rfl, hb6.alloc hb6.size _⟩

end Go.Proofs.YtfcehhhcjlpklaaGreatDoor

/-
  Layer 14, the reference: the state of its Scan in memory, the visits that wait, what a step may change.
-/
namespace Go.Proofs.YtfcehhhcjlpklaaGreatDoor
open Go.RowKit
set_option linter.unusedVariables false
set_option linter.unusedSimpArgs false

/-- a slice's block stands -/
def Lies14 (w : World) (A : Option Addr) : Prop := ∀ ad, A = some ad → ad.block < w.heap.size
theorem Lies14.mono {w w' : World} {A : Option Addr} (h : Lies14 w A) (hs : w.heap.size ≤ w'.heap.size) : Lies14 w' A := fun ad e => Nat.lt_of_lt_of_le (h ad e) hs
/-- numbers that the scan does not write -/
structure Rd14 (w : World) (s : Rows14) (b : Nat) (x : Slc) (l : List Int) : Prop where
  ints : Ints w x.A x.n x.c l
  far : Far14 s b x.A
  lies : Lies14 w x.A
  new : Newer b x.A
theorem Rd14.mov {w w' : World} {s s' : Rows14} {b : Nat} {x : Slc} {l : List Int} (h : Rd14 w s b x l) (hm : Mov14 b s w s' w') : Rd14 w' s' b x l := ⟨h.ints.mov h.far hm, h.far.mov hm h.lies, h.lies.mono hm.frm.size, h.new⟩
theorem Rd14.below {w w' : World} {s : Rows14} {b : Nat} {x : Slc} {l : List Int} (h : Rd14 w s b x l) (hb : Below w.heap.size w w') : Rd14 w' s b x l := h.mov (Mov14.of_below s hb)

/-- the faults that were found, as the reference has them -/
def Bads14 (w : World) (s : Rows14) (b : Nat) : List (Slc × Int) → List (List Int × Int) → Prop
  | [], [] => True
  | f :: fs, x :: xs => (Rd14 w s b f.1 x.1 ∧ f.2 = x.2) ∧ Bads14 w s b fs xs
  | [], _ :: _ => False
  | _ :: _, [] => False
section
variable {w w' : World} {s s' : Rows14} {b : Nat}
theorem Bads14.length : ∀ {fs : List (Slc × Int)} {xs : List (List Int × Int)}, Bads14 w s b fs xs → fs.length = xs.length
  | [], [], _ => rfl
  | _ :: _, _ :: _, h => by simp only [List.length_cons]; rw [Bads14.length h.2]
theorem Bads14.snoc {f : Slc × Int} {x : List Int × Int} (hf : Rd14 w s b f.1 x.1) (hc : f.2 = x.2) : ∀ {fs : List (Slc × Int)} {xs : List (List Int × Int)}, Bads14 w s b fs xs → Bads14 w s b (fs ++ [f]) (xs ++ [x])
  | [], [], _ => ⟨⟨hf, hc⟩, trivial⟩
  | _ :: _, _ :: _, h => ⟨h.1, Bads14.snoc hf hc h.2⟩
theorem Bads14.mov (hm : Mov14 b s w s' w') : ∀ {fs : List (Slc × Int)} {xs : List (List Int × Int)}, Bads14 w s b fs xs → Bads14 w' s' b fs xs
  | [], [], _ => trivial
  | _ :: _, _ :: _, h => ⟨⟨h.1.1.mov hm, h.1.2⟩, Bads14.mov hm h.2⟩
theorem Bads14.at_ : ∀ {fs : List (Slc × Int)} {xs : List (List Int × Int)}, Bads14 w s b fs xs → ∀ k (h1 : k < fs.length) (h2 : k < xs.length), Rd14 w s b fs[k].1 xs[k].1 ∧ fs[k].2 = xs[k].2
  | _ :: _, _ :: _, h, 0, _, _ => h.1
  | _ :: _, _ :: _, h, k + 1, h1, h2 => Bads14.at_ h.2 k (by simpa using h1) (by simpa using h2)

/-- one visit that waits, as the reference has it -/
structure Vw14 (w : World) (s : Rows14) (b : Nat) (x : VisR) (v : Vis14) : Prop where
  no : x.no = v.no
  lo : x.lo = v.lo
  hi : x.hi = v.hi
  flt : x.flt = v.flt
  way : Rd14 w s b x.way v.way
  few : v.way.length ≤ 16
theorem Vw14.mov {x : VisR} {v : Vis14} (h : Vw14 w s b x v) (hm : Mov14 b s w s' w') : Vw14 w' s' b x v := ⟨h.no, h.lo, h.hi, h.flt, h.way.mov hm, h.few⟩
def Wait14 (w : World) (s : Rows14) (b : Nat) : List VisR → List Vis14 → Prop
  | [], [] => True
  | x :: xs, v :: vs => Vw14 w s b x v ∧ Wait14 w s b xs vs
  | [], _ :: _ => False
  | _ :: _, [] => False
theorem Wait14.length : ∀ {xs : List VisR} {vs : List Vis14}, Wait14 w s b xs vs → xs.length = vs.length
  | [], [], _ => rfl
  | _ :: _, _ :: _, h => by simp only [List.length_cons]; rw [Wait14.length h.2]
theorem Wait14.append : ∀ {xs ys : List VisR} {vs us : List Vis14}, Wait14 w s b xs vs → Wait14 w s b ys us → Wait14 w s b (xs ++ ys) (vs ++ us)
  | [], _, [], _, _, h => h
  | _ :: _, _, _ :: _, _, h, k => ⟨h.1, Wait14.append h.2 k⟩
theorem Wait14.mov (hm : Mov14 b s w s' w') : ∀ {xs : List VisR} {vs : List Vis14}, Wait14 w s b xs vs → Wait14 w' s' b xs vs
  | [], [], _ => trivial
  | _ :: _, _ :: _, h => ⟨h.1.mov hm, Wait14.mov hm h.2⟩
theorem Wait14.cons {xs : List VisR} {v : Vis14} {vs : List Vis14} (h : Wait14 w s b xs (v :: vs)) : ∃ x ys, xs = x :: ys ∧ Vw14 w s b x v ∧ Wait14 w s b ys vs := by
  cases xs with
  | nil => exact h.elim
  | cons x ys => exact ⟨x, ys, rfl, h⟩
end

/-- a slice of visits -/
structure Vss14 (w : World) (s : Rows14) (b : Nat) (A : Option Addr) (n c : Nat) (xs : List VisR) (vs : List Vis14) : Prop where
  len : xs.length = n
  cap : n ≤ c
  most : c ≤ 9223372036854775807
  row : Row w A (visC xs)
  far : Far14 s b A
  lies : Lies14 w A
  all : Wait14 w s b xs vs
theorem Vss14.mov {w w' : World} {s s' : Rows14} {b : Nat} {A : Option Addr} {n c : Nat} {xs : List VisR} {vs : List Vis14} (h : Vss14 w s b A n c xs vs) (hm : Mov14 b s w s' w') : Vss14 w' s' b A n c xs vs := ⟨h.len, h.cap, h.most, h.row.mov h.far hm, h.far.mov hm h.lies, h.lies.mono hm.frm.size, h.all.mov hm⟩
theorem visC_cons (x : VisR) (r : List VisR) : visC (x :: r) = [.int .i64 x.no, .int .i64 x.lo, .int .i64 x.hi, .slice x.way.A x.way.n x.way.c, .int .i64 x.flt] ++ visC r := by simp [visC]
/-- the first of them -/
theorem Vss14.head {w : World} {s : Rows14} {b : Nat} {A : Option Addr} {n c : Nat} {xs : List VisR} {v : Vis14} {vs : List Vis14} (h : Vss14 w s b A n c xs (v :: vs)) : ∃ x ys q o, xs = x :: ys ∧ Vw14 w s b x v ∧ A = some ⟨q, o, none⟩ ∧
    (w.cell? ⟨q, o, none⟩ = some (.int .i64 x.no) ∧ w.cell? ⟨q, o + 1, none⟩ = some (.int .i64 x.lo) ∧ w.cell? ⟨q, o + 2, none⟩ = some (.int .i64 x.hi) ∧ w.cell? ⟨q, o + 3, none⟩ = some (.slice x.way.A x.way.n x.way.c) ∧ w.cell? ⟨q, o + 4, none⟩ = some (.int .i64 x.flt)) ∧
    (∀ c', c' = c - 1 → Vss14 w s b (if c = 1 then A else some ⟨q, o + 5, none⟩) (n - 1) c' ys vs) := by
  obtain ⟨x, ys, rfl, h1, h2⟩ := h.all.cons
  obtain ⟨q, o, rfl, _, hc⟩ := h.row.lit (by rw [visC_length, List.length_cons]; omega)
  have hn := h.len
  have hcap := h.cap
  rw [List.length_cons] at hn
  rw [visC_cons] at hc
  refine ⟨x, ys, q, o, rfl, h1, rfl, ⟨?_, ?_, ?_, ?_, ?_⟩, fun c' ec => ?_⟩
  · have := hc 0 _ rfl; simpa using this
  · exact hc 1 _ rfl
  · exact hc 2 _ rfl
  · exact hc 3 _ rfl
  · exact hc 4 _ rfl
  · subst ec
    refine ⟨by omega, by omega, by have := h.most; omega, ?_, ?_, ?_, h2⟩
    · have hr := h.row.drop 5
      rw [visC_cons] at hr
      simp only [Option.map_some, Addr.add_lit] at hr
      split
      · have : ys = [] := List.eq_nil_of_length_eq_zero (by omega)
        subst this
        exact Row.nil _ _
      · exact hr
    · split
      · exact h.far
      · intro ad e
        cases e
        exact h.far ⟨q, o, none⟩ rfl
    · split
      · exact h.lies
      · intro ad e
        cases e
        exact h.lies ⟨q, o, none⟩ rfl

/-- the reference's scan: its variable at block b -/
structure RS14 (w : World) (b : Nat) (s : Rows14) (W : Wlk14) : Prop where
  nop : s.P = .slice none 0 0
  blk : w.heap[b]? = some (.cells #[s.E, s.B, .int .i64 W.deep, .int .i64 W.looked, s.F] 35 (0, 0))
  ents : w.ownsRow (b + 1) 77 3 s.E W.ents.length (entC W.ents)
  blks : w.ownsRow (b + 1) 3 1 s.B W.blks.length (i64s W.blks)
  flts : ∃ fr : List (Slc × Int), w.ownsRow (b + 1) 45 2 s.F W.flts.length (badC fr) ∧ Bads14 w s b fr W.flts

section
variable {w w1 w' : World} {b : Nat} {s s' : Rows14} {W : Wlk14}
theorem RS14.lt (h : RS14 w b s W) : b < w.heap.size := block_lt h.blk
theorem RS14.c0 (h : RS14 w b s W) : w.cell? ⟨b, 0, none⟩ = some s.E := by rw [cell_of_row w b 0 _ _ _ h.blk]; rfl
theorem RS14.c1 (h : RS14 w b s W) : w.cell? ⟨b, 1, none⟩ = some s.B := by rw [cell_of_row w b 1 _ _ _ h.blk]; rfl
theorem RS14.c2 (h : RS14 w b s W) : w.cell? ⟨b, 2, none⟩ = some (.int .i64 W.deep) := by rw [cell_of_row w b 2 _ _ _ h.blk]; rfl
theorem RS14.c3 (h : RS14 w b s W) : w.cell? ⟨b, 3, none⟩ = some (.int .i64 W.looked) := by rw [cell_of_row w b 3 _ _ _ h.blk]; rfl
theorem RS14.c4 (h : RS14 w b s W) : w.cell? ⟨b, 4, none⟩ = some s.F := by rw [cell_of_row w b 4 _ _ _ h.blk]; rfl
theorem RS14.fz (h : RS14 w b s W) (j : Nat) : w.frozen? ⟨b, j, none⟩ = false := frozen_of_row w b j _ _ h.blk
theorem RS14.mine_lt (h : RS14 w b s W) : ∀ k, s.mine b k → b ≤ k ∧ k < w.heap.size := fun k hk => by
  obtain ⟨fs, hf, _⟩ := h.flts
  rcases hk with rfl | hk | hk | hk | hk
  · exact ⟨Nat.le_refl _, h.lt⟩
  · have := h.ents.lt k hk; omega
  · have := h.blks.lt k hk; omega
  · have := hf.lt k hk; omega
  · rw [h.nop] at hk; cases hk
theorem Mov14.belowR (h : RS14 w b s W) (hm : Mov14 b s w s' w') : Below b w w' :=
  ⟨hm.frm.os, hm.frm.tape, hm.frm.output, hm.frm.size, fun k hk => hm.frm.block k (Nat.lt_trans hk h.lt) (fun hx => by have := (h.mine_lt k hx).1; omega)⟩
/-- nothing of it moves -/
theorem RS14.later (h : RS14 w b s W) (hb : Below w.heap.size w w') : RS14 w' b s W := by
  obtain ⟨fs, hf, hg⟩ := h.flts
  have key : ∀ k, k < w.heap.size → w'.heap[k]? = w.heap[k]? := hb.block
  exact ⟨h.nop, (key _ h.lt).trans h.blk, own_moved h.ents fun k _ hk => key k hk, own_moved h.blks fun k _ hk => key k hk, ⟨fs, own_moved hf fun k _ hk => key k hk, hg.mov (Mov14.of_below s hb)⟩⟩
/-- a number of it is written -/
theorem RS14.put (h : RS14 w b s W) (j : Nat) (x : Int) (hj : j = 2 ∨ j = 3) :
    RS14 (w.setCell ⟨b, j, none⟩ (.int .i64 x)) b s ⟨W.ents, W.blks, if j = 2 then x else W.deep, if j = 3 then x else W.looked, W.flts⟩ ∧ Mov14 b s w s (w.setCell ⟨b, j, none⟩ (.int .i64 x)) := by
  have hm : Mov14 b s w s (w.setCell ⟨b, j, none⟩ (.int .i64 x)) := ⟨Frm.set (Frm.of_below (Below.refl _ _)) (.inl rfl) _, fun _ _ h => h⟩
  obtain ⟨fs, hf, hg⟩ := h.flts
  have key : ∀ k, b + 1 ≤ k → (w.setCell ⟨b, j, none⟩ (.int .i64 x)).heap[k]? = w.heap[k]? := fun k hk => heap_setCell_other _ _ k _ (by show k ≠ b; omega)
  refine ⟨⟨h.nop, ?_, own_moved h.ents fun k e _ => key k (h.ents.lt k e).1, own_moved h.blks fun k e _ => key k (h.blks.lt k e).1, ⟨fs, own_moved hf fun k e _ => key k (hf.lt k e).1, hg.mov hm⟩⟩, hm⟩
  rw [heap_setCell_same w b _ _ _ _ h.blk]
  rcases hj with rfl | rfl <;> rfl

theorem mov_appendR {v v' : Value} {g : Nat} (hv : ∀ k, v.ownBlock = some k → s.mine b k) (hgrow : w.grownBy w1 v.ownBlock) (hat : v.ownBlock = some g ∨ g = w.heap.size) (hg' : v'.ownBlock = some g) (j : Nat)
    (hs : ∀ k, s'.mine b k → s.mine b k ∨ v'.ownBlock = some k) : Mov14 b s w s' (w1.setCell ⟨b, j, none⟩ v') := by
  refine ⟨⟨hgrow.os, hgrow.tape, hgrow.output, by simpa [World.setCell] using hgrow.size, fun q hq hn => ?_⟩, fun k hk hm => ?_⟩
  · rw [heap_setCell_other _ _ q _ (fun e => hn (.inl e))]
    exact hgrow.block q hq (fun e => hn (hv q e.symm))
  · rcases hs k hm with h1 | h1
    · exact h1
    · rw [hg'] at h1
      injection h1 with h1
      subst h1
      rcases hat with h2 | h2
      · exact hv g h2
      · omega
theorem set_blockR (h : RS14 w b s W) {v : Value} (hv : ∀ k, v.ownBlock = some k → b + 1 ≤ k) (hgrow : w.grownBy w1 v.ownBlock) (j : Nat) (u : Value) :
    (w1.setCell ⟨b, j, none⟩ u).heap[b]? = some (.cells ((#[s.E, s.B, .int .i64 W.deep, .int .i64 W.looked, s.F] : Array Value).set! j u) 35 (0, 0)) := by
  have h1 : w1.heap[b]? = w.heap[b]? := hgrow.block b h.lt (fun e => by have := hv b e.symm; omega)
  rw [heap_setCell_same w1 b _ _ _ _ (h1.trans h.blk)]
  rfl
theorem row_blockR {v : Value} (hlt : b < w.heap.size) (hgrow : w.grownBy w1 v.ownBlock) (j : Nat) (u : Value) {base size n : Nat} {e : TypeId} {y : Value} {xs : List Value} (hy : w.ownsRow base e size y n xs) (hb : b + 1 ≤ base) (hne : ∀ k, y.ownBlock = some k → v.ownBlock ≠ some k) :
    (w1.setCell ⟨b, j, none⟩ u).ownsRow base e size y n xs :=
  own_moved hy fun k hk hlt => by
    have := (hy.lt k hk).1
    rw [heap_setCell_other _ _ k _ (by show k ≠ b; omega)]
    exact hgrow.block k hlt (fun e => hne k hk e.symm)
theorem own_setR {base size n : Nat} {e : TypeId} {y : Value} {xs : List Value} (hy : w1.ownsRow base e size y n xs) (hb : b + 1 ≤ base) (j : Nat) (u : Value) : (w1.setCell ⟨b, j, none⟩ u).ownsRow base e size y n xs :=
  own_moved hy fun k hk _ => heap_setCell_other _ _ k _ (by have := (hy.lt k hk).1; show k ≠ b; omega)

theorem RS14.addBlk (h : RS14 w b s W) {g cap : Nat} {no : Int} (hgrow : w.grownBy w1 s.B.ownBlock) (hat : s.B.ownBlock = some g ∨ g = w.heap.size)
    (hown : w1.ownsRow (b + 1) 3 1 (.slice (some ⟨g, 0, none⟩) (W.blks.length + 1) cap) (W.blks.length + 1) (i64s W.blks ++ [.int .i64 no])) :
    RS14 (w1.setCell ⟨b, 1, none⟩ (.slice (some ⟨g, 0, none⟩) (W.blks.length + 1) cap)) b ⟨s.E, .slice (some ⟨g, 0, none⟩) (W.blks.length + 1) cap, s.F, s.P⟩ ⟨W.ents, W.blks ++ [no], W.deep, W.looked, W.flts⟩ ∧
      Mov14 b s w ⟨s.E, .slice (some ⟨g, 0, none⟩) (W.blks.length + 1) cap, s.F, s.P⟩ (w1.setCell ⟨b, 1, none⟩ (.slice (some ⟨g, 0, none⟩) (W.blks.length + 1) cap)) := by
  obtain ⟨fs, hf, hg⟩ := h.flts
  have hm : Mov14 b s w ⟨s.E, .slice (some ⟨g, 0, none⟩) (W.blks.length + 1) cap, s.F, s.P⟩ (w1.setCell ⟨b, 1, none⟩ (.slice (some ⟨g, 0, none⟩) (W.blks.length + 1) cap)) :=
    mov_appendR (fun k e => .inr (.inr (.inl e))) hgrow hat rfl 1 (fun k hk => by
      rcases hk with e | e | e | e | e
      · exact .inl (.inl e)
      · exact .inl (.inr (.inl e))
      · exact .inr e
      · exact .inl (.inr (.inr (.inr (.inl e))))
      · exact .inl (.inr (.inr (.inr (.inr e)))))
  refine ⟨⟨h.nop, set_blockR h (fun k e => (h.blks.lt k e).1) hgrow 1 _, row_blockR h.lt hgrow 1 _ h.ents (Nat.le_refl _) (own_types h.ents h.blks (by decide)), ?_,
    ⟨fs, row_blockR h.lt hgrow 1 _ hf (Nat.le_refl _) (own_types hf h.blks (by decide)), hg.mov hm⟩⟩, hm⟩
  have := own_setR (b := b) hown (Nat.le_refl _) 1 (.slice (some ⟨g, 0, none⟩) (W.blks.length + 1) cap)
  show World.ownsRow _ _ _ _ _ (W.blks ++ [no]).length (i64s (W.blks ++ [no]))
  rw [i64s_append, List.length_append]; exact this

theorem RS14.addEnt (h : RS14 w b s W) {g cap : Nat} {x : Int × List UInt8 × Int} (hgrow : w.grownBy w1 s.E.ownBlock) (hat : s.E.ownBlock = some g ∨ g = w.heap.size)
    (hown : w1.ownsRow (b + 1) 77 3 (.slice (some ⟨g, 0, none⟩) (W.ents.length + 1) cap) (W.ents.length + 1) (entC W.ents ++ [.int .i64 x.1, .string ⟨x.2.1.toArray⟩, .int .i64 x.2.2])) :
    RS14 (w1.setCell ⟨b, 0, none⟩ (.slice (some ⟨g, 0, none⟩) (W.ents.length + 1) cap)) b ⟨.slice (some ⟨g, 0, none⟩) (W.ents.length + 1) cap, s.B, s.F, s.P⟩ ⟨W.ents ++ [x], W.blks, W.deep, W.looked, W.flts⟩ ∧
      Mov14 b s w ⟨.slice (some ⟨g, 0, none⟩) (W.ents.length + 1) cap, s.B, s.F, s.P⟩ (w1.setCell ⟨b, 0, none⟩ (.slice (some ⟨g, 0, none⟩) (W.ents.length + 1) cap)) := by
  obtain ⟨fs, hf, hg⟩ := h.flts
  have hm : Mov14 b s w ⟨.slice (some ⟨g, 0, none⟩) (W.ents.length + 1) cap, s.B, s.F, s.P⟩ (w1.setCell ⟨b, 0, none⟩ (.slice (some ⟨g, 0, none⟩) (W.ents.length + 1) cap)) :=
    mov_appendR (fun k e => .inr (.inl e)) hgrow hat rfl 0 (fun k hk => by
      rcases hk with e | e | e | e | e
      · exact .inl (.inl e)
      · exact .inr e
      · exact .inl (.inr (.inr (.inl e)))
      · exact .inl (.inr (.inr (.inr (.inl e))))
      · exact .inl (.inr (.inr (.inr (.inr e)))))
  refine ⟨⟨h.nop, set_blockR h (fun k e => (h.ents.lt k e).1) hgrow 0 _, ?_, row_blockR h.lt hgrow 0 _ h.blks (Nat.le_refl _) (own_types h.blks h.ents (by decide)),
    ⟨fs, row_blockR h.lt hgrow 0 _ hf (Nat.le_refl _) (own_types hf h.ents (by decide)), hg.mov hm⟩⟩, hm⟩
  have := own_setR (b := b) hown (Nat.le_refl _) 0 (.slice (some ⟨g, 0, none⟩) (W.ents.length + 1) cap)
  show World.ownsRow _ _ _ _ _ (W.ents ++ [x]).length (entC (W.ents ++ [x]))
  rw [entC_snoc, List.length_append]
  have e : entC [x] = [.int .i64 x.1, .string ⟨x.2.1.toArray⟩, .int .i64 x.2.2] := by simp [entC]
  rw [e]; exact this

theorem RS14.addFlt (h : RS14 w b s W) {fs : List (Slc × Int)} (hF : Bads14 w s b fs W.flts) {g cap : Nat} {f : Slc} {x : List Int × Int} (hgd : Rd14 w s b f x.1) (hgrow : w.grownBy w1 s.F.ownBlock) (hat : s.F.ownBlock = some g ∨ g = w.heap.size)
    (hfs : w.ownsRow (b + 1) 45 2 s.F W.flts.length (badC fs))
    (hown : w1.ownsRow (b + 1) 45 2 (.slice (some ⟨g, 0, none⟩) (W.flts.length + 1) cap) (W.flts.length + 1) (badC fs ++ [.slice f.A f.n f.c, .int .i64 x.2])) :
    RS14 (w1.setCell ⟨b, 4, none⟩ (.slice (some ⟨g, 0, none⟩) (W.flts.length + 1) cap)) b ⟨s.E, s.B, .slice (some ⟨g, 0, none⟩) (W.flts.length + 1) cap, s.P⟩ ⟨W.ents, W.blks, W.deep, W.looked, W.flts ++ [x]⟩ ∧
      Mov14 b s w ⟨s.E, s.B, .slice (some ⟨g, 0, none⟩) (W.flts.length + 1) cap, s.P⟩ (w1.setCell ⟨b, 4, none⟩ (.slice (some ⟨g, 0, none⟩) (W.flts.length + 1) cap)) := by
  have hm : Mov14 b s w ⟨s.E, s.B, .slice (some ⟨g, 0, none⟩) (W.flts.length + 1) cap, s.P⟩ (w1.setCell ⟨b, 4, none⟩ (.slice (some ⟨g, 0, none⟩) (W.flts.length + 1) cap)) :=
    mov_appendR (fun k e => .inr (.inr (.inr (.inl e)))) hgrow hat rfl 4 (fun k hk => by
      rcases hk with e | e | e | e | e
      · exact .inl (.inl e)
      · exact .inl (.inr (.inl e))
      · exact .inl (.inr (.inr (.inl e)))
      · exact .inr e
      · exact .inl (.inr (.inr (.inr (.inr e)))))
  refine ⟨⟨h.nop, set_blockR h (fun k e => (hfs.lt k e).1) hgrow 4 _, row_blockR h.lt hgrow 4 _ h.ents (Nat.le_refl _) (own_types h.ents hfs (by decide)), row_blockR h.lt hgrow 4 _ h.blks (Nat.le_refl _) (own_types h.blks hfs (by decide)),
    ⟨fs ++ [(f, x.2)], ?_, (hF.snoc hgd rfl).mov hm⟩⟩, hm⟩
  have := own_setR (b := b) hown (Nat.le_refl _) 4 (.slice (some ⟨g, 0, none⟩) (W.flts.length + 1) cap)
  show World.ownsRow _ _ _ _ _ (W.flts ++ [x]).length (badC (fs ++ [(f, x.2)]))
  rw [badC_snoc, List.length_append]
  have e : badC [(f, x.2)] = [.slice f.A f.n f.c, .int .i64 x.2] := by simp [badC]
  rw [e]; exact this
end

/-- a state just made -/
theorem RS14.new (w : World) : RS14 (w.alloc (.cells #[.slice none 0 0, .slice none 0 0, .int .i64 0, .int .i64 0, .slice none 0 0] 35)) w.heap.size ⟨.slice none 0 0, .slice none 0 0, .slice none 0 0, .slice none 0 0⟩ Wlk14.zero :=
  ⟨rfl, heap_alloc_new w _, World.ownsRow_nil _ _ _ _, World.ownsRow_nil _ _ _ _, ⟨[], World.ownsRow_nil _ _ _ _, trivial⟩⟩

/-- how much there is: entries, blocks, faults, visits that wait -/
structure Ft14 (fuel : Int) (W : Wlk14) (m : Nat) : Prop where
  low : 0 ≤ W.looked
  most : W.looked ≤ 300
  ents : (W.ents.length : Int) ≤ 18 * W.looked
  blks : (W.blks.length : Int) ≤ W.looked
  rest : (W.flts.length : Int) + m ≤ 1 + 18 * W.looked
  fuel : fuel ≤ 300

section
variable {fuel : Int} {W : Wlk14} {m : Nat} {v : Vis14}
theorem Ft14.zero (h : fuel ≤ 300) : Ft14 fuel Wlk14.zero 1 := ⟨by show (0 : Int) ≤ 0; omega, by show (0 : Int) ≤ 300; omega, by show ((0 : Nat) : Int) ≤ 18 * 0; omega, by show ((0 : Nat) : Int) ≤ 0; omega, by show ((0 : Nat) : Int) + ((1 : Nat) : Int) ≤ 1 + 18 * 0; omega, h⟩
theorem Ft14.flt (h : Ft14 fuel W (m + 1)) (c : Int) : Ft14 fuel (W.bad v c) m := by
  have h5 := h.rest
  refine ⟨h.low, h.most, h.ents, h.blks, ?_, h.fuel⟩
  show (((W.flts ++ [_]).length : Nat) : Int) + _ ≤ 1 + 18 * W.looked
  rw [List.length_append, List.length_singleton]; omega
theorem Ft14.bad (h : Ft14 fuel W (m + 1)) (hl : W.looked < fuel) (c : Int) : Ft14 fuel (W.see.bad v c) m := by
  have h1 := h.low
  have h3 := h.ents
  have h4 := h.blks
  have h5 := h.rest
  have h6 := h.fuel
  refine ⟨by show 0 ≤ W.looked + 1; omega, by show W.looked + 1 ≤ 300; omega, by show (W.ents.length : Int) ≤ 18 * (W.looked + 1); omega, by show (W.blks.length : Int) ≤ W.looked + 1; omega, ?_, h.fuel⟩
  show (((W.flts ++ [_]).length : Nat) : Int) + _ ≤ 1 + 18 * (W.looked + 1)
  rw [List.length_append, List.length_singleton]; omega
theorem Ft14.leaf (h : Ft14 fuel W (m + 1)) (hl : W.looked < fuel) {n : Nod} (hn : n.keys.length ≤ 18) : Ft14 fuel (W.see.leaf v n) m := by
  have h1 := h.low
  have h3 := h.ents
  have h4 := h.blks
  have h5 := h.rest
  have h6 := h.fuel
  refine ⟨by show 0 ≤ W.looked + 1; omega, by show W.looked + 1 ≤ 300; omega, ?_, ?_, by show (W.flts.length : Int) + m ≤ 1 + 18 * (W.looked + 1); omega, h.fuel⟩
  · show (((W.ents ++ ents14 n v.no).length : Nat) : Int) ≤ 18 * (W.looked + 1)
    rw [List.length_append, ents14_length]; omega
  · show (((W.blks ++ [v.no]).length : Nat) : Int) ≤ W.looked + 1
    rw [List.length_append, List.length_singleton]; omega
theorem Ft14.node (h : Ft14 fuel W (m + 1)) (hl : W.looked < fuel) {k : Nat} (hn : k ≤ 18) : Ft14 fuel (W.see.inner v) (k + m) := by
  have h1 := h.low
  have h3 := h.ents
  have h4 := h.blks
  have h5 := h.rest
  have h6 := h.fuel
  refine ⟨by show 0 ≤ W.looked + 1; omega, by show W.looked + 1 ≤ 300; omega, by show (W.ents.length : Int) ≤ 18 * (W.looked + 1); omega, ?_, by show (W.flts.length : Int) + ((k + m : Nat) : Int) ≤ 1 + 18 * (W.looked + 1); omega, h.fuel⟩
  show (((W.blks ++ [v.no]).length : Nat) : Int) ≤ W.looked + 1
  rw [List.length_append, List.length_singleton]; omega
end

end Go.Proofs.YtfcehhhcjlpklaaGreatDoor
