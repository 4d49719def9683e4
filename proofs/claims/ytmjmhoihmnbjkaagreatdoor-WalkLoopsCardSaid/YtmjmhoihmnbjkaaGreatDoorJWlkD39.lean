/-
  Joined: WlkJ, WlkK, WlkL, WlkLawD.
-/
import Derived.Test.YtmjmhoihmnbjkaaGreatDoorJWlkD38
import Derived.Test.YtmjmhoihmnbjkaaGreatDoorJWlkD29
import Derived.Test.YtmjmhoihmnbjkaaGreatDoorJWlkD31
import Derived.Test.YtmjmhoihmnbjkaaGreatDoorJWlkD36
import Derived.Test.YtmjmhoihmnbjkaaGreatDoorJWlkD09
import Derived.Deep.RegionLaw
import Derived.Test.YtmjmhoihmnbjkaaGreatDoorJWlkD33
/-
  Layer 14: visit, at a leaf, at an inner node; visit for any node.
-/
namespace Go.Proofs.YtmjmhoihmnbjkaaGreatDoor
open Go.RowKit
set_option linter.unusedVariables false
set_option linter.unusedSimpArgs false

/-- behind the append onto the blocks -/
structure Vs14 (w w6 : World) (p q g B b : Nat) (tree fuel : Int) (s s6 : Rows14) (L : List UInt8) (n : Nat) (W : Wlk14) (no lo hi : Int) (way : List Int) (nd : Nod) (A5 : Option Addr) (n5 c5 : Nat) (A6 : Option Addr) (n6 c6 : Nat) : Prop where
  st : St14 w6 p (.pointer (some ⟨q, 0, none⟩)) tree fuel s6 (W.see.inner ⟨no, lo, hi, way, 0⟩) way
  mov : Mov14 p s w s6 w6
  own : NodAt w6 b nd.tree nd.leaf (.slice A5 n5 c5) (.slice A6 n6 c6)
  spn : SpnAt w6 w.heap.size lo hi
  ndi : NodIn w6 nd A5 n5 c5 A6 n6 c6
  f5 : 0 < nd.keys.length → Far14 s6 p A5
  f6 : 0 < nd.vals.length → Far14 s6 p A6
  im : Im14 w6 p q g B L n
theorem ints_lt14 {w : World} {A : Option Addr} {n c : Nat} {l : List Int} (h : Ints w A n c l) (hp : 0 < l.length) : ∀ ad, A = some ad → ad.block < w.heap.size := fun ad e => by
  obtain ⟨b, off, e2, hl, _⟩ := h.row.lit (by rw [i64s_length]; exact hp)
  rw [e] at e2; cases e2; exact hl
theorem Vs14.made {w w3 w4 w6 : World} {p q g B : Nat} {tree fuel : Int} {s : Rows14} {L : List UInt8} {n : Nat} {W : Wlk14} {no lo hi : Int} {way : List Int} {nd : Nod} {A5 : Option Addr} {n5 c5 : Nat} {A6 : Option Addr} {n6 c6 : Nat} {g5 cap5 : Nat}
    (h0 : St14 w p (.pointer (some ⟨q, 0, none⟩)) tree fuel s W way) (h3 : St14 w3 p (.pointer (some ⟨q, 0, none⟩)) tree fuel s W.see way) (hM3 : Mov14 p s w s w3) (hK : SpnAt w3 w.heap.size lo hi) (hI : Im14 w3 p q g B L n) (hb4 : Below w3.heap.size w3 w4) (hN : NodIn w4 nd A5 n5 c5 A6 n6 c6) (h5 : Newer w3.heap.size A5) (h6 : Newer w3.heap.size A6)
    (hgrow : ((w4.alloc (.cells #[.int .i64 nd.tree, .bool nd.leaf, .slice A5 n5 c5, .slice A6 n6 c6] 52)).alloc (.cells #[.int .i64 no] 3)).grownBy w6 s.B.ownBlock)
    (hat : s.B.ownBlock = some g5 ∨ g5 = ((w4.alloc (.cells #[.int .i64 nd.tree, .bool nd.leaf, .slice A5 n5 c5, .slice A6 n6 c6] 52)).alloc (.cells #[.int .i64 no] 3)).heap.size)
    (hown : w6.ownsRow (p + 1) 3 1 (.slice (some ⟨g5, 0, none⟩) (W.blks.length + 1) cap5) (W.blks.length + 1) (i64s W.blks ++ [.int .i64 no])) :
    Vs14 w (w6.setCell ⟨p, 1, none⟩ (.slice (some ⟨g5, 0, none⟩) (W.blks.length + 1) cap5)) p q g B w4.heap.size tree fuel s ⟨s.E, .slice (some ⟨g5, 0, none⟩) (W.blks.length + 1) cap5, s.F, s.P⟩ L n W no lo hi way nd A5 n5 c5 A6 n6 c6 := by
  have hm0 := h0.mine_lt
  have hm3 := h3.mine_lt
  have hb5 : Below w4.heap.size w4 (w4.alloc (.cells #[.int .i64 nd.tree, .bool nd.leaf, .slice A5 n5 c5, .slice A6 n6 c6] 52)) := (Below.refl _ _).alloc (Nat.le_refl _) _
  obtain ⟨w5, hw5⟩ : ∃ w5, w5 = w4.alloc (.cells #[.int .i64 nd.tree, .bool nd.leaf, .slice A5 n5 c5, .slice A6 n6 c6] 52) := ⟨_, rfl⟩
  have hV : NodAt w5 w4.heap.size nd.tree nd.leaf (.slice A5 n5 c5) (.slice A6 n6 c6) := by rw [hw5]; exact NodAt.new w4 _ _ _ _
  rw [← hw5] at hb5 hgrow hat
  have hb6 : Below w5.heap.size w5 (w5.alloc (.cells #[.int .i64 no] 3)) := (Below.refl _ _).alloc (Nat.le_refl _) _
  have hS6 := ((h3.later hb4).later hb5).later hb6
  obtain ⟨hX1, hX2⟩ := hS6.addBlk (no := no) hgrow hat hown
  have hM5 := (Mov14.of_below s hb6).trans hX2
  have hM4 := (Mov14.of_below s hb5).trans hM5
  have hMs := (Mov14.of_below s hb4).trans hM4
  have far : ∀ {A : Option Addr}, Newer w3.heap.size A → Far14 s p A := fun h ad e hm => by have := h ad e; have := (hm3 _ hm).2; omega
  have far2 : ∀ {A : Option Addr}, Newer w3.heap.size A → (∀ ad, A = some ad → ad.block < w4.heap.size) → Far14 ⟨s.E, .slice (some ⟨g5, 0, none⟩) (W.blks.length + 1) cap5, s.F, s.P⟩ p A := fun h hl => (far h).mov hM4 hl
  refine ⟨hX1, hM3.trans hMs, hV.mov (fun e => by have := (hm3 _ e).2; have := hb4.size; omega) hM5, hK.mov (fun e => by have := (hm0 _ e).2; omega) hMs, hN.mov (fun _ => far h5) (fun _ => far h6) hM4, fun e => far2 h5 fun ad ea => ?_, fun e => far2 h6 fun ad ea => ?_, hI.below (Mov14.below h3 hMs)⟩
  · obtain ⟨b, off, e2, hl, _⟩ := hN.keys.row.lit (by rw [i64s_length]; exact e)
    rw [ea] at e2; cases e2; exact hl
  · obtain ⟨b, off, e2, hl, _⟩ := hN.vals.row.lit (by rw [strV_length]; exact e)
    rw [ea] at e2; cases e2; exact hl

set_option maxRecDepth 100000 in
set_option maxHeartbeats 3200000 in
theorem visit_leaf14 {p q g B : Nat} {tree fuel : Int} {L : List UInt8} {n : Nat} {w : World} {s : Rows14} {W : Wlk14} {way : List Int} (no lo hi : Int) (h : St14 w p (.pointer (some ⟨q, 0, none⟩)) tree fuel s W way) (hIm : Im14 w p q g B L n) (hF : Fit14 fuel W way.length) (hw : way.length ≤ 16) (hr : rB13 lo hi = true) (hd : W.looked < fuel) (hx : lookE14 (nd14 L n tree) W.deep ⟨no, lo, hi, way, 0⟩ = 0) (hlf : (nd14 L n tree no).2.leaf = true) :
    Calls Tryz.prog 22 #[.pointer (some ⟨p, 0, none⟩), .int .i64 no, spnV lo hi] w fun e w' => ∃ b s' W' way', e = .returned (.bool b) ∧ St14 w' p (.pointer (some ⟨q, 0, none⟩)) tree fuel s' W' way' ∧ (b = true → way' = way) ∧ Step14 (nd14 L n tree) rt14 fuel W [⟨no, lo, hi, way, 0⟩] W' b ∧ Mov14 p s w s' w' := by
  obtain ⟨nd, hnd⟩ : ∃ nd, (nd14 L n tree no).2 = nd := ⟨_, rfl⟩
  obtain ⟨tr, lf, ks, vs⟩ := nd
  obtain rfl : lf = true := by rw [hnd] at hlf; exact hlf
  clear hlf
  have hb1 : Below w.heap.size w (w.alloc (.cells #[.int .i64 lo, .int .i64 hi] 66)) := (Below.refl _ _).alloc (Nat.le_refl _) _
  have h1 := h.later hb1
  have c3 := h1.c3
  have c7 := h1.c7
  have HB1 := Lib.hid hb1
  have hdd : decide (fuel ≤ W.looked) = false := by simpa using hd
  have HK : Hid (SpnAt (w.alloc (.cells #[.int .i64 lo, .int .i64 hi] 66)) w.heap.size lo hi) := SpnAt.new w lo hi
  have HH := Lib.hid (And.intro h (And.intro hIm (And.intro hF (And.intro hr hd))))
  have hlo0 := hF.low
  have hlo1 := hF.few
  have hpl := h.lt
  have HL : Hid (vs.length = ks.length ∧ ks.length ≤ 18) := by
    have h1 := (ndOk14 L n tree).len no (lookE14_zero hx).2.2.1
    have h2 := nd14_keys L n tree no
    rw [hnd] at h1 h2
    exact ⟨h1, h2⟩
  have EX : Hid (∀ w3, St14 w3 p (.pointer (some ⟨q, 0, none⟩)) tree fuel s W.see way → Im14 w3 p q g B L n → Calls Tryz.prog 47 #[.pointer (some ⟨p, 0, none⟩), .int .i64 no, .agg #[.int .i64 lo, .int .i64 hi]] w3 fun e w' => ∃ A5 n5 c5 A6 n6 c6, e = .returned (.tuple #[.agg #[.int .i64 tr, .bool true, .slice A5 n5 c5, .slice A6 n6 c6], .nilIface]) ∧ Hid (Below w3.heap.size w3 w' ∧ NodIn w' ⟨tr, true, ks, vs⟩ A5 n5 c5 A6 n6 c6 ∧ Newer w3.heap.size A5 ∧ Newer w3.heap.size A6)) := fun w3 h3 hI3 =>
    (examine_any14 h3 hI3.img hI3.len (by omega) no lo hi hr).mono fun e w' ⟨v, nd', A5, n5, c5, A6, n6, c6, e1, hE, hb, hz⟩ => by
      obtain ⟨z1, z2, z3, z4⟩ := hz hx
      rw [hnd] at z1 z2
      subst z1
      rcases hE with ⟨_, rfl⟩ | ⟨h0, _⟩
      · exact ⟨A5, n5, c5, A6, n6, c6, e1, hb, z2, z3, z4⟩
      · exact absurd hx h0
  have HND := Lib.hid hnd
  have hX := hx
  have HXX := Lib.hid (And.intro hx hx)
  have hbl : W.blks.length ≤ 1000 := by have := hF.blks; omega
  have HHS := Lib.hid h
  clear h hb1 h1 hd hF hIm hr hx hX hnd
  go_enter Tryz.func22, Tryz.ntmps22
  go_wp2
  go_quiet (fail)
  obtain ⟨w2, hw2⟩ : ∃ w2, ((w.alloc (.cells #[.int .i64 lo, .int .i64 hi] 66)).drewN nq) = w2 := ⟨_, rfl⟩
  have hb2 : Below w.heap.size w w2 := by rw [← hw2]; exact below_drewN HB1.out nq
  have hK2 : SpnAt w2 w.heap.size lo hi := by rw [← hw2]; exact HK.out.later (below_drewN (Below.refl _ _) nq)
  simp only [hw2]
  clear hw2 HK HB1 c3 c7 hdd
  have h2 := HH.out.1.later hb2
  have c3 := h2.c3
  have f3 := h2.fz 3
  have hwi : IntKind.i64.wrap (W.looked + 1) = W.looked + 1 := IntWalk.i64_in _ (by omega)
  obtain ⟨hp3, hm3⟩ := h2.put 3 (W.looked + 1) (.inr rfl)
  have hp3 : St14 (w2.setCell ⟨p, 3, none⟩ (.int .i64 (W.looked + 1))) p (.pointer (some ⟨q, 0, none⟩)) tree fuel s W.see way := by simp at hp3; exact hp3
  have hM3 : Mov14 p s w s (w2.setCell ⟨p, 3, none⟩ (.int .i64 (W.looked + 1))) := (Mov14.of_below s hb2).trans hm3
  have hK3 : SpnAt (w2.setCell ⟨p, 3, none⟩ (.int .i64 (W.looked + 1))) w.heap.size lo hi := hK2.mov (fun e => by have := (HH.out.1.mine_lt _ e).2; omega) hm3
  have k0 := hK3.c0
  have k1 := hK3.c1
  have HP3 := Lib.hid (And.intro hp3 (And.intro hM3 (And.intro hK3 (HH.out.2.1.below (Mov14.below HH.out.1 hM3)))))
  clear hp3 hm3 hM3 hK3 h2 hK2 hb2
  have hs3 := HP3.out.1.blk
  go_upto_region 9 with (go_at_call 47; (with_reducible refine (EX.out _ HP3.out.1 HP3.out.2.2.2).mono ?_); rintro e w4 ⟨A5, n5, c5, A6, n6, c6, rfl, hG4⟩)
  obtain ⟨w3, hw3⟩ : ∃ w3, w3 = w2.setCell ⟨p, 3, none⟩ (.int .i64 (W.looked + 1)) := ⟨_, rfl⟩
  rw [← hw3] at HP3 hG4
  clear hw3 hs3 k0 k1 c3 f3 hwi
  obtain ⟨w5, hw5⟩ : ∃ w5, w5 = w4.alloc (.cells #[.int .i64 tr, .bool true, .slice A5 n5 c5, .slice A6 n6 c6] 52) := ⟨_, rfl⟩
  have hb5 : Below w4.heap.size w4 w5 := by rw [hw5]; exact (Below.refl _ _).alloc (Nat.le_refl _) _
  have hS5 := (HP3.out.1.later hG4.out.1).later hb5
  have hz5 : w5.heap.size = w4.heap.size + 1 := by rw [hw5]; simp
  have DM : Hid (∀ (w6 : World) (g5 cap5 : Nat), (w5.alloc (.cells #[.int .i64 no] 3)).grownBy w6 s.B.ownBlock → (s.B.ownBlock = some g5 ∨ g5 = (w5.alloc (.cells #[.int .i64 no] 3)).heap.size) → w6.ownsRow (p + 1) 3 1 (.slice (some ⟨g5, 0, none⟩) (W.blks.length + 1) cap5) (W.blks.length + 1) (i64s W.blks ++ [.int .i64 no]) →
      Vs14 w (w6.setCell ⟨p, 1, none⟩ (.slice (some ⟨g5, 0, none⟩) (W.blks.length + 1) cap5)) p q g B w4.heap.size tree fuel s ⟨s.E, .slice (some ⟨g5, 0, none⟩) (W.blks.length + 1) cap5, s.F, s.P⟩ L n W no lo hi way ⟨tr, true, ks, vs⟩ A5 n5 c5 A6 n6 c6) := fun w6 g5 cap5 h1 h2 h3 => by
    rw [hw5] at h1 h2
    exact Vs14.made HHS.out HP3.out.1 HP3.out.2.1 HP3.out.2.2.1 HP3.out.2.2.2 hG4.out.1 hG4.out.2.1 hG4.out.2.2.1 hG4.out.2.2.2 h1 h2 h3
  have HOW := Lib.hid (hS5.blks.alloc (.cells #[.int .i64 no] 3))
  have HLR : Hid (Row (w5.alloc (.cells #[.int .i64 no] 3)) (some ⟨w5.heap.size, 0, none⟩) [.int .i64 no]) := Row.of_block (t := 3) (fr := (0, 0)) (heap_alloc_new w5 _)
  have HP2 : Hid (∀ (w6 : World), (w5.alloc (.cells #[.int .i64 no] 3)).grownBy w6 s.B.ownBlock → w6.heap[p]? = w5.heap[p]?) := fun w6 hg => (hg.block p (by rw [World.size_alloc]; have := hS5.lt; omega) (fun e => by have := (hS5.blks.lt p e.symm).1; omega)).trans (Below.heap_alloc _ _ _ hS5.lt)
  have HB2 := Lib.hid hS5.blk
  have c1 := hS5.c1
  have hlt5 : p < w4.heap.size := (HP3.out.1.later hG4.out.1).lt
  obtain ⟨b4, hb4⟩ : ∃ b4, b4 = w4.heap.size := ⟨_, rfl⟩
  rw [← hb4] at DM
  have CO : Hid (∀ w6 s6, Vs14 w w6 p q g B b4 tree fuel s s6 L n W no lo hi way ⟨tr, true, ks, vs⟩ A5 n5 c5 A6 n6 c6 → Calls Tryz.prog 48 #[.pointer (some ⟨p, 0, none⟩), .int .i64 no, .agg #[.int .i64 tr, .bool true, .slice A5 n5 c5, .slice A6 n6 c6]] w6 fun e w' => (∃ v, e = .returned v) ∧ ∃ s', St14 w' p (.pointer (some ⟨q, 0, none⟩)) tree fuel s' (W.see.leaf ⟨no, lo, hi, way, 0⟩ ⟨tr, true, ks, vs⟩) way ∧ Mov14 p s6 w6 s' w') := fun w6 s6 hD => collect_any14 hD.st no hD.ndi HL.out.1 hD.f5 hD.f6 HL.out.2 (by have := HH.out.2.2.1.ents; show W.ents.length ≤ 1000000; omega) (by omega)
  clear hS5 hb5 hz5
  rw [hw5] at c1
  rw [hw5] at DM HOW HLR HP2 HB2
  rw [World.size_alloc] at HLR
  rw [hb4] at DM
  clear hw5
  go_wp2_with (first
    | (at_builtin; go_must (refine wpList_append_liesG _ rfl (.tmp 50) (.tmp 52) 26 rfl (p + 1) 3 1 (.int .i64 0) 8 Tryz.underlying26 info_i64 rfl (by omega) s.B W.blks.length (i64s W.blks) rfl HOW.out (by simp; omega) ⟨_, 0, none⟩ [.int .i64 no] 1 1 rfl rfl HLR.out (by simp [Value.oneCell']) (by omega) (by omega) (by omega) ?_); intro g5 cap5 w6 hown hgrow hat; have hD := DM.out w6 g5 cap5 hgrow.out hat.out hown.out; have hp5 := (HP2.out w6 hgrow.out).trans HB2.out; have c1' : w6.cell? ⟨p, 1, none⟩ = some s.B := (by rw [cell_of_row w6 p 1 _ _ _ hp5]; rfl); have f1' := frozen_of_row w6 p 1 _ _ hp5; have k0 := hD.spn.c0; have k1 := hD.spn.c1; have n0 := hD.own.c0; have n1 := hD.own.c1; have n2 := hD.own.c2; have n3 := hD.own.c3; rw [← hb4] at hD; have HD := Lib.hid hD; clear hD hp5 hown hgrow hat)
    | (go_at_call 48; (with_reducible refine (CO.out _ _ HD.out).mono ?_); rintro e w7 ⟨⟨v9, rfl⟩, s9, hst9, hm9⟩; have HX9 := Lib.hid (And.intro hst9 hm9); clear hst9 hm9))
  go_ret
  refine ⟨true, s9, W.see.leaf ⟨no, lo, hi, way, 0⟩ (nd14 L n tree no).2, way, rfl, ?_, fun _ => rfl, Step14.leaf (nd := nd14 L n tree) (rt := rt14) (v := ⟨no, lo, hi, way, 0⟩) (w := W) rfl HH.out.2.2.2.2 HXX.out.1 (by show (nd14 L n tree no).2.leaf = true; rw [HND.out]) (nd14_keys L n tree no), HD.out.mov.trans HX9.out.2⟩
  rw [HND.out]
  exact HX9.out.1

set_option maxRecDepth 100000 in
set_option maxHeartbeats 3200000 in
theorem visit_inner14 {p q g B : Nat} {tree fuel : Int} {L : List UInt8} {n : Nat} {w : World} {s : Rows14} {W : Wlk14} {way : List Int} (no lo hi : Int) (h : St14 w p (.pointer (some ⟨q, 0, none⟩)) tree fuel s W way) (hIm : Im14 w p q g B L n) (hF : Fit14 fuel W way.length) (hw : way.length ≤ 16) (hr : rB13 lo hi = true) (hd : W.looked < fuel) (hx : lookE14 (nd14 L n tree) W.deep ⟨no, lo, hi, way, 0⟩ = 0) (hlf : (nd14 L n tree no).2.leaf = false) {k : Nat} (hHV : VisC14 p q g B tree fuel L n k) (hwk : way.length + 1 + k = 16) :
    Calls Tryz.prog 22 #[.pointer (some ⟨p, 0, none⟩), .int .i64 no, spnV lo hi] w fun e w' => ∃ b s' W' way', e = .returned (.bool b) ∧ St14 w' p (.pointer (some ⟨q, 0, none⟩)) tree fuel s' W' way' ∧ (b = true → way' = way) ∧ Step14 (nd14 L n tree) rt14 fuel W [⟨no, lo, hi, way, 0⟩] W' b ∧ Mov14 p s w s' w' := by
  obtain ⟨nd, hnd⟩ : ∃ nd, (nd14 L n tree no).2 = nd := ⟨_, rfl⟩
  obtain ⟨tr, lf, ks, vs⟩ := nd
  obtain rfl : lf = false := by rw [hnd] at hlf; exact hlf
  clear hlf
  have hb1 : Below w.heap.size w (w.alloc (.cells #[.int .i64 lo, .int .i64 hi] 66)) := (Below.refl _ _).alloc (Nat.le_refl _) _
  have h1 := h.later hb1
  have c3 := h1.c3
  have c7 := h1.c7
  have HB1 := Lib.hid hb1
  have hdd : decide (fuel ≤ W.looked) = false := by simpa using hd
  have HK : Hid (SpnAt (w.alloc (.cells #[.int .i64 lo, .int .i64 hi] 66)) w.heap.size lo hi) := SpnAt.new w lo hi
  have HH := Lib.hid (And.intro h (And.intro hIm (And.intro hF (And.intro hr hd))))
  have hlo0 := hF.low
  have hlo1 := hF.few
  have hpl := h.lt
  have HL : Hid (vs.length = ks.length ∧ ks.length ≤ 18 ∧ fit13 lo hi ks = 0 ∧ (∀ x ∈ vs, x.length = 4) ∧ 0 < ks.length) := by
    have z := lookE14_zero hx
    have h1 := (ndOk14 L n tree).len no z.2.2.1
    have h2 := nd14_keys L n tree no
    have h3 := (ndOk14 L n tree).ord no z.2.2.1
    have h4 := z.2.2.2.1
    have h5 := nd14_inner z.2.2.1 (by show (nd14 L n tree no).2.leaf = false; rw [hnd])
    have h6 := (rightN_iff.1 (nd14_read z.2.2.1).2.1).2.2.2.2.2
    have h6 : (nd14 L n tree no).2.leaf = true ∨ 0 < (nd14 L n tree no).2.keys.length := h6
    have h4 : ins13 lo hi (nd14 L n tree no).2.keys = true := h4
    have h5 : ∀ v ∈ (nd14 L n tree no).2.vals, v.length = 4 := h5
    rw [hnd] at h1 h2 h3 h4 h5 h6
    refine ⟨h1, h2, fit13_ok hr h3 h4, h5, ?_⟩
    rcases h6 with h6 | h6
    · cases h6
    · exact h6
  have HVV := Lib.hid hHV
  have HWK := Lib.hid hwk
  have HFI : Hid (Fit14 fuel (W.see.inner ⟨no, lo, hi, way, 0⟩) way.length) := by
    obtain ⟨f1, f2, f3, f4, f5, f6⟩ := hF
    have e := Wlk14.inner_len W.see ⟨no, lo, hi, way, 0⟩
    refine ⟨?_, ?_, f3, ?_, ?_, ?_⟩
    · show 0 ≤ W.looked + 1; omega
    · show W.looked + 1 ≤ 1000; omega
    · show (W.ents.length : Int) ≤ 18 * (W.looked + 1); omega
    · rw [e]; show (W.blks.length : Int) + 1 ≤ W.looked + 1; omega
    · show (W.flts.length : Int) ≤ 19 * (W.looked + 1) + _; omega
  have EX : Hid (∀ w3, St14 w3 p (.pointer (some ⟨q, 0, none⟩)) tree fuel s W.see way → Im14 w3 p q g B L n → Calls Tryz.prog 47 #[.pointer (some ⟨p, 0, none⟩), .int .i64 no, .agg #[.int .i64 lo, .int .i64 hi]] w3 fun e w' => ∃ A5 n5 c5 A6 n6 c6, e = .returned (.tuple #[.agg #[.int .i64 tr, .bool false, .slice A5 n5 c5, .slice A6 n6 c6], .nilIface]) ∧ Hid (Below w3.heap.size w3 w' ∧ NodIn w' ⟨tr, false, ks, vs⟩ A5 n5 c5 A6 n6 c6 ∧ Newer w3.heap.size A5 ∧ Newer w3.heap.size A6)) := fun w3 h3 hI3 =>
    (examine_any14 h3 hI3.img hI3.len (by omega) no lo hi hr).mono fun e w' ⟨v, nd', A5, n5, c5, A6, n6, c6, e1, hE, hb, hz⟩ => by
      obtain ⟨z1, z2, z3, z4⟩ := hz hx
      rw [hnd] at z1 z2
      subst z1
      rcases hE with ⟨_, rfl⟩ | ⟨h0, _⟩
      · exact ⟨A5, n5, c5, A6, n6, c6, e1, hb, z2, z3, z4⟩
      · exact absurd hx h0
  have HND := Lib.hid hnd
  have hX := hx
  have HXX := Lib.hid (And.intro hx hx)
  have hbl : W.blks.length ≤ 1000 := by have := hF.blks; omega
  have HHS := Lib.hid h
  clear h hb1 h1 hd hF hIm hr hx hX hnd hHV hwk
  go_enter Tryz.func22, Tryz.ntmps22
  go_wp2
  go_quiet (fail)
  obtain ⟨w2, hw2⟩ : ∃ w2, ((w.alloc (.cells #[.int .i64 lo, .int .i64 hi] 66)).drewN nq) = w2 := ⟨_, rfl⟩
  have hb2 : Below w.heap.size w w2 := by rw [← hw2]; exact below_drewN HB1.out nq
  have hK2 : SpnAt w2 w.heap.size lo hi := by rw [← hw2]; exact HK.out.later (below_drewN (Below.refl _ _) nq)
  simp only [hw2]
  clear hw2 HK HB1 c3 c7 hdd
  have h2 := HH.out.1.later hb2
  have c3 := h2.c3
  have f3 := h2.fz 3
  have hwi : IntKind.i64.wrap (W.looked + 1) = W.looked + 1 := IntWalk.i64_in _ (by omega)
  obtain ⟨hp3, hm3⟩ := h2.put 3 (W.looked + 1) (.inr rfl)
  have hp3 : St14 (w2.setCell ⟨p, 3, none⟩ (.int .i64 (W.looked + 1))) p (.pointer (some ⟨q, 0, none⟩)) tree fuel s W.see way := by simp at hp3; exact hp3
  have hM3 : Mov14 p s w s (w2.setCell ⟨p, 3, none⟩ (.int .i64 (W.looked + 1))) := (Mov14.of_below s hb2).trans hm3
  have hK3 : SpnAt (w2.setCell ⟨p, 3, none⟩ (.int .i64 (W.looked + 1))) w.heap.size lo hi := hK2.mov (fun e => by have := (HH.out.1.mine_lt _ e).2; omega) hm3
  have k0 := hK3.c0
  have k1 := hK3.c1
  have HP3 := Lib.hid (And.intro hp3 (And.intro hM3 (And.intro hK3 (HH.out.2.1.below (Mov14.below HH.out.1 hM3)))))
  clear hp3 hm3 hM3 hK3 h2 hK2 hb2
  have hs3 := HP3.out.1.blk
  go_upto_region 9 with (go_at_call 47; (with_reducible refine (EX.out _ HP3.out.1 HP3.out.2.2.2).mono ?_); rintro e w4 ⟨A5, n5, c5, A6, n6, c6, rfl, hG4⟩)
  obtain ⟨w3, hw3⟩ : ∃ w3, w3 = w2.setCell ⟨p, 3, none⟩ (.int .i64 (W.looked + 1)) := ⟨_, rfl⟩
  rw [← hw3] at HP3 hG4
  clear hw3 hs3 k0 k1 c3 f3 hwi
  obtain ⟨w5, hw5⟩ : ∃ w5, w5 = w4.alloc (.cells #[.int .i64 tr, .bool false, .slice A5 n5 c5, .slice A6 n6 c6] 52) := ⟨_, rfl⟩
  have hb5 : Below w4.heap.size w4 w5 := by rw [hw5]; exact (Below.refl _ _).alloc (Nat.le_refl _) _
  have hS5 := (HP3.out.1.later hG4.out.1).later hb5
  have hz5 : w5.heap.size = w4.heap.size + 1 := by rw [hw5]; simp
  have DM : Hid (∀ (w6 : World) (g5 cap5 : Nat), (w5.alloc (.cells #[.int .i64 no] 3)).grownBy w6 s.B.ownBlock → (s.B.ownBlock = some g5 ∨ g5 = (w5.alloc (.cells #[.int .i64 no] 3)).heap.size) → w6.ownsRow (p + 1) 3 1 (.slice (some ⟨g5, 0, none⟩) (W.blks.length + 1) cap5) (W.blks.length + 1) (i64s W.blks ++ [.int .i64 no]) →
      Vs14 w (w6.setCell ⟨p, 1, none⟩ (.slice (some ⟨g5, 0, none⟩) (W.blks.length + 1) cap5)) p q g B w4.heap.size tree fuel s ⟨s.E, .slice (some ⟨g5, 0, none⟩) (W.blks.length + 1) cap5, s.F, s.P⟩ L n W no lo hi way ⟨tr, false, ks, vs⟩ A5 n5 c5 A6 n6 c6) := fun w6 g5 cap5 h1 h2 h3 => by
    rw [hw5] at h1 h2
    exact Vs14.made HHS.out HP3.out.1 HP3.out.2.1 HP3.out.2.2.1 HP3.out.2.2.2 hG4.out.1 hG4.out.2.1 hG4.out.2.2.1 hG4.out.2.2.2 h1 h2 h3
  have HOW := Lib.hid (hS5.blks.alloc (.cells #[.int .i64 no] 3))
  have HLR : Hid (Row (w5.alloc (.cells #[.int .i64 no] 3)) (some ⟨w5.heap.size, 0, none⟩) [.int .i64 no]) := Row.of_block (t := 3) (fr := (0, 0)) (heap_alloc_new w5 _)
  have HP2 : Hid (∀ (w6 : World), (w5.alloc (.cells #[.int .i64 no] 3)).grownBy w6 s.B.ownBlock → w6.heap[p]? = w5.heap[p]?) := fun w6 hg => (hg.block p (by rw [World.size_alloc]; have := hS5.lt; omega) (fun e => by have := (hS5.blks.lt p e.symm).1; omega)).trans (Below.heap_alloc _ _ _ hS5.lt)
  have HB2 := Lib.hid hS5.blk
  have c1 := hS5.c1
  have hlt5 : p < w4.heap.size := (HP3.out.1.later hG4.out.1).lt
  obtain ⟨b4, hb4⟩ : ∃ b4, b4 = w4.heap.size := ⟨_, rfl⟩
  rw [← hb4] at DM
  have DE : Hid (∀ w6 s6, Vs14 w w6 p q g B b4 tree fuel s s6 L n W no lo hi way ⟨tr, false, ks, vs⟩ A5 n5 c5 A6 n6 c6 → Calls Tryz.prog 49 #[.pointer (some ⟨p, 0, none⟩), .int .i64 no, .agg #[.int .i64 tr, .bool false, .slice A5 n5 c5, .slice A6 n6 c6], .agg #[.int .i64 lo, .int .i64 hi]] w6 fun e w' => ∃ b s' W' way', e = .returned (.bool b) ∧ St14 w' p (.pointer (some ⟨q, 0, none⟩)) tree fuel s' W' way' ∧ (b = true → way' = way) ∧ Step14 (nd14 L n tree) rt14 fuel (W.see.inner ⟨no, lo, hi, way, 0⟩) (kids14 rt14 ⟨no, lo, hi, way, 0⟩ ⟨tr, false, ks, vs⟩) W' b ∧ Mov14 p s6 w6 s' w') := fun w6 s6 hD =>
    descend_of14 HVV.out no lo hi HWK.out hD.st hD.im HFI.out HL.out.2.2.1 hD.ndi HL.out.1 HL.out.2.2.2.1 (hD.f5 HL.out.2.2.2.2) (hD.f6 (by rw [HL.out.1]; exact HL.out.2.2.2.2)) (ints_lt14 hD.ndi.keys HL.out.2.2.2.2) (far_lt14 hD.ndi.vals (by rw [HL.out.1]; exact HL.out.2.2.2.2)) HL.out.2.1
  clear hS5 hb5 hz5
  rw [hw5] at c1
  rw [hw5] at DM HOW HLR HP2 HB2
  rw [World.size_alloc] at HLR
  rw [hb4] at DM
  clear hw5
  go_wp2_with (first
    | (at_builtin; go_must (refine wpList_append_liesG _ rfl (.tmp 50) (.tmp 52) 26 rfl (p + 1) 3 1 (.int .i64 0) 8 Tryz.underlying26 info_i64 rfl (by omega) s.B W.blks.length (i64s W.blks) rfl HOW.out (by simp; omega) ⟨_, 0, none⟩ [.int .i64 no] 1 1 rfl rfl HLR.out (by simp [Value.oneCell']) (by omega) (by omega) (by omega) ?_); intro g5 cap5 w6 hown hgrow hat; have hD := DM.out w6 g5 cap5 hgrow.out hat.out hown.out; have hp5 := (HP2.out w6 hgrow.out).trans HB2.out; have c1' : w6.cell? ⟨p, 1, none⟩ = some s.B := (by rw [cell_of_row w6 p 1 _ _ _ hp5]; rfl); have f1' := frozen_of_row w6 p 1 _ _ hp5; have k0 := hD.spn.c0; have k1 := hD.spn.c1; have n0 := hD.own.c0; have n1 := hD.own.c1; have n2 := hD.own.c2; have n3 := hD.own.c3; rw [← hb4] at hD; have HD := Lib.hid hD; clear hD hp5 hown hgrow hat)
    | (go_at_call 49; (with_reducible refine (DE.out _ _ HD.out).mono ?_); rintro e w7 ⟨b, s9, W9, way9, rfl, hst9, hw9, hstep9, hm9⟩; have HX9 := Lib.hid (And.intro hst9 (And.intro hw9 (And.intro hstep9 hm9))); clear hst9 hw9 hstep9 hm9))
  go_ret
  refine ⟨b, s9, W9, way9, rfl, HX9.out.1, HX9.out.2.1, Step14.node (nd := nd14 L n tree) (rt := rt14) (v := ⟨no, lo, hi, way, 0⟩) (w := W) rfl HH.out.2.2.2.2 HXX.out.1 (by show (nd14 L n tree no).2.leaf = false; rw [HND.out]) (nd14_keys L n tree no) ?_, HD.out.mov.trans HX9.out.2.2.2⟩
  show Step14 _ _ _ _ (kids14 rt14 _ (nd14 L n tree no).2) _ _
  rw [HND.out]
  exact HX9.out.2.2.1

theorem visit_all14 {p q g B : Nat} {tree fuel : Int} {L : List UInt8} {n : Nat} : ∀ k, VisC14 p q g B tree fuel L n k := by
  intro k
  induction k with
  | zero =>
    intro w s W way no lo hi hk h hI hF hr
    by_cases hd : fuel ≤ W.looked
    · exact visit_dry14 (g := g) (B := B) no lo hi h hF (by omega) hd
    · have hx : lookE14 (nd14 L n tree) W.deep ⟨no, lo, hi, way, 0⟩ ≠ 0 := fun hz => by
        have := (lookE14_zero hz).2.1
        have : way.length + 1 ≤ 16 := this
        omega
      exact visit_bad14 no lo hi h hI hF (by omega) hr (by omega) hx
  | succ k ih =>
    intro w s W way no lo hi hk h hI hF hr
    by_cases hd : fuel ≤ W.looked
    · exact visit_dry14 (g := g) (B := B) no lo hi h hF (by omega) hd
    · by_cases hx : lookE14 (nd14 L n tree) W.deep ⟨no, lo, hi, way, 0⟩ = 0
      · cases hl : (nd14 L n tree no).2.leaf with
        | true => exact visit_leaf14 no lo hi h hI hF (by omega) hr (by omega) hx hl
        | false => exact visit_inner14 no lo hi h hI hF (by omega) hr (by omega) hx hl ih (by omega)
      · exact visit_bad14 no lo hi h hI hF (by omega) hr (by omega) hx

end Go.Proofs.YtmjmhoihmnbjkaaGreatDoor

/-
  Layer 14: Scan.
-/
namespace Go.Proofs.YtmjmhoihmnbjkaaGreatDoor
open Go.RowKit
set_option linter.unusedVariables false
set_option linter.unusedSimpArgs false

theorem Errs.of_own {w : World} {base n : Nat} {e : TypeId} {v : Value} {ls : List (List Node)} (h : w.ownsRow base e 1 v n (ls.map val)) : ∃ A c, v = .slice A n c ∧ Errs w A n c ls := by
  obtain ⟨A, c, rfl, h1, h2⟩ := ownsRow_form h
  refine ⟨A, c, rfl, by have := h.1; rw [List.length_map] at this; omega, h1, by simpa [maxLen] using h2, Row.of_own h⟩

/-- what a scan hands back, in memory -/
structure Wk14 (w : World) (R : Wlk14) (AE : Option Addr) (nE cE : Nat) (AB : Option Addr) (nB cB : Nat) (AF : Option Addr) (nF cF : Nat) : Prop where
  ents : Ens w AE nE cE R.ents
  blks : Ints w AB nB cB R.blks
  flts : ∃ fs, Errs w AF nF cF fs ∧ Flts14 w fs R.flts
theorem Wk14.below {w w' : World} {R : Wlk14} {AE : Option Addr} {nE cE : Nat} {AB : Option Addr} {nB cB : Nat} {AF : Option Addr} {nF cF : Nat} (h : Wk14 w R AE nE cE AB nB cB AF nF cF) (hb : Below w.heap.size w w') : Wk14 w' R AE nE cE AB nB cB AF nF cF := by
  obtain ⟨fs, h1, h2⟩ := h.flts
  exact ⟨h.ents.below hb, h.blks.below hb, fs, h1.below hb, h2.same (Keeps.of_below hb)⟩

def wkV (deep looked : Int) (AE : Option Addr) (nE cE : Nat) (AB : Option Addr) (nB cB : Nat) (AF : Option Addr) (nF cF : Nat) : Value := .agg #[.slice AE nE cE, .slice AB nB cB, .int .i64 deep, .int .i64 looked, .slice AF nF cF]

theorem St14.handed {w : World} {p : Nat} {im : Value} {tree fuel : Int} {s : Rows14} {W : Wlk14} {way : List Int} (h : St14 w p im tree fuel s W way) : ∃ AE cE AB cB AF cF, s.E = .slice AE W.ents.length cE ∧ s.B = .slice AB W.blks.length cB ∧ s.F = .slice AF W.flts.length cF ∧ Wk14 w W AE W.ents.length cE AB W.blks.length cB AF W.flts.length cF ∧ Newer (p + 1) AE ∧ Newer (p + 1) AB ∧ Newer (p + 1) AF := by
  obtain ⟨AE, cE, hE, h1⟩ := Ens.of_own h.ents
  obtain ⟨AB, cB, hB, h2⟩ := Ints.of_own h.blks
  obtain ⟨fs, hf, hF⟩ := h.flts
  obtain ⟨AF, cF, hFv, h3⟩ := Errs.of_own hf
  refine ⟨AE, cE, AB, cB, AF, cF, hE, hB, hFv, ⟨h1, h2, fs, h3, hF⟩, ?_, ?_, ?_⟩
  · have := h.ents; rw [hE] at this; exact Newer.of_own this
  · have := h.blks; rw [hB] at this; exact Newer.of_own this
  · rw [hFv] at hf; exact Newer.of_own hf

/-- the result's variable -/
def WkAt (w : World) (b : Nat) (v0 v1 v2 v3 v4 : Value) : Prop := w.heap[b]? = some (.cells #[v0, v1, v2, v3, v4] 29 (0, 0))
theorem WkAt.load {w : World} {b : Nat} {AE : Option Addr} {nE cE : Nat} {AB : Option Addr} {nB cB : Nat} {AF : Option Addr} {nF cF : Nat} {deep looked : Int} (h : WkAt w b (.slice AE nE cE) (.slice AB nB cB) (.int .i64 deep) (.int .i64 looked) (.slice AF nF cF)) : (loadVar 29 ⟨b, 0, none⟩).run Tryz.prog w = .ok (wkV deep looked AE nE cE AB nB cB AF nF cF) w := run_loadVar_row w b _ _ _ _ _ h Tryz.underlying29 rfl (by kernel_rfl)

theorem WkAt.set5 {w : World} {b : Nat} {v0 v1 v2 v3 v4 : Value} (h : WkAt w b v0 v1 v2 v3 v4) (a0 a1 a2 a3 a4 : Value) : WkAt (((((w.setCell ⟨b, 0, none⟩ a0).setCell ⟨b, 1, none⟩ a1).setCell ⟨b, 2, none⟩ a2).setCell ⟨b, 3, none⟩ a3).setCell ⟨b, 4, none⟩ a4) b a0 a1 a2 a3 a4 := by
  have h1 : Blk w b 29 [v0, v1, v2, v3, v4] := h
  exact ((((h1.set 0 a0).set 1 a1).set 2 a2).set 3 a3).set 4 a4
theorem five_keep (w : World) (b : Nat) (a0 a1 a2 a3 a4 : Value) (k : Nat) (hk : k ≠ b) : (((((w.setCell ⟨b, 0, none⟩ a0).setCell ⟨b, 1, none⟩ a1).setCell ⟨b, 2, none⟩ a2).setCell ⟨b, 3, none⟩ a3).setCell ⟨b, 4, none⟩ a4).heap[k]? = w.heap[k]? := by
  rw [heap_setCell_other _ _ k _ hk, heap_setCell_other _ _ k _ hk, heap_setCell_other _ _ k _ hk, heap_setCell_other _ _ k _ hk, heap_setCell_other _ _ k _ hk]
theorem Wk14.keep {w w' : World} {R : Wlk14} {AE : Option Addr} {nE cE : Nat} {AB : Option Addr} {nB cB : Nat} {AF : Option Addr} {nF cF : Nat} {b : Nat} {v0 v1 v2 v3 v4 : Value} (h : Wk14 w R AE nE cE AB nB cB AF nF cF) (hV : WkAt w b v0 v1 v2 v3 v4) (h1 : Newer (b + 1) AE) (h2 : Newer (b + 1) AB) (h3 : Newer (b + 1) AF) (hk : ∀ k, k ≠ b → w'.heap[k]? = w.heap[k]?) : Wk14 w' R AE nE cE AB nB cB AF nF cF := by
  obtain ⟨fs, hf, hF⟩ := h.flts
  refine ⟨h.ents.newer h1 fun k hk2 => hk k (by omega), h.blks.newer h2 fun k hk2 => hk k (by omega), fs, ⟨hf.len, hf.cap, hf.most, hf.row.newer h3 fun k hk2 => hk k (by omega)⟩, hF.same fun p c e => (hk p (fun e2 => ?_)).trans e⟩
  subst e2
  rw [show w.heap[p]? = _ from hV] at e
  injection e with e
  injection e with _ e3 _
  exact absurd e3 (by decide)

set_option maxRecDepth 100000 in
set_option maxHeartbeats 3200000 in
theorem Scan_any14 {w : World} {B q g n : Nat} {L : List UInt8} (hI : Img w B q g L) (hL : L.length = n * 256) (root tree fuel : Int) (hf : fuel ≤ 1000) :
    Calls Tryz.prog 8 #[.pointer (some ⟨q, 0, none⟩), .int .i64 root, .int .i64 tree, .int .i64 fuel] w fun e w' => ∃ R AE cE AB cB AF cF, e = .returned (wkV R.deep R.looked AE R.ents.length cE AB R.blks.length cB AF R.flts.length cF) ∧ Wk14 w' R AE R.ents.length cE AB R.blks.length cB AF R.flts.length cF ∧ Done14 (nd14 L n tree) rt14 fuel Wlk14.zero [Vis14.root root] R ∧ Below w.heap.size w w' ∧ Newer w.heap.size AE ∧ Newer w.heap.size AB ∧ Newer w.heap.size AF ∧ Fit14 fuel R 1 := by
  obtain ⟨w1, hw1⟩ : ∃ w1, w1 = (w.alloc (.cells #[.slice none 0 0, .slice none 0 0, .int .i64 0, .int .i64 0, .slice none 0 0] 29)).alloc (.cells #[.slice none 0 0, .slice none 0 0, .int .i64 0, .int .i64 0, .slice none 0 0, .pointer (some ⟨q, 0, none⟩), .int .i64 tree, .int .i64 fuel, .slice none 0 0] 63) := ⟨_, rfl⟩
  have hb0 : Below w.heap.size w (w.alloc (.cells #[.slice none 0 0, .slice none 0 0, .int .i64 0, .int .i64 0, .slice none 0 0] 29)) := (Below.refl _ _).alloc (Nat.le_refl _) _
  have hb1 : Below w.heap.size w w1 := by rw [hw1]; exact hb0.alloc (by simp) _
  have hS : St14 w1 (w.heap.size + 1) (.pointer (some ⟨q, 0, none⟩)) tree fuel ⟨.slice none 0 0, .slice none 0 0, .slice none 0 0, .slice none 0 0⟩ Wlk14.zero [] := by
    have := St14.new (w.alloc (.cells #[.slice none 0 0, .slice none 0 0, .int .i64 0, .int .i64 0, .slice none 0 0] 29)) (.pointer (some ⟨q, 0, none⟩)) tree fuel
    rw [World.size_alloc, ← hw1] at this
    exact this
  have hR : WkAt w1 w.heap.size (.slice none 0 0) (.slice none 0 0) (.int .i64 0) (.int .i64 0) (.slice none 0 0) := by
    rw [hw1]
    exact (Below.heap_alloc _ _ _ (by simp)).trans (heap_alloc_new w _)
  have hz : w1.heap.size = w.heap.size + 2 := by rw [hw1]; simp
  have HA := Lib.hid (All_any13 w1)
  have VI : Hid (∀ w2, Below w1.heap.size w1 w2 → Calls Tryz.prog 22 #[.pointer (some ⟨w.heap.size + 1, 0, none⟩), .int .i64 root, .agg #[.int .i64 0, .int .i64 281474976710656]] w2 fun e w' => ∃ b AE cE AB cB AF cF R, e = .returned (.bool b) ∧ (w'.cell? ⟨w.heap.size + 1, 0, none⟩ = some (.slice AE R.ents.length cE) ∧ w'.cell? ⟨w.heap.size + 1, 1, none⟩ = some (.slice AB R.blks.length cB) ∧ w'.cell? ⟨w.heap.size + 1, 2, none⟩ = some (.int .i64 R.deep) ∧ w'.cell? ⟨w.heap.size + 1, 3, none⟩ = some (.int .i64 R.looked) ∧ w'.cell? ⟨w.heap.size + 1, 4, none⟩ = some (.slice AF R.flts.length cF)) ∧
      Hid (Wk14 w' R AE R.ents.length cE AB R.blks.length cB AF R.flts.length cF ∧ Done14 (nd14 L n tree) rt14 fuel Wlk14.zero [Vis14.root root] R ∧ Below w.heap.size w w' ∧ (Newer (w.heap.size + 2) AE ∧ Newer (w.heap.size + 2) AB ∧ Newer (w.heap.size + 2) AF) ∧ Fit14 fuel R 1 ∧ WkAt w' w.heap.size (.slice none 0 0) (.slice none 0 0) (.int .i64 0) (.int .i64 0) (.slice none 0 0))) := fun w2 hb2 => by
    have hbb : Below w.heap.size w w2 := hb1.trans (hb2.mono (by omega))
    have hS2 := hS.later hb2
    refine (visit_all14 (q := q) (g := g) (B := B) 16 w2 _ Wlk14.zero [] root 0 281474976710656 rfl hS2 ⟨hI.below hbb hI.plt hI.glt, hL, by have := hI.plt; omega, by have := hI.glt; omega⟩ (Fit14.zero hf) (by decide)).mono ?_
    rintro e w3 ⟨b, s3, R, way3, rfl, hst, _, hstep, hmov⟩
    obtain ⟨AE, cE, AB, cB, AF, cF, e1, e2, e3, hWk, n1, n2, n3⟩ := hst.handed
    have c0 := hst.c0
    have c1 := hst.c1
    have c4 := hst.c4
    rw [e1] at c0
    rw [e2] at c1
    rw [e3] at c4
    have hbl := Mov14.below hS2 hmov
    refine ⟨b, AE, cE, AB, cB, AF, cF, R, rfl, ⟨c0, c1, hst.c2, hst.c3, c4⟩, hWk, hstep.done, hbb.trans (hbl.mono (by omega)), ⟨n1, n2, n3⟩, (Fit14.zero hf).step hstep (by simp), ?_⟩
    exact (hbl.block _ (Nat.lt_succ_self _)).trans ((hb2.block _ (by omega)).trans hR)
  clear hI hL hf hb0 hb1 hS hR hz
  subst hw1
  go_enter Tryz.func8, Tryz.ntmps8
  go_wp2_with (first
    | (go_at_call 23; (with_reducible refine (HA.out).mono ?_); rintro e w2 ⟨rfl, hb2⟩; have HB2 := Lib.hid hb2; clear hb2)
    | (go_at_call 22; (with_reducible refine (VI.out _ HB2.out).mono ?_); rintro e w3 ⟨b, AE, cE, AB, cB, AF, cF, R, rfl, ⟨c0, c1, c2, c3, c4⟩, HX⟩; have r0 : w3.cell? ⟨w.heap.size, 0, none⟩ = some (.slice none 0 0) := (by rw [cell_of_row w3 w.heap.size 0 _ _ _ HX.out.2.2.2.2.2]; rfl); have r1 : w3.cell? ⟨w.heap.size, 1, none⟩ = some (.slice none 0 0) := (by rw [cell_of_row w3 w.heap.size 1 _ _ _ HX.out.2.2.2.2.2]; rfl); have r2 : w3.cell? ⟨w.heap.size, 2, none⟩ = some (.int .i64 0) := (by rw [cell_of_row w3 w.heap.size 2 _ _ _ HX.out.2.2.2.2.2]; rfl); have r3 : w3.cell? ⟨w.heap.size, 3, none⟩ = some (.int .i64 0) := (by rw [cell_of_row w3 w.heap.size 3 _ _ _ HX.out.2.2.2.2.2]; rfl); have r4 : w3.cell? ⟨w.heap.size, 4, none⟩ = some (.slice none 0 0) := (by rw [cell_of_row w3 w.heap.size 4 _ _ _ HX.out.2.2.2.2.2]; rfl); have f0 := frozen_of_row w3 w.heap.size 0 _ _ HX.out.2.2.2.2.2; have f1 := frozen_of_row w3 w.heap.size 1 _ _ HX.out.2.2.2.2.2; have f2 := frozen_of_row w3 w.heap.size 2 _ _ HX.out.2.2.2.2.2; have f3 := frozen_of_row w3 w.heap.size 3 _ _ HX.out.2.2.2.2.2; have f4 := frozen_of_row w3 w.heap.size 4 _ _ HX.out.2.2.2.2.2))
  obtain ⟨hWk, hD, hb, ⟨n1, n2, n3⟩, hF, hR⟩ := HX.out
  have h5 := hR.set5 (.slice AE R.ents.length cE) (.slice AB R.blks.length cB) (.int .i64 R.deep) (.int .i64 R.looked) (.slice AF R.flts.length cF)
  refine bodyPost_ret (res1_13 Tryz.results8 _ _ rfl h5.load) rfl ?_
  exact ⟨R, AE, cE, AB, cB, AF, cF, rfl, hWk.keep hR (n1.mono (Nat.le_succ _)) (n2.mono (Nat.le_succ _)) (n3.mono (Nat.le_succ _)) (five_keep w3 w.heap.size _ _ _ _ _), hD, ((((hb.setCell (p := ⟨w.heap.size, 0, none⟩) (Nat.le_refl _) _).setCell (p := ⟨w.heap.size, 1, none⟩) (Nat.le_refl _) _).setCell (p := ⟨w.heap.size, 2, none⟩) (Nat.le_refl _) _).setCell (p := ⟨w.heap.size, 3, none⟩) (Nat.le_refl _) _).setCell (p := ⟨w.heap.size, 4, none⟩) (Nat.le_refl _) _, n1.mono (by omega), n2.mono (by omega), n3.mono (by omega), hF⟩

end Go.Proofs.YtmjmhoihmnbjkaaGreatDoor

/-
  Layer 14: the law's lives.
-/
namespace Go.Proofs.YtmjmhoihmnbjkaaGreatDoor
open Go.RowKit
set_option linter.unusedVariables false
set_option linter.unusedSimpArgs false

def lvZ14 : List UInt8 := List.replicate 512 0
def lvN14 : Nod := ⟨2, true, [], []⟩
def lvL14 : List UInt8 := wrL11 lvZ14 2 1 2 (encNod lvN14)
theorem lvZ14_len : lvZ14.length = 2 * 256 := List.length_replicate
theorem lv_written : wrE11 2 1 2 (encNod lvN14) = 0 ∧ nodE11 lvL14 2 1 2 = 0 ∧ nodN11 lvL14 2 1 2 = lvN14 := by
  obtain ⟨h1, h2, _⟩ := nod_written (L := lvZ14) (n := 2) (no := 1) (nd := lvN14) lvZ14_len (by decide) (by decide) (by decide)
  exact ⟨h1, h2 2 (.inr rfl)⟩
theorem lvL14_len : lvL14.length = 2 * 256 := wrL11_length lvZ14_len
theorem lv_done : Done14 (nd14 lvL14 2 2) rt14 9 Wlk14.zero [Vis14.root 1] ⟨[], [1], 1, 1, []⟩ := by
  obtain ⟨_, h1, h2⟩ := lv_written
  have h0 : nd14 lvL14 2 2 1 = (0, lvN14) := by show (nodE11 _ _ _ _, nodN11 _ _ _ _) = _; rw [h1, h2]
  have e0 : lookE14 (nd14 lvL14 2 2) 0 (Vis14.root 1) = 0 := by simp [lookE14, Vis14.root, h0, lvN14, ins13]
  have := Done14.leaf (nd := nd14 lvL14 2 2) (rt := rt14) (fuel := 9) Wlk14.zero (Vis14.root 1) [] ⟨[], [1], 1, 1, []⟩ rfl (by decide) e0 (by show (nd14 lvL14 2 2 1).2.leaf = true; rw [h0]; rfl)
  refine this ?_
  have e : Wlk14.zero.see.leaf (Vis14.root 1) (nd14 lvL14 2 2 (Vis14.root 1).no).2 = ⟨[], [1], 1, 1, []⟩ := by
    show Wlk14.leaf _ _ (nd14 lvL14 2 2 1).2 = _
    rw [h0]; rfl
  rw [e]
  exact .nil _

/-- a scan whose end is known -/
theorem Scan_is14 {w : World} {B q g n : Nat} {L : List UInt8} (hI : Img w B q g L) (hL : L.length = n * 256) (root tree fuel : Int) (hf : fuel ≤ 1000) {R : Wlk14} (hD : Done14 (nd14 L n tree) rt14 fuel Wlk14.zero [Vis14.root root] R) :
    Calls Tryz.prog 8 #[.pointer (some ⟨q, 0, none⟩), .int .i64 root, .int .i64 tree, .int .i64 fuel] w fun e w' => ∃ AE cE AB cB AF cF, e = .returned (wkV R.deep R.looked AE R.ents.length cE AB R.blks.length cB AF R.flts.length cF) ∧ Wk14 w' R AE R.ents.length cE AB R.blks.length cB AF R.flts.length cF ∧ Below w.heap.size w w' := by
  refine (Scan_any14 hI hL root tree fuel hf).mono ?_
  rintro e w' ⟨R', AE, cE, AB, cB, AF, cF, h1, h2, h3, h4, _⟩
  obtain rfl := Done14.one h3 hD
  exact ⟨AE, cE, AB, cB, AF, cF, h1, h2, h4⟩

/-- an image in a later world -/
structure Lv14 (w W : World) (p g : Nat) (L : List UInt8) : Prop where
  bel : Below w.heap.size w W
  img : Img W w.heap.size p g L
theorem Lv14.later {w W W' : World} {p g : Nat} {L : List UInt8} (h : Lv14 w W p g L) (hb : Below W.heap.size W W') : Lv14 w W' p g L := ⟨h.bel.trans (hb.mono h.bel.size), h.img.later hb⟩

set_option maxRecDepth 100000 in
set_option maxHeartbeats 1600000 in
theorem lives14_any (w : World) : Calls Tryz.prog 6 #[] w fun e w' => e = .returned (.bool true) ∧ Below w.heap.size w w' := by
  obtain ⟨i0, hi0, hz0, hz1, hz2⟩ := info_parts info_u8
  have OF : Hid (∀ W g0, Own8 W w.heap.size g0 lvZ14 → Below w.heap.size w W → Calls Tryz.prog 9 #[.slice (some ⟨g0, 0, none⟩) 512 512] W fun e w' => ∃ p g, e = .returned (.pointer (some ⟨p, 0, none⟩)) ∧ Lv14 w w' p g lvZ14) := fun W g0 hO hb => by
    refine (Of_any _ 512 512 lvZ14 W (hO.bytes (n := 512) List.length_replicate (by omega))).mono ?_
    rintro e w' ⟨p, g, h1, h2, h3⟩
    refine ⟨p, g, h1, hb.trans (h3.mono hb.size), ?_⟩
    rw [show whole 512 * 256 = 512 by decide, List.take_of_length_le (by rw [lvZ14_len]; decide)] at h2
    exact h2.down hb.size
  have PT : Hid (∀ W p g, Lv14 w W p g lvZ14 → Calls Tryz.prog 16 #[.agg #[.int .i64 2, .bool true, .slice none 0 0, .slice none 0 0]] W fun e w' => ∃ g2, e = .returned (.tuple #[.slice (some ⟨g2, 0, none⟩) 244 244, .int .i64 0]) ∧ Own8 w' W.heap.size g2 (encNod lvN14) ∧ Lv14 w w' p g lvZ14) := fun W p g h => by
    refine (NPut_good W lvN14 none 0 0 none 0 0 ⟨Ints.nil W, Strs.nil W, by simp [lvN14, i64b], by simp [lvN14], by simp [lvN14]⟩ (by decide)).mono ?_
    rintro e w' ⟨g2, h1, h2, h3⟩
    exact ⟨g2, h1, h2, h.later h3⟩
  have WT : Hid (∀ W p g g2, Lv14 w W p g lvZ14 → Own8 W 0 g2 (encNod lvN14) → Calls Tryz.prog 17 #[.pointer (some ⟨p, 0, none⟩), .int .i64 1, .int .i64 2, .slice (some ⟨g2, 0, none⟩) 244 244] W fun e w' => e = .returned .nilIface ∧ Lv14 w w' p g lvL14) := fun W p g g2 h hO => by
    refine (blockWrite_any (n := 2) 1 2 h.img lvZ14_len (hO.bytes (n := 244) (by decide +kernel) (by omega))).mono ?_
    rintro e w' ⟨v, rfl, hE, hI, hg⟩
    rw [lv_written.1] at hE
    rcases hE with ⟨_, rfl⟩ | ⟨h0, _⟩
    · exact ⟨rfl, h.bel.trans (below_grown hg h.img.bg h.bel.size), hI⟩
    · exact absurd rfl h0
  have SC : Hid (∀ W p g, Lv14 w W p g lvL14 → Calls Tryz.prog 8 #[.pointer (some ⟨p, 0, none⟩), .int .i64 1, .int .i64 2, .int .i64 9] W fun e w' => ∃ AE cE AB cB AF cF, e = .returned (.agg #[.slice AE 0 cE, .slice AB 1 cB, .int .i64 1, .int .i64 1, .slice AF 0 cF]) ∧ Below w.heap.size w w') := fun W p g h => by
    refine (Scan_is14 h.img lvL14_len 1 2 9 (by decide) lv_done).mono ?_
    rintro e w' ⟨AE, cE, AB, cB, AF, cF, h1, _, h3⟩
    exact ⟨AE, cE, AB, cB, AF, cF, h1, h.bel.trans (h3.mono h.bel.size)⟩
  go_enter Tryz.func6, Tryz.ntmps6
  go_wp2_with (first
    | (at_make; refine wpList_make_full w rfl (.const (.int .i64 512)) (.const (.int .i64 512)) _ rfl w.heap.size 5 i0 _ 1 Tryz.underlying22 hi0 hz0 hz1 .i64 .i64 _ _ 512 rfl rfl rfl rfl (by rw [hz2]; omega) (by simp only [maxLen]; omega) (Nat.le_refl _) ?_; intro w1 hown1 hg1; have hb1 := below_of_grown hg1 (by simp); have HO1 := Lib.hid (own_zeros hown1 (Nat.le_refl _)); clear hown1 hg1)
    | (go_at_call 9; (with_reducible refine (OF.out _ _ HO1.out hb1).mono ?_); rintro e w2 ⟨p, g, rfl, hN2⟩)
    | (go_at_call 16; (with_reducible refine (PT.out _ _ _ hN2).mono ?_); rintro e w3 ⟨g2, rfl, hO3, hN3⟩; have HO3 := Lib.hid (hO3.down (Nat.zero_le _)); clear hO3)
    | (go_at_call 17; (with_reducible refine (WT.out _ _ _ _ hN3 HO3.out).mono ?_); rintro e w5 ⟨rfl, hN5⟩)
    | (go_at_call 8; (with_reducible refine (SC.out _ _ _ hN5).mono ?_); rintro e w6 ⟨AE, cE, AB, cB, AF, cF, rfl, hb6⟩))
  go_ret
  exact ⟨rfl, hb6.alloc hb6.size _⟩

end Go.Proofs.YtmjmhoihmnbjkaaGreatDoor

/-
  The walk of WalkLoops.
-/
namespace Go.Proofs.YtmjmhoihmnbjkaaGreatDoor
open Go.RowKit
set_option linter.unusedVariables false
set_option linter.unusedSimpArgs false

theorem wlk_and7 (n : Int) : bits .and .i64 n 7 = n % 8 := by
  have hm : (BitVec.ofInt 64 7).toNat = 2 ^ 3 - 1 := by decide
  have key : (BitVec.ofInt 64 n &&& BitVec.ofInt 64 7).toNat = (n % ((2 ^ 64 : Nat) : Int)).toNat % 2 ^ 3 := by
    rw [BitVec.toNat_and, BitVec.toNat_ofInt, hm, Nat.and_two_pow_sub_one_eq_mod]
  show IntKind.i64.wrap ((BitVec.ofInt 64 n &&& BitVec.ofInt 64 7).toNat : Nat) = n % 8
  rw [key, IntKind.wrap_i64]
  omega
theorem wlk_and63 (n : Int) : bits .and .i64 n 63 = n % 64 := by
  have hm : (BitVec.ofInt 64 63).toNat = 2 ^ 6 - 1 := by decide
  have key : (BitVec.ofInt 64 n &&& BitVec.ofInt 64 63).toNat = (n % ((2 ^ 64 : Nat) : Int)).toNat % 2 ^ 6 := by
    rw [BitVec.toNat_and, BitVec.toNat_ofInt, hm, Nat.and_two_pow_sub_one_eq_mod]
  show IntKind.i64.wrap ((BitVec.ofInt 64 n &&& BitVec.ofInt 64 63).toNat : Nat) = n % 64
  rw [key, IntKind.wrap_i64]
  omega
theorem wlk_no (x : Int) : ∃ N : Nat, wrap64 (1 + bits .and .i64 x 7) = (N : Int) ∧ 1 ≤ N ∧ N ≤ 8 := by
  rw [wlk_and7]
  have h1 := Int.emod_nonneg x (show (8 : Int) ≠ 0 by decide)
  have h2 := Int.emod_lt_of_pos x (show (0 : Int) < 8 by decide)
  refine ⟨(1 + x % 8).toNat, ?_, by omega, by omega⟩
  unfold wrap64; omega
theorem wlk_tree (x : Int) : 1 ≤ wrap64 (1 + (wrap64 (x.tmod 5 + 5)).tmod 5) ∧ wrap64 (1 + (wrap64 (x.tmod 5 + 5)).tmod 5) ≤ 5 := by
  have h1 := Int.tmod_lt_of_pos x (show (0 : Int) < 5 by omega)
  have h2 := Int.lt_tmod_of_pos x (show (0 : Int) < 5 by omega)
  generalize x.tmod 5 = y at *
  have e : wrap64 (y + 5) = y + 5 := by unfold wrap64; omega
  rw [e]
  have h3 := Int.tmod_lt_of_pos (y + 5) (show (0 : Int) < 5 by omega)
  have h4 := Int.tmod_nonneg 5 (show 0 ≤ y + 5 by omega)
  generalize (y + 5).tmod 5 = z at *
  unfold wrap64
  omega
theorem info_str14 : (Tryz.prog.info? 9).map (fun i => (i.zero, i.size, i.bytes)) = some (some (.string ByteArray.empty), 1, 16) := by kernel_rfl

/-- the values so far -/
def lpV14 (N k : Nat) : List (List UInt8) := List.replicate k [UInt8.ofNat N, 0, 0, 0]
theorem lpV14_snoc (N k : Nat) : lpV14 N (k + 1) = lpV14 N k ++ [[UInt8.ofNat N, 0, 0, 0]] := List.replicate_succ'
theorem lpN14_bounds {l : List Int} {m : Nat} (hm : m ≤ 18) : ∀ k ∈ lpK14 l m, i64b k := by
  intro k hk
  have := upFrom_bounds (lpK14_up l m hm (-1) (by decide)) k hk
  simp only [maxK] at this
  simp only [i64b]; omega
theorem lpV14_bd (N k : Nat) : ∀ v ∈ lpV14 N k, v.length ≤ 9223372036854775807 := by
  intro v hv
  rw [(List.mem_replicate.1 hv).2]; simp

section
variable {w : World} {T : Int} {N m : Nat} {l : List Int}
theorem lp_put_good (hT : 1 ≤ T ∧ T ≤ 5) (hm : 0 < m ∧ m ≤ 18) (W : World) (Ak : Option Addr) (ck : Nat) (Av : Option Addr) (cv : Nat) (hS : MsN w W T false m Ak ck m Av cv (lpK14 l m) (lpV14 N m)) :
    Calls Tryz.prog 16 #[.agg #[.int .i64 T, .bool false, .slice Ak m ck, .slice Av m cv]] W fun e w' => ∃ g, e = .returned (.tuple #[.slice (some ⟨g, 0, none⟩) 244 244, .int .i64 0]) ∧ Own8 w' W.heap.size g (encNod (lpN14 T N l m)) ∧ MsN w w' T false m Ak ck m Av cv (lpK14 l m) (lpV14 N m) := by
  refine (NPut_good W ⟨T, false, lpK14 l m, lpV14 N m⟩ Ak m ck Av m cv (hS.nodin (by simp only [i64b]; omega) (lpN14_bounds hm.2) (lpV14_bd N m)) (lpN14_right hT hm)).mono ?_
  rintro e w' ⟨g, h1, h2, h3⟩
  exact ⟨g, h1, h2, hS.later h3⟩
theorem lp_put_bad (hT : 1 ≤ T ∧ T ≤ 5) (W : World) (Ak : Option Addr) (ck : Nat) (Av : Option Addr) (cv : Nat) (hS : MsN w W T false 0 Ak ck 0 Av cv (lpK14 l 0) (lpV14 N 0)) :
    Calls Tryz.prog 16 #[.agg #[.int .i64 T, .bool false, .slice Ak 0 ck, .slice Av 0 cv]] W fun e w' => e = .returned (.tuple #[.slice none 0 0, .int .i64 1]) ∧ MsN w w' T false 0 Ak ck 0 Av cv (lpK14 l 0) (lpV14 N 0) := by
  refine (NPut_bad W ⟨T, false, lpK14 l 0, lpV14 N 0⟩ Ak 0 ck Av 0 cv (hS.nodin (by simp only [i64b]; omega) (lpN14_bounds (by omega)) (lpV14_bd N 0)) (lpN14_none T N l)).mono ?_
  rintro e w' ⟨h1, h3⟩
  exact ⟨h1, hS.later h3⟩
end

/-- the node's variable, all below as it was -/
structure Lq14 (w W : World) (T : Int) (v2 v3 : Value) : Prop where
  nod : NodAt W w.heap.size T false v2 v3
  bel : Below w.heap.size w W
theorem Lq14.later {w W W' : World} {T : Int} {v2 v3 : Value} (h : Lq14 w W T v2 v3) (hb : Below W.heap.size W W') : Lq14 w W' T v2 v3 := ⟨h.nod.later hb, h.bel.trans (hb.mono h.bel.size)⟩
theorem Lq14.low {w W : World} {T : Int} {v2 v3 : Value} (h : Lq14 w W T v2 v3) : w.heap.size + 1 ≤ W.heap.size := block_lt h.nod
theorem Lq14.grown {w W W' : World} {T : Int} {v2 v3 : Value} {g : Nat} (h : Lq14 w W T v2 v3) (hg : W.grownBy W' (some g)) (hl : w.heap.size + 1 ≤ g) : Lq14 w W' T v2 v3 :=
  ⟨(hg.block _ (block_lt h.nod) (fun e => by injection e with e; omega)).trans h.nod, h.bel.trans (below_grown hg (by omega) h.bel.size)⟩
def lpZ14 : List UInt8 := List.replicate 2304 0
theorem lpZ14_len : lpZ14.length = 9 * 256 := List.length_replicate

section
variable {w : World} {T : Int} {N m : Nat} {l : List Int} {v2 v3 : Value}
theorem lp_of (W : World) (g0 : Nat) (hS : Lq14 w W T v2 v3) (hO : Own8 W 0 g0 lpZ14) : Calls Tryz.prog 9 #[.slice (some ⟨g0, 0, none⟩) 2304 2304] W fun e w' => ∃ p g, e = .returned (.pointer (some ⟨p, 0, none⟩)) ∧ Img w' (w.heap.size + 1) p g lpZ14 ∧ Lq14 w w' T v2 v3 ∧ Below W.heap.size W w' := by
  refine (Of_any _ 2304 2304 lpZ14 W (hO.bytes (n := 2304) List.length_replicate (by omega))).mono ?_
  rintro e w' ⟨p, g, h1, h2, h3⟩
  refine ⟨p, g, h1, ?_, hS.later h3, h3⟩
  rw [show whole 2304 * 256 = 2304 by decide, List.take_of_length_le (by rw [lpZ14_len]; decide)] at h2
  exact h2.down hS.low
theorem lp_write (hT : 1 ≤ T ∧ T ≤ 5) (hm : 0 < m ∧ m ≤ 18) (hN : 1 ≤ N ∧ N ≤ 8) (W : World) (p g g2 : Nat) (hS : Lq14 w W T v2 v3) (hI : Img W (w.heap.size + 1) p g lpZ14) (hO : Own8 W 0 g2 (encNod (lpN14 T N l m))) :
    Calls Tryz.prog 17 #[.pointer (some ⟨p, 0, none⟩), .int .i64 (N : Int), .int .i64 2, .slice (some ⟨g2, 0, none⟩) 244 244] W fun e w' => e = .returned .nilIface ∧ Img w' (w.heap.size + 1) p g (wrL11 lpZ14 9 (N : Int) 2 (encNod (lpN14 T N l m))) ∧ Lq14 w w' T v2 v3 := by
  refine (blockWrite_any (n := 9) (N : Int) 2 hI lpZ14_len (hO.bytes (n := 244) (encNod_length (lpN14_right hT hm)) (by omega))).mono ?_
  rintro e w' ⟨v, rfl, hE, hI2, hg⟩
  rw [(loops_done hT hm hN lpZ14_len).1] at hE
  rcases hE with ⟨_, rfl⟩ | ⟨h0, _⟩
  · exact ⟨rfl, hI2, hS.grown hg hI.bg⟩
  · exact absurd rfl h0
theorem lp_scan (hT : 1 ≤ T ∧ T ≤ 5) (hm : 0 < m ∧ m ≤ 18) (hN : 1 ≤ N ∧ N ≤ 8) (W : World) (p g : Nat) (hS : Lq14 w W T v2 v3) (hI : Img W (w.heap.size + 1) p g (wrL11 lpZ14 9 (N : Int) 2 (encNod (lpN14 T N l m)))) :
    Calls Tryz.prog 8 #[.pointer (some ⟨p, 0, none⟩), .int .i64 (N : Int), .int .i64 T, .int .i64 100] W fun e w' => ∃ AE cE AB cB AF cF, e = .returned (.agg #[.slice AE 0 cE, .slice AB 1 cB, .int .i64 0, .int .i64 (1 + (m : Int)), .slice AF m cF]) ∧ Hid (∃ fs, Errs w' AF m cF fs ∧ Flts14 w' fs (List.replicate m ([(N : Int), (N : Int)], 11))) ∧ Lq14 w w' T v2 v3 := by
  refine (Scan_is14 hI (wrL11_length lpZ14_len) (N : Int) T 100 (by decide) (loops_done hT hm hN lpZ14_len).2).mono ?_
  rintro e w' ⟨AE, cE, AB, cB, AF, cF, h1, h2, h3⟩
  obtain ⟨fs, h4, h5⟩ := h2.flts
  have e1 : (List.replicate m ([(N : Int), (N : Int)], (11 : Int))).length = m := List.length_replicate
  refine ⟨AE, cE, AB, cB, AF, cF, ?_, ⟨fs, ?_, h5⟩, hS.later h3⟩
  · rw [h1]; simp only [wkV, e1]; rfl
  · rw [e1] at h4; exact h4
end

theorem u8_four (N : Nat) (h : N ≤ 8) : u8s [UInt8.ofNat N, 0, 0, 0] = [.int .u8 (N : Int), .int .u8 0, .int .u8 0, .int .u8 0] := by
  have : (UInt8.ofNat N).toNat = N := by rw [UInt8.toNat_ofNat']; omega
  simp [u8s, this]
theorem conv_four {N : Nat} (h : N ≤ 8) (w7 : World) : (convert 22 9 (.slice (some ⟨w7.heap.size, 0, none⟩) 4 4)).run Tryz.prog (w7.alloc (.cells #[.int .u8 (N : Int), .int .u8 0, .int .u8 0, .int .u8 0] 5)) = .ok (.string ⟨([UInt8.ofNat N, 0, 0, 0] : List UInt8).toArray⟩) (w7.alloc (.cells #[.int .u8 (N : Int), .int .u8 0, .int .u8 0, .int .u8 0] 5)) := by
  have hb : Bytes8 (w7.alloc (.cells #[.int .u8 (N : Int), .int .u8 0, .int .u8 0, .int .u8 0] 5)) (some ⟨w7.heap.size, 0, none⟩) 4 4 [UInt8.ofNat N, 0, 0, 0] := by
    refine ⟨rfl, Nat.le_refl _, by omega, ?_⟩
    rw [u8_four N h]
    exact Row.of_block (t := 5) (fr := (0, 0)) (heap_alloc_new w7 _)
  exact run_str hb

set_option maxRecDepth 100000 in
set_option maxHeartbeats 3200000 in
theorem walkloops_walk (no0 : Int) (A : Option Addr) (n c : Nat) (l : List Int) (tree0 : Int) (w : World) (hb1 : -9223372036854775808 ≤ no0 ∧ no0 ≤ 9223372036854775807) (h : Ints w A n c l) (hbl : ∀ x ∈ l, -9223372036854775808 ≤ x ∧ x ≤ 9223372036854775807) (hb2 : -9223372036854775808 ≤ tree0 ∧ tree0 ≤ 9223372036854775807) (hg : ErrT w) :
    Calls Tryz.prog 5 #[.int .i64 no0, .slice A n c, .int .i64 tree0] w fun e w' => e = .returned (.bool true) ∧ Below w.heap.size w w' := by
  have HT := Lib.hid (wlk_tree tree0)
  obtain ⟨N, hN, hN1, hN8⟩ := wlk_no no0
  have HN := Lib.hid hN
  have HI := Lib.hid h
  have HG := Lib.hid hg
  have hlen := h.len
  have hle := h.le
  clear hb1 hb2 hN h hg hbl
  go_enter Tryz.func5, Tryz.ntmps5
  go_wp2_with (fail)
  generalize wrap64 (1 + (wrap64 (tree0.tmod 5 + 5)).tmod 5) = T at *
  have hN := HN.out
  generalize wrap64 (1 + bits .and .i64 no0 7) = N0 at *
  subst hN
  clear HN
  have M0 := Lib.hid (MsN.start w T false)
  go_loopw [8] (fun i wr => ∃ k : Nat, k ≤ n ∧ k ≤ 18 ∧ i = .int .i64 k ∧ Hid (∃ Ak ck Av cv, MsN w wr T false k Ak ck k Av cv (lpK14 l k) (lpV14 N k))) (fun i _ => n - (intOf i).toNat)
  case atStart => exact ⟨0, by omega, by omega, rfl, none, 0, none, 0, M0.out⟩
  case round =>
    clear M0
    obtain ⟨k, hk, hk18, rfl, Ak, ck, Av, cv, hS⟩ := hrel
    by_cases hlt : k < n ∧ k < 18
    · obtain ⟨hkn, hk8⟩ := hlt
      obtain ⟨b, off, hA, _, hc⟩ := (HI.out.below hS.bel).row.lit (by rw [i64s_length]; omega)
      have hck := hc k _ (i64s_at l k (by omega))
      have HKS : Hid (lpK14 l (k + 1) = lpK14 l k ++ [100 * (k : Int) + (l[k]'(by omega)) % 64]) := by
        have := lpK14_snoc l k
        rwa [List.getD_eq_getElem?_getD, List.getElem?_eq_getElem (by omega), Option.getD_some] at this
      have hy := wlk_and63 (l[k]'(by omega))
      have hy0 := Int.emod_nonneg (l[k]'(by omega)) (show (64 : Int) ≠ 0 by decide)
      have hy1 := Int.emod_lt_of_pos (l[k]'(by omega)) (show (0 : Int) < 64 by decide)
      have hy2 : (l[k]'(by omega)) % 64 ≤ 63 := by omega
      have n2 := hS.node.c2
      obtain ⟨v, hv⟩ : ∃ v, v = 100 * (k : Int) + (l[k]'(by omega)) % 64 := ⟨_, rfl⟩
      rw [← hv] at HKS
      have hba := (Below.refl wr.heap.size wr).alloc (Nat.le_refl _) (.cells #[.int .i64 v] 3)
      have HS : Hid (MsN w (wr.alloc (.cells #[.int .i64 v] 3)).drew T false k Ak ck k Av cv (lpK14 l k) (lpV14 N k)) := hS.later hba.drew
      have n2a := (hS.later hba).node.c2
      have hcka := (hba.cell (p := ⟨b, off + k, none⟩) (cell_lt hck)).trans hck
      have HLR : Hid (Row (wr.alloc (.cells #[.int .i64 v] 3)).drew (some ⟨wr.heap.size, 0, none⟩) [.int .i64 v]) := Row.of_block (t := 3) (fr := (0, 0)) (heap_alloc_new wr _)
      generalize (l[k]'(by omega)) % 64 = y at *
      generalize (l[k]'(by omega)) = x at *
      have hw2 : IntKind.i64.wrap (IntKind.i64.wrap (100 * (k : Int)) + y) = v := by
        rw [hv, show IntKind.i64.wrap (100 * (k : Int)) = 100 * (k : Int) from IntWalk.i64_in _ (by omega)]
        exact IntWalk.i64_in _ (by omega)
      clear hc hS hy1 hba hv
      subst hA
      go_wp2
      go_region_law (first
        | (refine step_append_rowG _ rfl (.tmp 36) (.tmp 45) 26 rfl (w.heap.size + 1) 3 1 (.int .i64 0) 8 Tryz.underlying26 info_i64 rfl (by omega) (.slice Ak k ck) k (i64s (lpK14 l k)) rfl HS.out.ok HS.out.low ⟨wr.heap.size, 0, none⟩ [.int .i64 v] 1 1 rfl rfl HLR.out (by simp [Value.oneCell']) (by omega) (by omega) ?_
           intro v6 w6 ho6 hg6
           obtain ⟨Ak', ck', rfl, hn6, hS6⟩ := HS.out.addKey ho6.out hg6.out
           have m2 := hn6.c2
           have g2 := Lib.frozen_of_heap hn6 2
           have HS6 := Lib.hid hS6
           clear hS6 hn6 ho6 hg6))
      all_goals
        generalize w6.setCell ⟨w.heap.size, 2, none⟩ (.slice Ak' (k + 1) ck') = w7 at *
        have cvs := conv_four hN8 w7
        have HS7 := Lib.hid (HS6.out.later ((Below.refl w7.heap.size w7).alloc (Nat.le_refl _) (.cells #[.int .u8 (N : Int), .int .u8 0, .int .u8 0, .int .u8 0] 5)))
        have n3 := HS6.out.node.c3
        clear m2 g2 n2 hck n2a hcka
      all_goals
        generalize hzs : (⟨([UInt8.ofNat N, 0, 0, 0] : List UInt8).toArray⟩ : ByteArray) = zs at *
        have HZS := Lib.hid hzs
        clear hzs
        have HLR2 : Hid (Row ((w7.alloc (.cells #[.int .u8 (N : Int), .int .u8 0, .int .u8 0, .int .u8 0] 5)).alloc (.cells #[.string zs] 9)) (some ⟨w7.heap.size + 1, 0, none⟩) [.string zs]) := by
          have := Row.of_block (t := 9) (fr := (0, 0)) (heap_alloc_new (w7.alloc (.cells #[.int .u8 (N : Int), .int .u8 0, .int .u8 0, .int .u8 0] 5)) (.cells ([.string zs] : List Value).toArray 9))
          rwa [World.size_alloc] at this
        have HS9 := Lib.hid (HS7.out.later ((Below.refl (w7.alloc (.cells #[.int .u8 (N : Int), .int .u8 0, .int .u8 0, .int .u8 0] 5)).heap.size _).alloc (Nat.le_refl _) (.cells #[.string zs] 9)))
        go_wp2_with (at_builtin; go_must (refine wpList_append_liesG _ rfl (.tmp 49) (.tmp 54) 50 rfl (w.heap.size + 1) 9 1 (.string ByteArray.empty) 16 Tryz.underlying50 info_str14 rfl (by omega) (.slice Av k cv) k (strV (lpV14 N k)) rfl HS9.out.ov HS9.out.low ⟨_, 0, none⟩ [.string zs] 1 1 rfl rfl HLR2.out (by simp [Value.oneCell']) (by omega) (by omega) (by omega) ?_); intro g8 cap8 w8 ho8 hg8 _; obtain ⟨Av', cv', e8, hn8, hS8⟩ := HS9.out.addVal (s := [UInt8.ofNat N, 0, 0, 0]) (by have := ho8.out; rw [← HZS.out] at this; exact this) hg8.out; injection e8 with a1 _ a3; subst a1; subst a3; have m3 := hn8.c3; have g3 := Lib.frozen_of_heap hn8 3; have HS8 := Lib.hid hS8; clear hS8 hn8 ho8 hg8)
      all_goals go_roundw
      all_goals try (simp only [intOf]; omega)
      all_goals exact ⟨k + 1, by omega, by omega, by go_num, Ak', ck', some ⟨g8, 0, none⟩, cap8, HKS.out.symm ▸ (lpV14_snoc N k).symm ▸ HS8.out⟩
    · have HS := Lib.hid hS
      have n2 := hS.node.c2
      obtain ⟨⟨o0, o1, o2, o3⟩, p0, p1, p2, p3⟩ := hS.node.cs
      have hdis : (n ≤ k ∧ ¬ (k : Int) < n) ∨ ((k : Int) < n ∧ ¬ (k : Int) < 18) := by omega
      clear hS
      have LV := Lib.hid (fun W (hb : Below w.heap.size w W) => (lives14_any W).mono fun e w' (h : e = .returned (.bool true) ∧ Below W.heap.size W w') => (⟨h.1, hb.trans (h.2.mono hb.size)⟩ : e = .returned (.bool true) ∧ Below w.heap.size w w'))
      rcases Nat.eq_zero_or_pos k with h0 | h0
      · subst h0
        have PB := Lib.hid (lp_put_bad (N := N) (l := l) HT.out wr Ak ck Av cv HS.out)
        clear hlt
        rcases hdis with ⟨h1, h2⟩ | ⟨h1, h2⟩
        · go_wp2_with (first
            | (go_at_call 16; (with_reducible refine (PB.out).mono ?_); rintro e w9 ⟨rfl, hS9⟩; have q2 := hS9.node.c2; have HB9 := Lib.hid hS9.bel; clear hS9)
            | (go_at_call 6; (with_reducible refine (LV.out _ HB9.out).mono ?_); rintro e w10 ⟨rfl, hb10⟩))
          go_ret
          exact ⟨rfl, hb10⟩
        · omega
      · have hkk : 0 < k ∧ k ≤ 18 := ⟨h0, hk18⟩
        obtain ⟨i0, hi0, hz0, hz1, hz2⟩ := info_parts info_u8
        have PG : Hid (Calls Tryz.prog 16 #[.agg #[.int .i64 T, .bool false, .slice Ak k ck, .slice Av k cv]] wr fun e w' => ∃ g, e = .returned (.tuple #[.slice (some ⟨g, 0, none⟩) 244 244, .int .i64 0]) ∧ Own8 w' 0 g (encNod (lpN14 T N l k)) ∧ Lq14 w w' T (.slice Ak k ck) (.slice Av k cv)) := (lp_put_good (N := N) (l := l) HT.out hkk wr Ak ck Av cv HS.out).mono fun e w' ⟨g, h1, h2, h3⟩ => ⟨g, h1, h2.down (Nat.zero_le _), h3.node, h3.bel⟩
        have OF := Lib.hid (fun W g0 hS hO => lp_of (w := w) (T := T) (v2 := .slice Ak k ck) (v3 := .slice Av k cv) W g0 hS hO)
        have WT := Lib.hid (fun W p g g2 hS hI hO => lp_write (w := w) (N := N) (l := l) (v2 := .slice Ak k ck) (v3 := .slice Av k cv) HT.out hkk ⟨hN1, hN8⟩ W p g g2 hS hI hO)
        have SC := Lib.hid (fun W p g hS hI => lp_scan (w := w) (N := N) (l := l) (v2 := .slice Ak k ck) (v3 := .slice Av k cv) HT.out hkk ⟨hN1, hN8⟩ W p g hS hI)
        have HDS := Lib.hid hdis
        clear hlt
        rcases hdis with ⟨h1, h2⟩ | ⟨h1, h2⟩
        all_goals
          clear HDS
          go_wp2_with (first
            | (go_at_call 16; (with_reducible refine (PG.out).mono ?_); rintro e w9 ⟨g9, rfl, hO9, hS9⟩; have HO9 := Lib.hid hO9; have HS9 := Lib.hid hS9; clear hO9 hS9)
            | (at_make; refine wpList_make_full w9 rfl (.const (.int .i64 2304)) (.const (.int .i64 2304)) _ rfl w9.heap.size 5 i0 _ 1 Tryz.underlying22 hi0 hz0 hz1 .i64 .i64 _ _ 2304 rfl rfl rfl rfl (by rw [hz2]; omega) (by simp only [maxLen]; omega) (Nat.le_refl _) ?_; intro w10 hown1 hg1; have hb10 := below_of_grown hg1 (by simp); have HO10 := Lib.hid ((own_zeros hown1 (Nat.le_refl _)).down (Nat.zero_le _)); have HS10 := Lib.hid (HS9.out.later hb10); have HP10 := Lib.hid (HO9.out.later hb10); clear hown1 hg1 hb10)
            | (go_at_call 9; (with_reducible refine (OF.out _ _ HS10.out HO10.out).mono ?_); rintro e w11 ⟨p, g, rfl, hI11, hS11, hb11⟩; have HI11 := Lib.hid hI11; have HS11 := Lib.hid hS11; have HP11 := Lib.hid (HP10.out.later hb11); clear hI11 hS11 hb11)
            | (go_at_call 17; (with_reducible refine (WT.out _ _ _ _ HS11.out HI11.out HP11.out).mono ?_); rintro e w12 ⟨rfl, hI12, hS12⟩; have HI12 := Lib.hid hI12; have HS12 := Lib.hid hS12; clear hI12 hS12)
            | (go_at_call 8; (with_reducible refine (SC.out _ _ _ HS12.out HI12.out).mono ?_); rintro e w13 ⟨AE, cE, AB, cB, AF, cF, rfl, HF13, hS13⟩; have hS14 := hS13.later ((Below.refl w13.heap.size w13).alloc (Nat.le_refl _) (.cells #[.slice AE 0 cE, .slice AB 1 cB, .int .i64 0, .int .i64 (1 + (k : Int)), .slice AF k cF] 29)); have r2 := hS14.nod.c2; have HS14 := Lib.hid hS14; clear hS14 hS13))
        all_goals
          obtain ⟨wv, hwv⟩ : ∃ wv, wv = w13.alloc (.cells #[.slice AE 0 cE, .slice AB 1 cB, .int .i64 0, .int .i64 (1 + (k : Int)), .slice AF k cF] 29) := ⟨_, rfl⟩
          have hV : WkAt wv w13.heap.size (.slice AE 0 cE) (.slice AB 1 cB) (.int .i64 0) (.int .i64 (1 + (k : Int))) (.slice AF k cF) := by rw [hwv]; exact heap_alloc_new w13 _
          have HFV : Hid (∃ fs, Errs wv AF k cF fs ∧ Flts14 wv fs (List.replicate k ([(N : Int), (N : Int)], 11))) := by
            obtain ⟨fs, h1, h2⟩ := HF13.out
            have hb : Below w13.heap.size w13 wv := by rw [hwv]; exact (Below.refl _ _).alloc (Nat.le_refl _) _
            exact ⟨fs, h1.below hb, h2.same (Keeps.of_below hb)⟩
          rw [← hwv] at HS14
          simp only [← hwv]
          have HV := Lib.hid hV
          have HBV := Lib.hid HS14.out.bel
          have hcf : k ≤ cF := by obtain ⟨fs, h1, _⟩ := HFV.out; exact h1.cap
          have hcm : cF ≤ 9223372036854775807 := by obtain ⟨fs, h1, _⟩ := HFV.out; exact h1.most
          clear hwv hV r2 HF13 HS14
        all_goals
          go_loopw [13] (fun i wx => ∃ j : Nat, j ≤ k ∧ i = .int .i64 j ∧ Hid (Below wv.heap.size wv wx)) (fun i _ => k - (intOf i).toNat)
          case atStart => exact ⟨0, by omega, rfl, Below.refl _ _⟩
          case round =>
            obtain ⟨j, hj, rfl, hbx⟩ := hrel
            have hV2 : WkAt wr w13.heap.size (.slice AE 0 cE) (.slice AB 1 cB) (.int .i64 0) (.int .i64 (1 + (k : Int))) (.slice AF k cF) := (hbx.out.block _ (block_lt HV.out)).trans HV.out
            have q4 : wr.cell? ⟨w13.heap.size, 4, none⟩ = some (.slice AF k cF) := by rw [cell_of_row wr w13.heap.size 4 _ _ _ hV2]; rfl
            by_cases hjk : j < k
            · obtain ⟨fs, hE, hF⟩ := HFV.out
              have hEl := hE.len
              obtain ⟨bF, oF, hAF, hlF, hcF2⟩ := hE.row.lit (by rw [List.length_map]; omega)
              have hjf : j < fs.length := by omega
              have hfj : wr.cell? ⟨bF, oF + j, none⟩ = some (val fs[j]) := (hbx.out.cell (p := ⟨bF, oF + j, none⟩) hlF).trans (hcF2 j _ (by simp [hjf]))
              obtain ⟨hG, hC⟩ := hF.at_ j hjf (by rw [List.length_replicate]; exact hjk)
              rw [List.getElem_replicate] at hC
              have hG2 := hG.below hbx.out
              have hE2 := HG.out.later (HBV.out.trans (hbx.out.mono HBV.out.size))
              have HBW := Lib.hid (HBV.out.trans (hbx.out.mono HBV.out.size))
              have HV2 := Lib.hid hV2
              generalize fs[j] = f at *
              clear hE hF hcF2 hG hV2 hjf hEl
              cases f with
              | nil => exact absurd rfl hC.ne
              | cons x f =>
                have BL := Lib.hid (Blocks_any hG2 (by rw [hC.len]; simp))
                have CO : Hid (∀ W, Below wr.heap.size wr W → Calls Tryz.prog 19 #[val (x :: f)] W fun e w' => e = .returned (.int .i64 11) ∧ Below W.heap.size W w') := fun W hb => by
                  have := Code_err (hG2.below hb) (hE2.later hb)
                  rwa [hC.code] at this
                rw [hC.blocks] at BL
                obtain ⟨vt, vu, hv⟩ : ∃ t u, val (x :: f) = .iface t u := by cases x <;> exact ⟨_, _, rfl⟩
                rw [hv] at BL CO hfj
                clear hC hG2 hE2 hv
                subst hAF
                go_wp2_with (first
                  | (go_at_call 18; (with_reducible refine (BL.out).mono ?_); rintro e w15 ⟨A15, n15, c15, rfl, hI15, hb15, _⟩; obtain rfl : 2 = n15 := hI15.len; obtain ⟨b15, o15, rfl, hl15, hc15⟩ := hI15.row.lit (by simp [i64s]); have e0 : w15.cell? ⟨b15, o15, none⟩ = some (.int .i64 (N : Int)) := (by simpa using hc15 0 _ rfl); have e1 : w15.cell? ⟨b15, o15 + 1, none⟩ = some (.int .i64 (N : Int)) := hc15 1 _ rfl; have q4' := (hb15.cell (p := ⟨w13.heap.size, 4, none⟩) (cell_lt q4)).trans q4; have hfj' := (hb15.cell (p := ⟨bF, oF + j, none⟩) (cell_lt hfj)).trans hfj; have hc2 := hI15.cap; have HB15 := Lib.hid hb15; clear hI15 hc15 hb15)
                  | (go_at_call 19; (with_reducible refine (CO.out _ HB15.out).mono ?_); rintro e w16 ⟨rfl, hb16⟩; have e0' := (hb16.cell (p := ⟨b15, o15, none⟩) (cell_lt e0)).trans e0; have e1' := (hb16.cell (p := ⟨b15, o15 + 1, none⟩) (cell_lt e1)).trans e1; have HB16 := Lib.hid hb16; clear hb16))
                go_roundw
                case rel => exact ⟨j + 1, by omega, by go_num, hbx.out.trans ((HB15.out.trans (HB16.out.mono HB15.out.size)).mono hbx.out.size)⟩
                case measure => simp only [intOf]; omega
            · obtain rfl : j = k := by omega
              have LW := Lib.hid (LV.out wr (HBV.out.trans (hbx.out.mono HBV.out.size)))
              go_wp2_with (go_at_call 6; (with_reducible refine (LW.out).mono ?_); rintro e w17 ⟨rfl, hb17⟩)
              go_ret
              exact ⟨rfl, hb17⟩

end Go.Proofs.YtmjmhoihmnbjkaaGreatDoor
