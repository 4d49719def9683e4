/-
  Joined: WlkJ, WlkK, WlkL, WlkLawC.
-/
import Derived.Test.YtmjmhoihmnbjkaaGreatJWlkC38
import Derived.Test.YtmjmhoihmnbjkaaGreatJWlkC28
import Derived.Test.YtmjmhoihmnbjkaaGreatJWlkC30
import Derived.Test.YtmjmhoihmnbjkaaGreatJWlkC36
import Derived.Test.YtmjmhoihmnbjkaaGreatJWlkC10
import Derived.Laws.Small
import Derived.Deep.RegionLaw
import Derived.Test.YtmjmhoihmnbjkaaGreatJWlkC15
import Derived.Test.YtmjmhoihmnbjkaaGreatJWlkC12
/-
  Layer 14: visit, at a leaf, at an inner node; visit for any node.
-/
namespace Go.Proofs.YtmjmhoihmnbjkaaGreat
open Go.RowKit
set_option linter.unusedVariables false
set_option linter.unusedSimpArgs false

/-- behind the append onto the blocks -/
structure Vs14 (w w6 : World) (p q g B b : Nat) (tree fuel : Int) (s s6 : Rows14) (L : List UInt8) (n : Nat) (W : Wlk14) (no lo hi : Int) (way : List Int) (nd : Nod) (A5 : Option Addr) (n5 c5 : Nat) (A6 : Option Addr) (n6 c6 : Nat) : Prop where
  st : St14 w6 p (.pointer (some ⟨q, 0, none⟩)) tree fuel s6 (W.see.inner ⟨no, lo, hi, way, 0⟩) way
  mov : Mov14 p s w s6 w6
  own : NodAt w6 b nd.tree nd.leaf (.slice A5 n5 c5) (.slice A6 n6 c6)
  spn : SpnAt w6 w.heap.size lo hi
  ndi : NodIn w6 nd A5 n5 c5 A6 n6 c6
  f5 : 0 < nd.keys.length → Far14 s6 p A5
  f6 : 0 < nd.vals.length → Far14 s6 p A6
  im : Im14 w6 p q g B L n
theorem ints_lt14 {w : World} {A : Option Addr} {n c : Nat} {l : List Int} (h : Ints w A n c l) (hp : 0 < l.length) : ∀ ad, A = some ad → ad.block < w.heap.size := fun ad e => by
  obtain ⟨b, off, e2, hl, _⟩ := h.row.lit (by rw [i64s_length]; exact hp)
  rw [e] at e2; cases e2; exact hl
theorem Vs14.made {w w3 w4 w6 : World} {p q g B : Nat} {tree fuel : Int} {s : Rows14} {L : List UInt8} {n : Nat} {W : Wlk14} {no lo hi : Int} {way : List Int} {nd : Nod} {A5 : Option Addr} {n5 c5 : Nat} {A6 : Option Addr} {n6 c6 : Nat} {g5 cap5 : Nat}
    (h0 : St14 w p (.pointer (some ⟨q, 0, none⟩)) tree fuel s W way) (h3 : St14 w3 p (.pointer (some ⟨q, 0, none⟩)) tree fuel s W.see way) (hM3 : Mov14 p s w s w3) (hK : SpnAt w3 w.heap.size lo hi) (hI : Im14 w3 p q g B L n) (hb4 : Below w3.heap.size w3 w4) (hN : NodIn w4 nd A5 n5 c5 A6 n6 c6) (h5 : Newer w3.heap.size A5) (h6 : Newer w3.heap.size A6)
    (hgrow : ((w4.alloc (.cells #[.int .i64 nd.tree, .bool nd.leaf, .slice A5 n5 c5, .slice A6 n6 c6] 36)).alloc (.cells #[.int .i64 no] 3)).grownBy w6 s.B.ownBlock)
    (hat : s.B.ownBlock = some g5 ∨ g5 = ((w4.alloc (.cells #[.int .i64 nd.tree, .bool nd.leaf, .slice A5 n5 c5, .slice A6 n6 c6] 36)).alloc (.cells #[.int .i64 no] 3)).heap.size)
    (hown : w6.ownsRow (p + 1) 3 1 (.slice (some ⟨g5, 0, none⟩) (W.blks.length + 1) cap5) (W.blks.length + 1) (i64s W.blks ++ [.int .i64 no])) :
    Vs14 w (w6.setCell ⟨p, 1, none⟩ (.slice (some ⟨g5, 0, none⟩) (W.blks.length + 1) cap5)) p q g B w4.heap.size tree fuel s ⟨s.E, .slice (some ⟨g5, 0, none⟩) (W.blks.length + 1) cap5, s.F, s.P⟩ L n W no lo hi way nd A5 n5 c5 A6 n6 c6 := by
  have hm0 := h0.mine_lt
  have hm3 := h3.mine_lt
  have hb5 : Below w4.heap.size w4 (w4.alloc (.cells #[.int .i64 nd.tree, .bool nd.leaf, .slice A5 n5 c5, .slice A6 n6 c6] 36)) := (Below.refl _ _).alloc (Nat.le_refl _) _
  obtain ⟨w5, hw5⟩ : ∃ w5, w5 = w4.alloc (.cells #[.int .i64 nd.tree, .bool nd.leaf, .slice A5 n5 c5, .slice A6 n6 c6] 36) := ⟨_, rfl⟩
  have hV : NodAt w5 w4.heap.size nd.tree nd.leaf (.slice A5 n5 c5) (.slice A6 n6 c6) := by rw [hw5]; exact NodAt.new w4 _ _ _ _
  rw [← hw5] at hb5 hgrow hat
  have hb6 : Below w5.heap.size w5 (w5.alloc (.cells #[.int .i64 no] 3)) := (Below.refl _ _).alloc (Nat.le_refl _) _
  have hS6 := ((h3.later hb4).later hb5).later hb6
  obtain ⟨hX1, hX2⟩ := hS6.addBlk (no := no) hgrow hat hown
  have hM5 := (Mov14.of_below s hb6).trans hX2
  have hM4 := (Mov14.of_below s hb5).trans hM5
  have hMs := (Mov14.of_below s hb4).trans hM4
  have far : ∀ {A : Option Addr}, Newer w3.heap.size A → Far14 s p A := fun h ad e hm => by have := h ad e; have := (hm3 _ hm).2; omega
  have far2 : ∀ {A : Option Addr}, Newer w3.heap.size A → (∀ ad, A = some ad → ad.block < w4.heap.size) → Far14 ⟨s.E, .slice (some ⟨g5, 0, none⟩) (W.blks.length + 1) cap5, s.F, s.P⟩ p A := fun h hl => (far h).mov hM4 hl
  refine ⟨hX1, hM3.trans hMs, hV.mov (fun e => by have := (hm3 _ e).2; have := hb4.size; omega) hM5, hK.mov (fun e => by have := (hm0 _ e).2; omega) hMs, hN.mov (fun _ => far h5) (fun _ => far h6) hM4, fun e => far2 h5 fun ad ea => ?_, fun e => far2 h6 fun ad ea => ?_, hI.below (Mov14.below h3 hMs)⟩
  · obtain ⟨b, off, e2, hl, _⟩ := hN.keys.row.lit (by rw [i64s_length]; exact e)
    rw [ea] at e2; cases e2; exact hl
  · obtain ⟨b, off, e2, hl, _⟩ := hN.vals.row.lit (by rw [strV_length]; exact e)
    rw [ea] at e2; cases e2; exact hl

set_option maxRecDepth 100000 in
set_option maxHeartbeats 3200000 in
theorem visit_leaf14 {p q g B : Nat} {tree fuel : Int} {L : List UInt8} {n : Nat} {w : World} {s : Rows14} {W : Wlk14} {way : List Int} (no lo hi : Int) (h : St14 w p (.pointer (some ⟨q, 0, none⟩)) tree fuel s W way) (hIm : Im14 w p q g B L n) (hF : Fit14 fuel W way.length) (hw : way.length ≤ 16) (hr : rB13 lo hi = true) (hd : W.looked < fuel) (hx : lookE14 (nd14 L n tree) W.deep ⟨no, lo, hi, way, 0⟩ = 0) (hlf : (nd14 L n tree no).2.leaf = true) :
    Calls Tryz.prog 13 #[.pointer (some ⟨p, 0, none⟩), .int .i64 no, spnV lo hi] w fun e w' => ∃ b s' W' way', e = .returned (.bool b) ∧ St14 w' p (.pointer (some ⟨q, 0, none⟩)) tree fuel s' W' way' ∧ (b = true → way' = way) ∧ Step14 (nd14 L n tree) rt14 fuel W [⟨no, lo, hi, way, 0⟩] W' b ∧ Mov14 p s w s' w' := by
  obtain ⟨nd, hnd⟩ : ∃ nd, (nd14 L n tree no).2 = nd := ⟨_, rfl⟩
  obtain ⟨tr, lf, ks, vs⟩ := nd
  obtain rfl : lf = true := by rw [hnd] at hlf; exact hlf
  clear hlf
  have hb1 : Below w.heap.size w (w.alloc (.cells #[.int .i64 lo, .int .i64 hi] 56)) := (Below.refl _ _).alloc (Nat.le_refl _) _
  have h1 := h.later hb1
  have c3 := h1.c3
  have c7 := h1.c7
  have HB1 := Lib.hid hb1
  have hdd : decide (fuel ≤ W.looked) = false := by simpa using hd
  have HK : Hid (SpnAt (w.alloc (.cells #[.int .i64 lo, .int .i64 hi] 56)) w.heap.size lo hi) := SpnAt.new w lo hi
  have HH := Lib.hid (And.intro h (And.intro hIm (And.intro hF (And.intro hr hd))))
  have hlo0 := hF.low
  have hlo1 := hF.few
  have hpl := h.lt
  have HL : Hid (vs.length = ks.length ∧ ks.length ≤ 18) := by
    have h1 := (ndOk14 L n tree).len no (lookE14_zero hx).2.2.1
    have h2 := nd14_keys L n tree no
    rw [hnd] at h1 h2
    exact ⟨h1, h2⟩
  have EX : Hid (∀ w3, St14 w3 p (.pointer (some ⟨q, 0, none⟩)) tree fuel s W.see way → Im14 w3 p q g B L n → Calls Tryz.prog 34 #[.pointer (some ⟨p, 0, none⟩), .int .i64 no, .agg #[.int .i64 lo, .int .i64 hi]] w3 fun e w' => ∃ A5 n5 c5 A6 n6 c6, e = .returned (.tuple #[.agg #[.int .i64 tr, .bool true, .slice A5 n5 c5, .slice A6 n6 c6], .nilIface]) ∧ Hid (Below w3.heap.size w3 w' ∧ NodIn w' ⟨tr, true, ks, vs⟩ A5 n5 c5 A6 n6 c6 ∧ Newer w3.heap.size A5 ∧ Newer w3.heap.size A6)) := fun w3 h3 hI3 =>
    (examine_any14 h3 hI3.img hI3.len (by omega) no lo hi hr).mono fun e w' ⟨v, nd', A5, n5, c5, A6, n6, c6, e1, hE, hb, hz⟩ => by
      obtain ⟨z1, z2, z3, z4⟩ := hz hx
      rw [hnd] at z1 z2
      subst z1
      rcases hE with ⟨_, rfl⟩ | ⟨h0, _⟩
      · exact ⟨A5, n5, c5, A6, n6, c6, e1, hb, z2, z3, z4⟩
      · exact absurd hx h0
  have HND := Lib.hid hnd
  have hX := hx
  have HXX := Lib.hid (And.intro hx hx)
  have hbl : W.blks.length ≤ 1000 := by have := hF.blks; omega
  have HHS := Lib.hid h
  clear h hb1 h1 hd hF hIm hr hx hX hnd
  go_enter Tryz.func13, Tryz.ntmps13
  go_wp2
  go_quiet (fail)
  obtain ⟨w2, hw2⟩ : ∃ w2, ((w.alloc (.cells #[.int .i64 lo, .int .i64 hi] 56)).drewN nq) = w2 := ⟨_, rfl⟩
  have hb2 : Below w.heap.size w w2 := by rw [← hw2]; exact below_drewN HB1.out nq
  have hK2 : SpnAt w2 w.heap.size lo hi := by rw [← hw2]; exact HK.out.later (below_drewN (Below.refl _ _) nq)
  simp only [hw2]
  clear hw2 HK HB1 c3 c7 hdd
  have h2 := HH.out.1.later hb2
  have c3 := h2.c3
  have f3 := h2.fz 3
  have hwi : IntKind.i64.wrap (W.looked + 1) = W.looked + 1 := IntWalk.i64_in _ (by omega)
  obtain ⟨hp3, hm3⟩ := h2.put 3 (W.looked + 1) (.inr rfl)
  have hp3 : St14 (w2.setCell ⟨p, 3, none⟩ (.int .i64 (W.looked + 1))) p (.pointer (some ⟨q, 0, none⟩)) tree fuel s W.see way := by simp at hp3; exact hp3
  have hM3 : Mov14 p s w s (w2.setCell ⟨p, 3, none⟩ (.int .i64 (W.looked + 1))) := (Mov14.of_below s hb2).trans hm3
  have hK3 : SpnAt (w2.setCell ⟨p, 3, none⟩ (.int .i64 (W.looked + 1))) w.heap.size lo hi := hK2.mov (fun e => by have := (HH.out.1.mine_lt _ e).2; omega) hm3
  have k0 := hK3.c0
  have k1 := hK3.c1
  have HP3 := Lib.hid (And.intro hp3 (And.intro hM3 (And.intro hK3 (HH.out.2.1.below (Mov14.below HH.out.1 hM3)))))
  clear hp3 hm3 hM3 hK3 h2 hK2 hb2
  have hs3 := HP3.out.1.blk
  go_upto_region 9 with (go_at_call 34; (with_reducible refine (EX.out _ HP3.out.1 HP3.out.2.2.2).mono ?_); rintro e w4 ⟨A5, n5, c5, A6, n6, c6, rfl, hG4⟩)
  obtain ⟨w3, hw3⟩ : ∃ w3, w3 = w2.setCell ⟨p, 3, none⟩ (.int .i64 (W.looked + 1)) := ⟨_, rfl⟩
  rw [← hw3] at HP3 hG4
  clear hw3 hs3 k0 k1 c3 f3 hwi
  obtain ⟨w5, hw5⟩ : ∃ w5, w5 = w4.alloc (.cells #[.int .i64 tr, .bool true, .slice A5 n5 c5, .slice A6 n6 c6] 36) := ⟨_, rfl⟩
  have hb5 : Below w4.heap.size w4 w5 := by rw [hw5]; exact (Below.refl _ _).alloc (Nat.le_refl _) _
  have hS5 := (HP3.out.1.later hG4.out.1).later hb5
  have hz5 : w5.heap.size = w4.heap.size + 1 := by rw [hw5]; simp
  have DM : Hid (∀ (w6 : World) (g5 cap5 : Nat), (w5.alloc (.cells #[.int .i64 no] 3)).grownBy w6 s.B.ownBlock → (s.B.ownBlock = some g5 ∨ g5 = (w5.alloc (.cells #[.int .i64 no] 3)).heap.size) → w6.ownsRow (p + 1) 3 1 (.slice (some ⟨g5, 0, none⟩) (W.blks.length + 1) cap5) (W.blks.length + 1) (i64s W.blks ++ [.int .i64 no]) →
      Vs14 w (w6.setCell ⟨p, 1, none⟩ (.slice (some ⟨g5, 0, none⟩) (W.blks.length + 1) cap5)) p q g B w4.heap.size tree fuel s ⟨s.E, .slice (some ⟨g5, 0, none⟩) (W.blks.length + 1) cap5, s.F, s.P⟩ L n W no lo hi way ⟨tr, true, ks, vs⟩ A5 n5 c5 A6 n6 c6) := fun w6 g5 cap5 h1 h2 h3 => by
    rw [hw5] at h1 h2
    exact Vs14.made HHS.out HP3.out.1 HP3.out.2.1 HP3.out.2.2.1 HP3.out.2.2.2 hG4.out.1 hG4.out.2.1 hG4.out.2.2.1 hG4.out.2.2.2 h1 h2 h3
  have HOW := Lib.hid (hS5.blks.alloc (.cells #[.int .i64 no] 3))
  have HLR : Hid (Row (w5.alloc (.cells #[.int .i64 no] 3)) (some ⟨w5.heap.size, 0, none⟩) [.int .i64 no]) := Row.of_block (t := 3) (fr := (0, 0)) (heap_alloc_new w5 _)
  have HP2 : Hid (∀ (w6 : World), (w5.alloc (.cells #[.int .i64 no] 3)).grownBy w6 s.B.ownBlock → w6.heap[p]? = w5.heap[p]?) := fun w6 hg => (hg.block p (by rw [World.size_alloc]; have := hS5.lt; omega) (fun e => by have := (hS5.blks.lt p e.symm).1; omega)).trans (Below.heap_alloc _ _ _ hS5.lt)
  have HB2 := Lib.hid hS5.blk
  have c1 := hS5.c1
  have hlt5 : p < w4.heap.size := (HP3.out.1.later hG4.out.1).lt
  obtain ⟨b4, hb4⟩ : ∃ b4, b4 = w4.heap.size := ⟨_, rfl⟩
  rw [← hb4] at DM
  have CO : Hid (∀ w6 s6, Vs14 w w6 p q g B b4 tree fuel s s6 L n W no lo hi way ⟨tr, true, ks, vs⟩ A5 n5 c5 A6 n6 c6 → Calls Tryz.prog 35 #[.pointer (some ⟨p, 0, none⟩), .int .i64 no, .agg #[.int .i64 tr, .bool true, .slice A5 n5 c5, .slice A6 n6 c6]] w6 fun e w' => (∃ v, e = .returned v) ∧ ∃ s', St14 w' p (.pointer (some ⟨q, 0, none⟩)) tree fuel s' (W.see.leaf ⟨no, lo, hi, way, 0⟩ ⟨tr, true, ks, vs⟩) way ∧ Mov14 p s6 w6 s' w') := fun w6 s6 hD => collect_any14 hD.st no hD.ndi HL.out.1 hD.f5 hD.f6 HL.out.2 (by have := HH.out.2.2.1.ents; show W.ents.length ≤ 1000000; omega) (by omega)
  clear hS5 hb5 hz5
  rw [hw5] at c1
  rw [hw5] at DM HOW HLR HP2 HB2
  rw [World.size_alloc] at HLR
  rw [hb4] at DM
  clear hw5
  go_wp2_with (first
    | (at_builtin; go_must (refine wpList_append_liesG _ rfl (.tmp 50) (.tmp 52) 27 rfl (p + 1) 3 1 (.int .i64 0) 8 Tryz.underlying27 info_i64 rfl (by omega) s.B W.blks.length (i64s W.blks) rfl HOW.out (by simp; omega) ⟨_, 0, none⟩ [.int .i64 no] 1 1 rfl rfl HLR.out (by simp [Value.oneCell']) (by omega) (by omega) (by omega) ?_); intro g5 cap5 w6 hown hgrow hat; have hD := DM.out w6 g5 cap5 hgrow.out hat.out hown.out; have hp5 := (HP2.out w6 hgrow.out).trans HB2.out; have c1' : w6.cell? ⟨p, 1, none⟩ = some s.B := (by rw [cell_of_row w6 p 1 _ _ _ hp5]; rfl); have f1' := frozen_of_row w6 p 1 _ _ hp5; have k0 := hD.spn.c0; have k1 := hD.spn.c1; have n0 := hD.own.c0; have n1 := hD.own.c1; have n2 := hD.own.c2; have n3 := hD.own.c3; rw [← hb4] at hD; have HD := Lib.hid hD; clear hD hp5 hown hgrow hat)
    | (go_at_call 35; (with_reducible refine (CO.out _ _ HD.out).mono ?_); rintro e w7 ⟨⟨v9, rfl⟩, s9, hst9, hm9⟩; have HX9 := Lib.hid (And.intro hst9 hm9); clear hst9 hm9))
  go_ret
  refine ⟨true, s9, W.see.leaf ⟨no, lo, hi, way, 0⟩ (nd14 L n tree no).2, way, rfl, ?_, fun _ => rfl, Step14.leaf (nd := nd14 L n tree) (rt := rt14) (v := ⟨no, lo, hi, way, 0⟩) (w := W) rfl HH.out.2.2.2.2 HXX.out.1 (by show (nd14 L n tree no).2.leaf = true; rw [HND.out]) (nd14_keys L n tree no), HD.out.mov.trans HX9.out.2⟩
  rw [HND.out]
  exact HX9.out.1

set_option maxRecDepth 100000 in
set_option maxHeartbeats 3200000 in
theorem visit_inner14 {p q g B : Nat} {tree fuel : Int} {L : List UInt8} {n : Nat} {w : World} {s : Rows14} {W : Wlk14} {way : List Int} (no lo hi : Int) (h : St14 w p (.pointer (some ⟨q, 0, none⟩)) tree fuel s W way) (hIm : Im14 w p q g B L n) (hF : Fit14 fuel W way.length) (hw : way.length ≤ 16) (hr : rB13 lo hi = true) (hd : W.looked < fuel) (hx : lookE14 (nd14 L n tree) W.deep ⟨no, lo, hi, way, 0⟩ = 0) (hlf : (nd14 L n tree no).2.leaf = false) {k : Nat} (hHV : VisC14 p q g B tree fuel L n k) (hwk : way.length + 1 + k = 16) :
    Calls Tryz.prog 13 #[.pointer (some ⟨p, 0, none⟩), .int .i64 no, spnV lo hi] w fun e w' => ∃ b s' W' way', e = .returned (.bool b) ∧ St14 w' p (.pointer (some ⟨q, 0, none⟩)) tree fuel s' W' way' ∧ (b = true → way' = way) ∧ Step14 (nd14 L n tree) rt14 fuel W [⟨no, lo, hi, way, 0⟩] W' b ∧ Mov14 p s w s' w' := by
  obtain ⟨nd, hnd⟩ : ∃ nd, (nd14 L n tree no).2 = nd := ⟨_, rfl⟩
  obtain ⟨tr, lf, ks, vs⟩ := nd
  obtain rfl : lf = false := by rw [hnd] at hlf; exact hlf
  clear hlf
  have hb1 : Below w.heap.size w (w.alloc (.cells #[.int .i64 lo, .int .i64 hi] 56)) := (Below.refl _ _).alloc (Nat.le_refl _) _
  have h1 := h.later hb1
  have c3 := h1.c3
  have c7 := h1.c7
  have HB1 := Lib.hid hb1
  have hdd : decide (fuel ≤ W.looked) = false := by simpa using hd
  have HK : Hid (SpnAt (w.alloc (.cells #[.int .i64 lo, .int .i64 hi] 56)) w.heap.size lo hi) := SpnAt.new w lo hi
  have HH := Lib.hid (And.intro h (And.intro hIm (And.intro hF (And.intro hr hd))))
  have hlo0 := hF.low
  have hlo1 := hF.few
  have hpl := h.lt
  have HL : Hid (vs.length = ks.length ∧ ks.length ≤ 18 ∧ fit13 lo hi ks = 0 ∧ (∀ x ∈ vs, x.length = 4) ∧ 0 < ks.length) := by
    have z := lookE14_zero hx
    have h1 := (ndOk14 L n tree).len no z.2.2.1
    have h2 := nd14_keys L n tree no
    have h3 := (ndOk14 L n tree).ord no z.2.2.1
    have h4 := z.2.2.2.1
    have h5 := nd14_inner z.2.2.1 (by show (nd14 L n tree no).2.leaf = false; rw [hnd])
    have h6 := (rightN_iff.1 (nd14_read z.2.2.1).2.1).2.2.2.2.2
    have h6 : (nd14 L n tree no).2.leaf = true ∨ 0 < (nd14 L n tree no).2.keys.length := h6
    have h4 : ins13 lo hi (nd14 L n tree no).2.keys = true := h4
    have h5 : ∀ v ∈ (nd14 L n tree no).2.vals, v.length = 4 := h5
    rw [hnd] at h1 h2 h3 h4 h5 h6
    refine ⟨h1, h2, fit13_ok hr h3 h4, h5, ?_⟩
    rcases h6 with h6 | h6
    · cases h6
    · exact h6
  have HVV := Lib.hid hHV
  have HWK := Lib.hid hwk
  have HFI : Hid (Fit14 fuel (W.see.inner ⟨no, lo, hi, way, 0⟩) way.length) := by
    obtain ⟨f1, f2, f3, f4, f5, f6⟩ := hF
    have e := Wlk14.inner_len W.see ⟨no, lo, hi, way, 0⟩
    refine ⟨?_, ?_, f3, ?_, ?_, ?_⟩
    · show 0 ≤ W.looked + 1; omega
    · show W.looked + 1 ≤ 1000; omega
    · show (W.ents.length : Int) ≤ 18 * (W.looked + 1); omega
    · rw [e]; show (W.blks.length : Int) + 1 ≤ W.looked + 1; omega
    · show (W.flts.length : Int) ≤ 19 * (W.looked + 1) + _; omega
  have EX : Hid (∀ w3, St14 w3 p (.pointer (some ⟨q, 0, none⟩)) tree fuel s W.see way → Im14 w3 p q g B L n → Calls Tryz.prog 34 #[.pointer (some ⟨p, 0, none⟩), .int .i64 no, .agg #[.int .i64 lo, .int .i64 hi]] w3 fun e w' => ∃ A5 n5 c5 A6 n6 c6, e = .returned (.tuple #[.agg #[.int .i64 tr, .bool false, .slice A5 n5 c5, .slice A6 n6 c6], .nilIface]) ∧ Hid (Below w3.heap.size w3 w' ∧ NodIn w' ⟨tr, false, ks, vs⟩ A5 n5 c5 A6 n6 c6 ∧ Newer w3.heap.size A5 ∧ Newer w3.heap.size A6)) := fun w3 h3 hI3 =>
    (examine_any14 h3 hI3.img hI3.len (by omega) no lo hi hr).mono fun e w' ⟨v, nd', A5, n5, c5, A6, n6, c6, e1, hE, hb, hz⟩ => by
      obtain ⟨z1, z2, z3, z4⟩ := hz hx
      rw [hnd] at z1 z2
      subst z1
      rcases hE with ⟨_, rfl⟩ | ⟨h0, _⟩
      · exact ⟨A5, n5, c5, A6, n6, c6, e1, hb, z2, z3, z4⟩
      · exact absurd hx h0
  have HND := Lib.hid hnd
  have hX := hx
  have HXX := Lib.hid (And.intro hx hx)
  have hbl : W.blks.length ≤ 1000 := by have := hF.blks; omega
  have HHS := Lib.hid h
  clear h hb1 h1 hd hF hIm hr hx hX hnd hHV hwk
  go_enter Tryz.func13, Tryz.ntmps13
  go_wp2
  go_quiet (fail)
  obtain ⟨w2, hw2⟩ : ∃ w2, ((w.alloc (.cells #[.int .i64 lo, .int .i64 hi] 56)).drewN nq) = w2 := ⟨_, rfl⟩
  have hb2 : Below w.heap.size w w2 := by rw [← hw2]; exact below_drewN HB1.out nq
  have hK2 : SpnAt w2 w.heap.size lo hi := by rw [← hw2]; exact HK.out.later (below_drewN (Below.refl _ _) nq)
  simp only [hw2]
  clear hw2 HK HB1 c3 c7 hdd
  have h2 := HH.out.1.later hb2
  have c3 := h2.c3
  have f3 := h2.fz 3
  have hwi : IntKind.i64.wrap (W.looked + 1) = W.looked + 1 := IntWalk.i64_in _ (by omega)
  obtain ⟨hp3, hm3⟩ := h2.put 3 (W.looked + 1) (.inr rfl)
  have hp3 : St14 (w2.setCell ⟨p, 3, none⟩ (.int .i64 (W.looked + 1))) p (.pointer (some ⟨q, 0, none⟩)) tree fuel s W.see way := by simp at hp3; exact hp3
  have hM3 : Mov14 p s w s (w2.setCell ⟨p, 3, none⟩ (.int .i64 (W.looked + 1))) := (Mov14.of_below s hb2).trans hm3
  have hK3 : SpnAt (w2.setCell ⟨p, 3, none⟩ (.int .i64 (W.looked + 1))) w.heap.size lo hi := hK2.mov (fun e => by have := (HH.out.1.mine_lt _ e).2; omega) hm3
  have k0 := hK3.c0
  have k1 := hK3.c1
  have HP3 := Lib.hid (And.intro hp3 (And.intro hM3 (And.intro hK3 (HH.out.2.1.below (Mov14.below HH.out.1 hM3)))))
  clear hp3 hm3 hM3 hK3 h2 hK2 hb2
  have hs3 := HP3.out.1.blk
  go_upto_region 9 with (go_at_call 34; (with_reducible refine (EX.out _ HP3.out.1 HP3.out.2.2.2).mono ?_); rintro e w4 ⟨A5, n5, c5, A6, n6, c6, rfl, hG4⟩)
  obtain ⟨w3, hw3⟩ : ∃ w3, w3 = w2.setCell ⟨p, 3, none⟩ (.int .i64 (W.looked + 1)) := ⟨_, rfl⟩
  rw [← hw3] at HP3 hG4
  clear hw3 hs3 k0 k1 c3 f3 hwi
  obtain ⟨w5, hw5⟩ : ∃ w5, w5 = w4.alloc (.cells #[.int .i64 tr, .bool false, .slice A5 n5 c5, .slice A6 n6 c6] 36) := ⟨_, rfl⟩
  have hb5 : Below w4.heap.size w4 w5 := by rw [hw5]; exact (Below.refl _ _).alloc (Nat.le_refl _) _
  have hS5 := (HP3.out.1.later hG4.out.1).later hb5
  have hz5 : w5.heap.size = w4.heap.size + 1 := by rw [hw5]; simp
  have DM : Hid (∀ (w6 : World) (g5 cap5 : Nat), (w5.alloc (.cells #[.int .i64 no] 3)).grownBy w6 s.B.ownBlock → (s.B.ownBlock = some g5 ∨ g5 = (w5.alloc (.cells #[.int .i64 no] 3)).heap.size) → w6.ownsRow (p + 1) 3 1 (.slice (some ⟨g5, 0, none⟩) (W.blks.length + 1) cap5) (W.blks.length + 1) (i64s W.blks ++ [.int .i64 no]) →
      Vs14 w (w6.setCell ⟨p, 1, none⟩ (.slice (some ⟨g5, 0, none⟩) (W.blks.length + 1) cap5)) p q g B w4.heap.size tree fuel s ⟨s.E, .slice (some ⟨g5, 0, none⟩) (W.blks.length + 1) cap5, s.F, s.P⟩ L n W no lo hi way ⟨tr, false, ks, vs⟩ A5 n5 c5 A6 n6 c6) := fun w6 g5 cap5 h1 h2 h3 => by
    rw [hw5] at h1 h2
    exact Vs14.made HHS.out HP3.out.1 HP3.out.2.1 HP3.out.2.2.1 HP3.out.2.2.2 hG4.out.1 hG4.out.2.1 hG4.out.2.2.1 hG4.out.2.2.2 h1 h2 h3
  have HOW := Lib.hid (hS5.blks.alloc (.cells #[.int .i64 no] 3))
  have HLR : Hid (Row (w5.alloc (.cells #[.int .i64 no] 3)) (some ⟨w5.heap.size, 0, none⟩) [.int .i64 no]) := Row.of_block (t := 3) (fr := (0, 0)) (heap_alloc_new w5 _)
  have HP2 : Hid (∀ (w6 : World), (w5.alloc (.cells #[.int .i64 no] 3)).grownBy w6 s.B.ownBlock → w6.heap[p]? = w5.heap[p]?) := fun w6 hg => (hg.block p (by rw [World.size_alloc]; have := hS5.lt; omega) (fun e => by have := (hS5.blks.lt p e.symm).1; omega)).trans (Below.heap_alloc _ _ _ hS5.lt)
  have HB2 := Lib.hid hS5.blk
  have c1 := hS5.c1
  have hlt5 : p < w4.heap.size := (HP3.out.1.later hG4.out.1).lt
  obtain ⟨b4, hb4⟩ : ∃ b4, b4 = w4.heap.size := ⟨_, rfl⟩
  rw [← hb4] at DM
  have DE : Hid (∀ w6 s6, Vs14 w w6 p q g B b4 tree fuel s s6 L n W no lo hi way ⟨tr, false, ks, vs⟩ A5 n5 c5 A6 n6 c6 → Calls Tryz.prog 36 #[.pointer (some ⟨p, 0, none⟩), .int .i64 no, .agg #[.int .i64 tr, .bool false, .slice A5 n5 c5, .slice A6 n6 c6], .agg #[.int .i64 lo, .int .i64 hi]] w6 fun e w' => ∃ b s' W' way', e = .returned (.bool b) ∧ St14 w' p (.pointer (some ⟨q, 0, none⟩)) tree fuel s' W' way' ∧ (b = true → way' = way) ∧ Step14 (nd14 L n tree) rt14 fuel (W.see.inner ⟨no, lo, hi, way, 0⟩) (kids14 rt14 ⟨no, lo, hi, way, 0⟩ ⟨tr, false, ks, vs⟩) W' b ∧ Mov14 p s6 w6 s' w') := fun w6 s6 hD =>
    descend_of14 HVV.out no lo hi HWK.out hD.st hD.im HFI.out HL.out.2.2.1 hD.ndi HL.out.1 HL.out.2.2.2.1 (hD.f5 HL.out.2.2.2.2) (hD.f6 (by rw [HL.out.1]; exact HL.out.2.2.2.2)) (ints_lt14 hD.ndi.keys HL.out.2.2.2.2) (far_lt14 hD.ndi.vals (by rw [HL.out.1]; exact HL.out.2.2.2.2)) HL.out.2.1
  clear hS5 hb5 hz5
  rw [hw5] at c1
  rw [hw5] at DM HOW HLR HP2 HB2
  rw [World.size_alloc] at HLR
  rw [hb4] at DM
  clear hw5
  go_wp2_with (first
    | (at_builtin; go_must (refine wpList_append_liesG _ rfl (.tmp 50) (.tmp 52) 27 rfl (p + 1) 3 1 (.int .i64 0) 8 Tryz.underlying27 info_i64 rfl (by omega) s.B W.blks.length (i64s W.blks) rfl HOW.out (by simp; omega) ⟨_, 0, none⟩ [.int .i64 no] 1 1 rfl rfl HLR.out (by simp [Value.oneCell']) (by omega) (by omega) (by omega) ?_); intro g5 cap5 w6 hown hgrow hat; have hD := DM.out w6 g5 cap5 hgrow.out hat.out hown.out; have hp5 := (HP2.out w6 hgrow.out).trans HB2.out; have c1' : w6.cell? ⟨p, 1, none⟩ = some s.B := (by rw [cell_of_row w6 p 1 _ _ _ hp5]; rfl); have f1' := frozen_of_row w6 p 1 _ _ hp5; have k0 := hD.spn.c0; have k1 := hD.spn.c1; have n0 := hD.own.c0; have n1 := hD.own.c1; have n2 := hD.own.c2; have n3 := hD.own.c3; rw [← hb4] at hD; have HD := Lib.hid hD; clear hD hp5 hown hgrow hat)
    | (go_at_call 36; (with_reducible refine (DE.out _ _ HD.out).mono ?_); rintro e w7 ⟨b, s9, W9, way9, rfl, hst9, hw9, hstep9, hm9⟩; have HX9 := Lib.hid (And.intro hst9 (And.intro hw9 (And.intro hstep9 hm9))); clear hst9 hw9 hstep9 hm9))
  go_ret
  refine ⟨b, s9, W9, way9, rfl, HX9.out.1, HX9.out.2.1, Step14.node (nd := nd14 L n tree) (rt := rt14) (v := ⟨no, lo, hi, way, 0⟩) (w := W) rfl HH.out.2.2.2.2 HXX.out.1 (by show (nd14 L n tree no).2.leaf = false; rw [HND.out]) (nd14_keys L n tree no) ?_, HD.out.mov.trans HX9.out.2.2.2⟩
  show Step14 _ _ _ _ (kids14 rt14 _ (nd14 L n tree no).2) _ _
  rw [HND.out]
  exact HX9.out.2.2.1

theorem visit_all14 {p q g B : Nat} {tree fuel : Int} {L : List UInt8} {n : Nat} : ∀ k, VisC14 p q g B tree fuel L n k := by
  intro k
  induction k with
  | zero =>
    intro w s W way no lo hi hk h hI hF hr
    by_cases hd : fuel ≤ W.looked
    · exact visit_dry14 (g := g) (B := B) no lo hi h hF (by omega) hd
    · have hx : lookE14 (nd14 L n tree) W.deep ⟨no, lo, hi, way, 0⟩ ≠ 0 := fun hz => by
        have := (lookE14_zero hz).2.1
        have : way.length + 1 ≤ 16 := this
        omega
      exact visit_bad14 no lo hi h hI hF (by omega) hr (by omega) hx
  | succ k ih =>
    intro w s W way no lo hi hk h hI hF hr
    by_cases hd : fuel ≤ W.looked
    · exact visit_dry14 (g := g) (B := B) no lo hi h hF (by omega) hd
    · by_cases hx : lookE14 (nd14 L n tree) W.deep ⟨no, lo, hi, way, 0⟩ = 0
      · cases hl : (nd14 L n tree no).2.leaf with
        | true => exact visit_leaf14 no lo hi h hI hF (by omega) hr (by omega) hx hl
        | false => exact visit_inner14 no lo hi h hI hF (by omega) hr (by omega) hx hl ih (by omega)
      · exact visit_bad14 no lo hi h hI hF (by omega) hr (by omega) hx

end Go.Proofs.YtmjmhoihmnbjkaaGreat

/-
  Layer 14: Scan.
-/
namespace Go.Proofs.YtmjmhoihmnbjkaaGreat
open Go.RowKit
set_option linter.unusedVariables false
set_option linter.unusedSimpArgs false

theorem Errs.of_own {w : World} {base n : Nat} {e : TypeId} {v : Value} {ls : List (List Node)} (h : w.ownsRow base e 1 v n (ls.map val)) : ∃ A c, v = .slice A n c ∧ Errs w A n c ls := by
  obtain ⟨A, c, rfl, h1, h2⟩ := ownsRow_form h
  refine ⟨A, c, rfl, by have := h.1; rw [List.length_map] at this; omega, h1, by simpa [maxLen] using h2, Row.of_own h⟩

/-- what a scan hands back, in memory -/
structure Wk14 (w : World) (R : Wlk14) (AE : Option Addr) (nE cE : Nat) (AB : Option Addr) (nB cB : Nat) (AF : Option Addr) (nF cF : Nat) : Prop where
  ents : Ens w AE nE cE R.ents
  blks : Ints w AB nB cB R.blks
  flts : ∃ fs, Errs w AF nF cF fs ∧ Flts14 w fs R.flts
theorem Wk14.below {w w' : World} {R : Wlk14} {AE : Option Addr} {nE cE : Nat} {AB : Option Addr} {nB cB : Nat} {AF : Option Addr} {nF cF : Nat} (h : Wk14 w R AE nE cE AB nB cB AF nF cF) (hb : Below w.heap.size w w') : Wk14 w' R AE nE cE AB nB cB AF nF cF := by
  obtain ⟨fs, h1, h2⟩ := h.flts
  exact ⟨h.ents.below hb, h.blks.below hb, fs, h1.below hb, h2.same (Keeps.of_below hb)⟩

def wkV (deep looked : Int) (AE : Option Addr) (nE cE : Nat) (AB : Option Addr) (nB cB : Nat) (AF : Option Addr) (nF cF : Nat) : Value := .agg #[.slice AE nE cE, .slice AB nB cB, .int .i64 deep, .int .i64 looked, .slice AF nF cF]

theorem St14.handed {w : World} {p : Nat} {im : Value} {tree fuel : Int} {s : Rows14} {W : Wlk14} {way : List Int} (h : St14 w p im tree fuel s W way) : ∃ AE cE AB cB AF cF, s.E = .slice AE W.ents.length cE ∧ s.B = .slice AB W.blks.length cB ∧ s.F = .slice AF W.flts.length cF ∧ Wk14 w W AE W.ents.length cE AB W.blks.length cB AF W.flts.length cF ∧ Newer (p + 1) AE ∧ Newer (p + 1) AB ∧ Newer (p + 1) AF := by
  obtain ⟨AE, cE, hE, h1⟩ := Ens.of_own h.ents
  obtain ⟨AB, cB, hB, h2⟩ := Ints.of_own h.blks
  obtain ⟨fs, hf, hF⟩ := h.flts
  obtain ⟨AF, cF, hFv, h3⟩ := Errs.of_own hf
  refine ⟨AE, cE, AB, cB, AF, cF, hE, hB, hFv, ⟨h1, h2, fs, h3, hF⟩, ?_, ?_, ?_⟩
  · have := h.ents; rw [hE] at this; exact Newer.of_own this
  · have := h.blks; rw [hB] at this; exact Newer.of_own this
  · rw [hFv] at hf; exact Newer.of_own hf

/-- the result's variable -/
def WkAt (w : World) (b : Nat) (v0 v1 v2 v3 v4 : Value) : Prop := w.heap[b]? = some (.cells #[v0, v1, v2, v3, v4] 30 (0, 0))
theorem WkAt.load {w : World} {b : Nat} {AE : Option Addr} {nE cE : Nat} {AB : Option Addr} {nB cB : Nat} {AF : Option Addr} {nF cF : Nat} {deep looked : Int} (h : WkAt w b (.slice AE nE cE) (.slice AB nB cB) (.int .i64 deep) (.int .i64 looked) (.slice AF nF cF)) : (loadVar 30 ⟨b, 0, none⟩).run Tryz.prog w = .ok (wkV deep looked AE nE cE AB nB cB AF nF cF) w := run_loadVar_row w b _ _ _ _ _ h Tryz.underlying30 rfl (by kernel_rfl)

theorem WkAt.set5 {w : World} {b : Nat} {v0 v1 v2 v3 v4 : Value} (h : WkAt w b v0 v1 v2 v3 v4) (a0 a1 a2 a3 a4 : Value) : WkAt (((((w.setCell ⟨b, 0, none⟩ a0).setCell ⟨b, 1, none⟩ a1).setCell ⟨b, 2, none⟩ a2).setCell ⟨b, 3, none⟩ a3).setCell ⟨b, 4, none⟩ a4) b a0 a1 a2 a3 a4 := by
  have h1 : Blk w b 30 [v0, v1, v2, v3, v4] := h
  exact ((((h1.set 0 a0).set 1 a1).set 2 a2).set 3 a3).set 4 a4
theorem five_keep (w : World) (b : Nat) (a0 a1 a2 a3 a4 : Value) (k : Nat) (hk : k ≠ b) : (((((w.setCell ⟨b, 0, none⟩ a0).setCell ⟨b, 1, none⟩ a1).setCell ⟨b, 2, none⟩ a2).setCell ⟨b, 3, none⟩ a3).setCell ⟨b, 4, none⟩ a4).heap[k]? = w.heap[k]? := by
  rw [heap_setCell_other _ _ k _ hk, heap_setCell_other _ _ k _ hk, heap_setCell_other _ _ k _ hk, heap_setCell_other _ _ k _ hk, heap_setCell_other _ _ k _ hk]
theorem Wk14.keep {w w' : World} {R : Wlk14} {AE : Option Addr} {nE cE : Nat} {AB : Option Addr} {nB cB : Nat} {AF : Option Addr} {nF cF : Nat} {b : Nat} {v0 v1 v2 v3 v4 : Value} (h : Wk14 w R AE nE cE AB nB cB AF nF cF) (hV : WkAt w b v0 v1 v2 v3 v4) (h1 : Newer (b + 1) AE) (h2 : Newer (b + 1) AB) (h3 : Newer (b + 1) AF) (hk : ∀ k, k ≠ b → w'.heap[k]? = w.heap[k]?) : Wk14 w' R AE nE cE AB nB cB AF nF cF := by
  obtain ⟨fs, hf, hF⟩ := h.flts
  refine ⟨h.ents.newer h1 fun k hk2 => hk k (by omega), h.blks.newer h2 fun k hk2 => hk k (by omega), fs, ⟨hf.len, hf.cap, hf.most, hf.row.newer h3 fun k hk2 => hk k (by omega)⟩, hF.same fun p c e => (hk p (fun e2 => ?_)).trans e⟩
  subst e2
  rw [show w.heap[p]? = _ from hV] at e
  injection e with e
  injection e with _ e3 _
  exact absurd e3 (by decide)

set_option maxRecDepth 100000 in
set_option maxHeartbeats 3200000 in
theorem Scan_any14 {w : World} {B q g n : Nat} {L : List UInt8} (hI : Img w B q g L) (hL : L.length = n * 256) (root tree fuel : Int) (hf : fuel ≤ 1000) :
    Calls Tryz.prog 6 #[.pointer (some ⟨q, 0, none⟩), .int .i64 root, .int .i64 tree, .int .i64 fuel] w fun e w' => ∃ R AE cE AB cB AF cF, e = .returned (wkV R.deep R.looked AE R.ents.length cE AB R.blks.length cB AF R.flts.length cF) ∧ Wk14 w' R AE R.ents.length cE AB R.blks.length cB AF R.flts.length cF ∧ Done14 (nd14 L n tree) rt14 fuel Wlk14.zero [Vis14.root root] R ∧ Below w.heap.size w w' ∧ Newer w.heap.size AE ∧ Newer w.heap.size AB ∧ Newer w.heap.size AF ∧ Fit14 fuel R 1 := by
  obtain ⟨w1, hw1⟩ : ∃ w1, w1 = (w.alloc (.cells #[.slice none 0 0, .slice none 0 0, .int .i64 0, .int .i64 0, .slice none 0 0] 30)).alloc (.cells #[.slice none 0 0, .slice none 0 0, .int .i64 0, .int .i64 0, .slice none 0 0, .pointer (some ⟨q, 0, none⟩), .int .i64 tree, .int .i64 fuel, .slice none 0 0] 53) := ⟨_, rfl⟩
  have hb0 : Below w.heap.size w (w.alloc (.cells #[.slice none 0 0, .slice none 0 0, .int .i64 0, .int .i64 0, .slice none 0 0] 30)) := (Below.refl _ _).alloc (Nat.le_refl _) _
  have hb1 : Below w.heap.size w w1 := by rw [hw1]; exact hb0.alloc (by simp) _
  have hS : St14 w1 (w.heap.size + 1) (.pointer (some ⟨q, 0, none⟩)) tree fuel ⟨.slice none 0 0, .slice none 0 0, .slice none 0 0, .slice none 0 0⟩ Wlk14.zero [] := by
    have := St14.new (w.alloc (.cells #[.slice none 0 0, .slice none 0 0, .int .i64 0, .int .i64 0, .slice none 0 0] 30)) (.pointer (some ⟨q, 0, none⟩)) tree fuel
    rw [World.size_alloc, ← hw1] at this
    exact this
  have hR : WkAt w1 w.heap.size (.slice none 0 0) (.slice none 0 0) (.int .i64 0) (.int .i64 0) (.slice none 0 0) := by
    rw [hw1]
    exact (Below.heap_alloc _ _ _ (by simp)).trans (heap_alloc_new w _)
  have hz : w1.heap.size = w.heap.size + 2 := by rw [hw1]; simp
  have HA := Lib.hid (All_any13 w1)
  have VI : Hid (∀ w2, Below w1.heap.size w1 w2 → Calls Tryz.prog 13 #[.pointer (some ⟨w.heap.size + 1, 0, none⟩), .int .i64 root, .agg #[.int .i64 0, .int .i64 281474976710656]] w2 fun e w' => ∃ b AE cE AB cB AF cF R, e = .returned (.bool b) ∧ (w'.cell? ⟨w.heap.size + 1, 0, none⟩ = some (.slice AE R.ents.length cE) ∧ w'.cell? ⟨w.heap.size + 1, 1, none⟩ = some (.slice AB R.blks.length cB) ∧ w'.cell? ⟨w.heap.size + 1, 2, none⟩ = some (.int .i64 R.deep) ∧ w'.cell? ⟨w.heap.size + 1, 3, none⟩ = some (.int .i64 R.looked) ∧ w'.cell? ⟨w.heap.size + 1, 4, none⟩ = some (.slice AF R.flts.length cF)) ∧
      Hid (Wk14 w' R AE R.ents.length cE AB R.blks.length cB AF R.flts.length cF ∧ Done14 (nd14 L n tree) rt14 fuel Wlk14.zero [Vis14.root root] R ∧ Below w.heap.size w w' ∧ (Newer (w.heap.size + 2) AE ∧ Newer (w.heap.size + 2) AB ∧ Newer (w.heap.size + 2) AF) ∧ Fit14 fuel R 1 ∧ WkAt w' w.heap.size (.slice none 0 0) (.slice none 0 0) (.int .i64 0) (.int .i64 0) (.slice none 0 0))) := fun w2 hb2 => by
    have hbb : Below w.heap.size w w2 := hb1.trans (hb2.mono (by omega))
    have hS2 := hS.later hb2
    refine (visit_all14 (q := q) (g := g) (B := B) 16 w2 _ Wlk14.zero [] root 0 281474976710656 rfl hS2 ⟨hI.below hbb hI.plt hI.glt, hL, by have := hI.plt; omega, by have := hI.glt; omega⟩ (Fit14.zero hf) (by decide)).mono ?_
    rintro e w3 ⟨b, s3, R, way3, rfl, hst, _, hstep, hmov⟩
    obtain ⟨AE, cE, AB, cB, AF, cF, e1, e2, e3, hWk, n1, n2, n3⟩ := hst.handed
    have c0 := hst.c0
    have c1 := hst.c1
    have c4 := hst.c4
    rw [e1] at c0
    rw [e2] at c1
    rw [e3] at c4
    have hbl := Mov14.below hS2 hmov
    refine ⟨b, AE, cE, AB, cB, AF, cF, R, rfl, ⟨c0, c1, hst.c2, hst.c3, c4⟩, hWk, hstep.done, hbb.trans (hbl.mono (by omega)), ⟨n1, n2, n3⟩, (Fit14.zero hf).step hstep (by simp), ?_⟩
    exact (hbl.block _ (Nat.lt_succ_self _)).trans ((hb2.block _ (by omega)).trans hR)
  clear hI hL hf hb0 hb1 hS hR hz
  subst hw1
  go_enter Tryz.func6, Tryz.ntmps6
  go_wp2_with (first
    | (go_at_call 14; (with_reducible refine (HA.out).mono ?_); rintro e w2 ⟨rfl, hb2⟩; have HB2 := Lib.hid hb2; clear hb2)
    | (go_at_call 13; (with_reducible refine (VI.out _ HB2.out).mono ?_); rintro e w3 ⟨b, AE, cE, AB, cB, AF, cF, R, rfl, ⟨c0, c1, c2, c3, c4⟩, HX⟩; have r0 : w3.cell? ⟨w.heap.size, 0, none⟩ = some (.slice none 0 0) := (by rw [cell_of_row w3 w.heap.size 0 _ _ _ HX.out.2.2.2.2.2]; rfl); have r1 : w3.cell? ⟨w.heap.size, 1, none⟩ = some (.slice none 0 0) := (by rw [cell_of_row w3 w.heap.size 1 _ _ _ HX.out.2.2.2.2.2]; rfl); have r2 : w3.cell? ⟨w.heap.size, 2, none⟩ = some (.int .i64 0) := (by rw [cell_of_row w3 w.heap.size 2 _ _ _ HX.out.2.2.2.2.2]; rfl); have r3 : w3.cell? ⟨w.heap.size, 3, none⟩ = some (.int .i64 0) := (by rw [cell_of_row w3 w.heap.size 3 _ _ _ HX.out.2.2.2.2.2]; rfl); have r4 : w3.cell? ⟨w.heap.size, 4, none⟩ = some (.slice none 0 0) := (by rw [cell_of_row w3 w.heap.size 4 _ _ _ HX.out.2.2.2.2.2]; rfl); have f0 := frozen_of_row w3 w.heap.size 0 _ _ HX.out.2.2.2.2.2; have f1 := frozen_of_row w3 w.heap.size 1 _ _ HX.out.2.2.2.2.2; have f2 := frozen_of_row w3 w.heap.size 2 _ _ HX.out.2.2.2.2.2; have f3 := frozen_of_row w3 w.heap.size 3 _ _ HX.out.2.2.2.2.2; have f4 := frozen_of_row w3 w.heap.size 4 _ _ HX.out.2.2.2.2.2))
  obtain ⟨hWk, hD, hb, ⟨n1, n2, n3⟩, hF, hR⟩ := HX.out
  have h5 := hR.set5 (.slice AE R.ents.length cE) (.slice AB R.blks.length cB) (.int .i64 R.deep) (.int .i64 R.looked) (.slice AF R.flts.length cF)
  refine bodyPost_ret (res1_13 Tryz.results6 _ _ rfl h5.load) rfl ?_
  exact ⟨R, AE, cE, AB, cB, AF, cF, rfl, hWk.keep hR (n1.mono (Nat.le_succ _)) (n2.mono (Nat.le_succ _)) (n3.mono (Nat.le_succ _)) (five_keep w3 w.heap.size _ _ _ _ _), hD, ((((hb.setCell (p := ⟨w.heap.size, 0, none⟩) (Nat.le_refl _) _).setCell (p := ⟨w.heap.size, 1, none⟩) (Nat.le_refl _) _).setCell (p := ⟨w.heap.size, 2, none⟩) (Nat.le_refl _) _).setCell (p := ⟨w.heap.size, 3, none⟩) (Nat.le_refl _) _).setCell (p := ⟨w.heap.size, 4, none⟩) (Nat.le_refl _) _, n1.mono (by omega), n2.mono (by omega), n3.mono (by omega), hF⟩

end Go.Proofs.YtmjmhoihmnbjkaaGreat

/-
  Layer 14: the law's lives.
-/
namespace Go.Proofs.YtmjmhoihmnbjkaaGreat
open Go.RowKit
set_option linter.unusedVariables false
set_option linter.unusedSimpArgs false

def lvZ14 : List UInt8 := List.replicate 512 0
def lvN14 : Nod := ⟨2, true, [], []⟩
def lvL14 : List UInt8 := wrL11 lvZ14 2 1 2 (encNod lvN14)
theorem lvZ14_len : lvZ14.length = 2 * 256 := List.length_replicate
theorem lv_written : wrE11 2 1 2 (encNod lvN14) = 0 ∧ nodE11 lvL14 2 1 2 = 0 ∧ nodN11 lvL14 2 1 2 = lvN14 := by
  obtain ⟨h1, h2, _⟩ := nod_written (L := lvZ14) (n := 2) (no := 1) (nd := lvN14) lvZ14_len (by decide) (by decide) (by decide)
  exact ⟨h1, h2 2 (.inr rfl)⟩
theorem lvL14_len : lvL14.length = 2 * 256 := wrL11_length lvZ14_len
theorem lv_done : Done14 (nd14 lvL14 2 2) rt14 9 Wlk14.zero [Vis14.root 1] ⟨[], [1], 1, 1, []⟩ := by
  obtain ⟨_, h1, h2⟩ := lv_written
  have h0 : nd14 lvL14 2 2 1 = (0, lvN14) := by show (nodE11 _ _ _ _, nodN11 _ _ _ _) = _; rw [h1, h2]
  have e0 : lookE14 (nd14 lvL14 2 2) 0 (Vis14.root 1) = 0 := by simp [lookE14, Vis14.root, h0, lvN14, ins13]
  have := Done14.leaf (nd := nd14 lvL14 2 2) (rt := rt14) (fuel := 9) Wlk14.zero (Vis14.root 1) [] ⟨[], [1], 1, 1, []⟩ rfl (by decide) e0 (by show (nd14 lvL14 2 2 1).2.leaf = true; rw [h0]; rfl)
  refine this ?_
  have e : Wlk14.zero.see.leaf (Vis14.root 1) (nd14 lvL14 2 2 (Vis14.root 1).no).2 = ⟨[], [1], 1, 1, []⟩ := by
    show Wlk14.leaf _ _ (nd14 lvL14 2 2 1).2 = _
    rw [h0]; rfl
  rw [e]
  exact .nil _

/-- a scan whose end is known -/
theorem Scan_is14 {w : World} {B q g n : Nat} {L : List UInt8} (hI : Img w B q g L) (hL : L.length = n * 256) (root tree fuel : Int) (hf : fuel ≤ 1000) {R : Wlk14} (hD : Done14 (nd14 L n tree) rt14 fuel Wlk14.zero [Vis14.root root] R) :
    Calls Tryz.prog 6 #[.pointer (some ⟨q, 0, none⟩), .int .i64 root, .int .i64 tree, .int .i64 fuel] w fun e w' => ∃ AE cE AB cB AF cF, e = .returned (wkV R.deep R.looked AE R.ents.length cE AB R.blks.length cB AF R.flts.length cF) ∧ Wk14 w' R AE R.ents.length cE AB R.blks.length cB AF R.flts.length cF ∧ Below w.heap.size w w' := by
  refine (Scan_any14 hI hL root tree fuel hf).mono ?_
  rintro e w' ⟨R', AE, cE, AB, cB, AF, cF, h1, h2, h3, h4, _⟩
  obtain rfl := Done14.one h3 hD
  exact ⟨AE, cE, AB, cB, AF, cF, h1, h2, h4⟩

/-- an image in a later world -/
structure Lv14 (w W : World) (p g : Nat) (L : List UInt8) : Prop where
  bel : Below w.heap.size w W
  img : Img W w.heap.size p g L
theorem Lv14.later {w W W' : World} {p g : Nat} {L : List UInt8} (h : Lv14 w W p g L) (hb : Below W.heap.size W W') : Lv14 w W' p g L := ⟨h.bel.trans (hb.mono h.bel.size), h.img.later hb⟩

set_option maxRecDepth 100000 in
set_option maxHeartbeats 1600000 in
theorem lives14_any (w : World) : Calls Tryz.prog 4 #[] w fun e w' => e = .returned (.bool true) ∧ Below w.heap.size w w' := by
  obtain ⟨i0, hi0, hz0, hz1, hz2⟩ := info_parts info_u8
  have OF : Hid (∀ W g0, Own8 W w.heap.size g0 lvZ14 → Below w.heap.size w W → Calls Tryz.prog 5 #[.slice (some ⟨g0, 0, none⟩) 512 512] W fun e w' => ∃ p g, e = .returned (.pointer (some ⟨p, 0, none⟩)) ∧ Lv14 w w' p g lvZ14) := fun W g0 hO hb => by
    refine (Of_any _ 512 512 lvZ14 W (hO.bytes (n := 512) List.length_replicate (by omega))).mono ?_
    rintro e w' ⟨p, g, h1, h2, h3⟩
    refine ⟨p, g, h1, hb.trans (h3.mono hb.size), ?_⟩
    rw [show whole 512 * 256 = 512 by decide, List.take_of_length_le (by rw [lvZ14_len]; decide)] at h2
    exact h2.down hb.size
  have PT : Hid (∀ W p g, Lv14 w W p g lvZ14 → Calls Tryz.prog 10 #[.agg #[.int .i64 2, .bool true, .slice none 0 0, .slice none 0 0]] W fun e w' => ∃ g2, e = .returned (.tuple #[.slice (some ⟨g2, 0, none⟩) 244 244, .int .i64 0]) ∧ Own8 w' W.heap.size g2 (encNod lvN14) ∧ Lv14 w w' p g lvZ14) := fun W p g h => by
    refine (NPut_good W lvN14 none 0 0 none 0 0 ⟨Ints.nil W, Strs.nil W, by simp [lvN14, i64b], by simp [lvN14], by simp [lvN14]⟩ (by decide)).mono ?_
    rintro e w' ⟨g2, h1, h2, h3⟩
    exact ⟨g2, h1, h2, h.later h3⟩
  have WT : Hid (∀ W p g g2, Lv14 w W p g lvZ14 → Own8 W 0 g2 (encNod lvN14) → Calls Tryz.prog 11 #[.pointer (some ⟨p, 0, none⟩), .int .i64 1, .int .i64 2, .slice (some ⟨g2, 0, none⟩) 244 244] W fun e w' => e = .returned .nilIface ∧ Lv14 w w' p g lvL14) := fun W p g g2 h hO => by
    refine (blockWrite_any (n := 2) 1 2 h.img lvZ14_len (hO.bytes (n := 244) (by decide +kernel) (by omega))).mono ?_
    rintro e w' ⟨v, rfl, hE, hI, hg⟩
    rw [lv_written.1] at hE
    rcases hE with ⟨_, rfl⟩ | ⟨h0, _⟩
    · exact ⟨rfl, h.bel.trans (below_grown hg h.img.bg h.bel.size), hI⟩
    · exact absurd rfl h0
  have SC : Hid (∀ W p g, Lv14 w W p g lvL14 → Calls Tryz.prog 6 #[.pointer (some ⟨p, 0, none⟩), .int .i64 1, .int .i64 2, .int .i64 9] W fun e w' => ∃ AE cE AB cB AF cF, e = .returned (.agg #[.slice AE 0 cE, .slice AB 1 cB, .int .i64 1, .int .i64 1, .slice AF 0 cF]) ∧ Below w.heap.size w w') := fun W p g h => by
    refine (Scan_is14 h.img lvL14_len 1 2 9 (by decide) lv_done).mono ?_
    rintro e w' ⟨AE, cE, AB, cB, AF, cF, h1, _, h3⟩
    exact ⟨AE, cE, AB, cB, AF, cF, h1, h.bel.trans (h3.mono h.bel.size)⟩
  go_enter Tryz.func4, Tryz.ntmps4
  go_wp2_with (first
    | (at_make; refine wpList_make_full w rfl (.const (.int .i64 512)) (.const (.int .i64 512)) _ rfl w.heap.size 5 i0 _ 1 Tryz.underlying22 hi0 hz0 hz1 .i64 .i64 _ _ 512 rfl rfl rfl rfl (by rw [hz2]; omega) (by simp only [maxLen]; omega) (Nat.le_refl _) ?_; intro w1 hown1 hg1; have hb1 := below_of_grown hg1 (by simp); have HO1 := Lib.hid (own_zeros hown1 (Nat.le_refl _)); clear hown1 hg1)
    | (go_at_call 5; (with_reducible refine (OF.out _ _ HO1.out hb1).mono ?_); rintro e w2 ⟨p, g, rfl, hN2⟩)
    | (go_at_call 10; (with_reducible refine (PT.out _ _ _ hN2).mono ?_); rintro e w3 ⟨g2, rfl, hO3, hN3⟩; have HO3 := Lib.hid (hO3.down (Nat.zero_le _)); clear hO3)
    | (go_at_call 11; (with_reducible refine (WT.out _ _ _ _ hN3 HO3.out).mono ?_); rintro e w5 ⟨rfl, hN5⟩)
    | (go_at_call 6; (with_reducible refine (SC.out _ _ _ hN5).mono ?_); rintro e w6 ⟨AE, cE, AB, cB, AF, cF, rfl, hb6⟩))
  go_ret
  exact ⟨rfl, hb6.alloc hb6.size _⟩

end Go.Proofs.YtmjmhoihmnbjkaaGreat

/-
  The walk of WalkRises.
-/
namespace Go.Proofs.YtmjmhoihmnbjkaaGreat
open Go.RowKit
set_option linter.unusedVariables false
set_option linter.unusedSimpArgs false

theorem rise_and255 (n : Int) : bits .and .i64 n 255 = n % 256 := by
  have hm : (BitVec.ofInt 64 255).toNat = 2 ^ 8 - 1 := by decide
  have key : (BitVec.ofInt 64 n &&& BitVec.ofInt 64 255).toNat = (n % ((2 ^ 64 : Nat) : Int)).toNat % 2 ^ 8 := by
    rw [BitVec.toNat_and, BitVec.toNat_ofInt, hm, Nat.and_two_pow_sub_one_eq_mod]
  show IntKind.i64.wrap ((BitVec.ofInt 64 n &&& BitVec.ofInt 64 255).toNat : Nat) = n % 256
  rw [key, IntKind.wrap_i64]
  omega

/-- of rising numbers an earlier one is the smaller -/
theorem getD_rise14 {l : List Int} (h : ∀ j, j + 1 < l.length → l.getD j 0 < l.getD (j + 1) 0) : ∀ {k i : Nat}, k < i → i < l.length → l.getD k 0 < l.getD i 0 := by
  intro k i hk
  induction i with
  | zero => omega
  | succ i ih =>
    intro hi
    by_cases he : k = i
    · subst he; exact h k hi
    · exact Int.lt_trans (ih (by omega) (by omega)) (h i hi)

/-- each fault's way is short -/
theorem Done14.ways {nd : Int → Int × Nod} {rt : List UInt8 → Int × Int} {fuel : Int} {w : Wlk14} {l : List Vis14} {R : Wlk14} (h : Done14 nd rt fuel w l R) (hl : ∀ v ∈ l, v.way.length ≤ 16) (hw : ∀ f ∈ w.flts, f.1.length ≤ 17) : ∀ f ∈ R.flts, f.1.length ≤ 17 := by
  have push : ∀ (w : Wlk14) (v : Vis14) (c : Int), (∀ f ∈ w.flts, f.1.length ≤ 17) → v.way.length ≤ 16 → ∀ f ∈ (w.bad v c).flts, f.1.length ≤ 17 := by
    intro w v c a b f hf
    rcases List.mem_append.1 hf with hf | hf
    · exact a f hf
    · rw [List.mem_singleton.1 hf]; show (v.way ++ [v.no]).length ≤ 17; rw [List.length_append]; simp only [List.length_singleton]; omega
  induction h with
  | nil w => exact hw
  | flt w v rest R a _ ih => exact ih (fun u hu => hl u (List.mem_cons_of_mem _ hu)) (push w v _ hw (hl v (List.mem_cons_self ..)))
  | dry w v rest a b => exact push w v _ hw (hl v (List.mem_cons_self ..))
  | bad w v rest R a b c _ ih => exact ih (fun u hu => hl u (List.mem_cons_of_mem _ hu)) (push w.see v _ hw (hl v (List.mem_cons_self ..)))
  | leaf w v rest R a b c d _ ih => exact ih (fun u hu => hl u (List.mem_cons_of_mem _ hu)) hw
  | node w v rest R a b c d _ ih =>
    refine ih (fun u hu => ?_) hw
    rcases List.mem_append.1 hu with hu | hu
    · have hv := hl v (List.mem_cons_self ..)
      have hs : v.way.length + 1 ≤ 16 := by
        unfold lookE14 at c
        split at c
        · exact absurd c (by decide)
        · split at c
          · exact absurd c (by decide)
          · omega
      obtain ⟨i, _, rfl⟩ := List.mem_map.1 hu
      unfold kid14
      split
      · exact hv
      · show (v.way ++ [v.no]).length ≤ 16
        rw [List.length_append]; simp only [List.length_singleton]; omega
    · exact hl u (List.mem_cons_of_mem _ hu)

/-- is the fault of too little fuel among the first j -/
def dryB14 (R : Wlk14) (j : Nat) : Bool := (R.flts.take j).any fun f => f.2 == 12
theorem dryB14_step {R : Wlk14} {j : Nat} (h : j < R.flts.length) : dryB14 R (j + 1) = (dryB14 R j || (R.flts[j].2 == 12)) := by
  rw [dryB14, List.take_succ_eq_append_getElem h, List.any_append]
  simp [dryB14]
theorem dryB14_all {R : Wlk14} : dryB14 R R.flts.length = true ↔ dry14 R := by
  rw [dryB14, List.take_of_length_le (Nat.le_refl _), List.any_eq_true]
  simp only [beq_iff_eq]
  rfl

set_option maxRecDepth 100000 in
set_option maxHeartbeats 3200000 in
theorem walkrises_long (A : Option Addr) (n c : Nat) (root tree fuel more : Int) (w : World) (hle : n ≤ 9223372036854775807) (h : 12000 < n) :
    Calls Tryz.prog 3 #[.slice A n c, .int .i64 root, .int .i64 tree, .int .i64 fuel, .int .i64 more] w fun e w' => e = .returned (.bool true) ∧ Below w.heap.size w w' := by
  have LV := Lib.hid (lives14_any w)
  have hd : decide ((12000 : Int) < (n : Int)) = true := decide_eq_true (by omega)
  have hd2 : decide (12000 < n) = true := decide_eq_true h
  go_enter Tryz.func3, Tryz.ntmps3
  go_wp2_with (go_at_call 4; (with_reducible refine (LV.out).mono ?_); rintro e w1 ⟨rfl, hb1⟩)
  go_ret
  exact ⟨rfl, hb1⟩

/-- what the walk keeps: the image, what was found, its variable -/
structure Rs14 (w W : World) (p g : Nat) (L : List UInt8) (b : Nat) (R : Wlk14) (AE : Option Addr) (cE : Nat) (AB : Option Addr) (cB : Nat) (AF : Option Addr) (cF : Nat) : Prop where
  bel : Below w.heap.size w W
  img : Img W w.heap.size p g L
  wk : Wk14 W R AE R.ents.length cE AB R.blks.length cB AF R.flts.length cF
  var : WkAt W b (.slice AE R.ents.length cE) (.slice AB R.blks.length cB) (.int .i64 R.deep) (.int .i64 R.looked) (.slice AF R.flts.length cF)
section
variable {w W W' : World} {p g : Nat} {L : List UInt8} {b : Nat} {R : Wlk14} {AE : Option Addr} {cE : Nat} {AB : Option Addr} {cB : Nat} {AF : Option Addr} {cF : Nat}
theorem Rs14.later (h : Rs14 w W p g L b R AE cE AB cB AF cF) (hb : Below W.heap.size W W') : Rs14 w W' p g L b R AE cE AB cB AF cF := ⟨h.bel.trans (hb.mono h.bel.size), h.img.later hb, h.wk.below hb, (hb.block _ (block_lt h.var)).trans h.var⟩
theorem WkAt.cs {v0 v1 v2 v3 v4 : Value} (h : WkAt W b v0 v1 v2 v3 v4) : W.cell? ⟨b, 0, none⟩ = some v0 ∧ W.cell? ⟨b, 1, none⟩ = some v1 ∧ W.cell? ⟨b, 2, none⟩ = some v2 ∧ W.cell? ⟨b, 3, none⟩ = some v3 ∧ W.cell? ⟨b, 4, none⟩ = some v4 :=
  ⟨by rw [cell_of_row W b 0 _ _ _ h]; rfl, by rw [cell_of_row W b 1 _ _ _ h]; rfl, by rw [cell_of_row W b 2 _ _ _ h]; rfl, by rw [cell_of_row W b 3 _ _ _ h]; rfl, by rw [cell_of_row W b 4 _ _ _ h]; rfl⟩
end

set_option maxRecDepth 100000 in
set_option maxHeartbeats 12800000 in
theorem walkrises_short (A : Option Addr) (n c : Nat) (l : List UInt8) (root tree fuel more : Int) (w : World) (h : Bytes8 w A n c l) (hn : n ≤ 12000) (hbr : -9223372036854775808 ≤ root ∧ root ≤ 9223372036854775807) (hbf : -9223372036854775808 ≤ fuel ∧ fuel ≤ 9223372036854775807) (hbm : -9223372036854775808 ≤ more ∧ more ≤ 9223372036854775807) :
    Calls Tryz.prog 3 #[.slice A n c, .int .i64 root, .int .i64 tree, .int .i64 fuel, .int .i64 more] w fun e w' => e = .returned (.bool true) ∧ Below w.heap.size w w' := by
  have hF1 : min fuel 300 ≤ 300 ∧ -9223372036854775808 ≤ min fuel 300 := by omega
  have hlen := h.len
  obtain ⟨q, hq⟩ : ∃ q, q = whole n := ⟨_, rfl⟩
  have hL : (l.take (q * 256)).length = q * 256 := by
    rw [List.length_take, hlen, hq]; unfold whole; omega
  have OF := Of_any A n c l w h
  rw [← hq] at OF
  have OFF := Lib.hid OF
  have HL := Lib.hid hL
  have hd : decide ((12000 : Int) < (n : Int)) = false := decide_eq_false (by omega)
  have hd2 : decide (12000 < n) = false := decide_eq_false (by omega)
  have LV := Lib.hid (fun W (hb : Below w.heap.size w W) => (lives14_any W).mono fun e w' (h : e = .returned (.bool true) ∧ Below W.heap.size W w') => (⟨h.1, hb.trans (h.2.mono hb.size)⟩ : e = .returned (.bool true) ∧ Below w.heap.size w w'))
  have HFF := Lib.hid hF1
  have HB := Lib.hid (And.intro hbr (And.intro hbf hbm))
  have SC : Hid (∀ W p g, Below w.heap.size w W → Img W w.heap.size p g (l.take (q * 256)) → Calls Tryz.prog 6 #[.pointer (some ⟨p, 0, none⟩), .int .i64 root, .int .i64 tree, .int .i64 (min fuel 300)] W fun e w' => ∃ R AE cE AB cB AF cF, e = .returned (.agg #[.slice AE R.ents.length cE, .slice AB R.blks.length cB, .int .i64 R.deep, .int .i64 R.looked, .slice AF R.flts.length cF]) ∧ Hid (Rs14 w (w'.alloc (.cells #[.slice AE R.ents.length cE, .slice AB R.blks.length cB, .int .i64 R.deep, .int .i64 R.looked, .slice AF R.flts.length cF] 30)) p g (l.take (q * 256)) w'.heap.size R AE cE AB cB AF cF ∧ Done14 (nd14 (l.take (q * 256)) q tree) rt14 (min fuel 300) Wlk14.zero [Vis14.root root] R)) := fun W p g hb hI => by
    refine (Scan_any14 hI hL root tree (min fuel 300) (by omega)).mono ?_
    rintro e w' ⟨R, AE, cE, AB, cB, AF, cF, h1, h2, h3, h4, _⟩
    have hba := (Below.refl w'.heap.size w').alloc (Nat.le_refl _) (.cells #[.slice AE R.ents.length cE, .slice AB R.blks.length cB, .int .i64 R.deep, .int .i64 R.looked, .slice AF R.flts.length cF] 30)
    have hb4 := hb.trans (h4.mono hb.size)
    exact ⟨R, AE, cE, AB, cB, AF, cF, h1, ⟨hb4.trans (hba.mono hb4.size), (hI.later h4).later hba, h2.below hba, heap_alloc_new w' _⟩, h3⟩
  clear hq OF hL hF1 h hbr hbf hbm
  go_enter Tryz.func3, Tryz.ntmps3
  go_wp2_with (go_at_call 5; (with_reducible refine (OFF.out).mono ?_); rintro e w1 ⟨p, g, rfl, hI1, hb1⟩; have HI1 := Lib.hid (And.intro hb1 hI1); clear hb1 hI1)
  generalize min fuel 300 = F at *
  generalize l.take (q * 256) = L at *
  go_upto_region 6 with (go_at_call 6; (with_reducible refine (SC.out _ _ _ HI1.out.1 HI1.out.2).mono ?_); rintro e w2 ⟨R, AE, cE, AB, cB, AF, cF, rfl, hR⟩)
  obtain ⟨w3, hw3⟩ : ∃ w3, w3 = w2.alloc (.cells #[.slice AE R.ents.length cE, .slice AB R.blks.length cB, .int .i64 R.deep, .int .i64 R.looked, .slice AF R.flts.length cF] 30) := ⟨_, rfl⟩
  rw [← hw3] at hR
  simp only [← hw3]
  clear hw3
  have HR := Lib.hid hR.out.1
  obtain ⟨⟨hk1, hk2⟩, hk3, hrise, hstand, hheads, hdry, hmore⟩ := scan_facts hR.out.2
  obtain ⟨z0, z1, z2, z3, z4⟩ := HR.out.var.cs
  have HWAY := Lib.hid (Done14.ways hR.out.2 (fun v hv => by rw [List.mem_singleton.1 hv]; exact Nat.zero_le _) (fun f hf => by cases hf))
  have HFACT := Lib.hid (And.intro hrise (And.intro hstand (And.intro hheads (And.intro hdry hmore))))
  have hnE := HR.out.wk.ents.most
  have hnEc := HR.out.wk.ents.cap
  have hcF1 : R.flts.length ≤ cF := by obtain ⟨fs, h1, _⟩ := HR.out.wk.flts; exact h1.cap
  have hcF2 : cF ≤ 9223372036854775807 := by obtain ⟨fs, h1, _⟩ := HR.out.wk.flts; exact h1.most
  clear hrise hstand hheads hdry hmore hR SC OFF HI1
  go_wp2_with (fail)
  have HB3 := Lib.hid HR.out.bel
  go_loopw [13] (fun i wx => ∃ j : Nat, j ≤ R.ents.length ∧ i = .int .i64 j ∧ Hid (Below w3.heap.size w3 wx)) (fun i _ => R.ents.length - (intOf i).toNat)
  case atStart => exact ⟨0, by omega, rfl, Below.refl _ _⟩
  case round =>
    obtain ⟨j, hj, rfl, hbx⟩ := hrel
    have HRr := Lib.hid (HR.out.later hbx.out)
    obtain ⟨z0, z1, z2, z3, z4⟩ := HRr.out.var.cs
    by_cases hjn : j < R.ents.length
    · obtain ⟨bE, oE, hAE, x0, x1, x2⟩ := HRr.out.wk.ents.at_ hjn
      obtain ⟨y1, y2, iY, y3, y4, y5⟩ := HFACT.out.2.1 _ (List.getElem_mem hjn)
      have HPV : Hid (∀ h0 : 0 < j, ∃ k0, wr.cell? ⟨bE, oE + (j - 1) * 3, none⟩ = some (.int .i64 k0) ∧ k0 < R.ents[j].1) := fun h0 => by
        obtain ⟨b', o', hA', x0', _, _⟩ := HRr.out.wk.ents.at_ (k := j - 1) (by omega)
        rw [hAE] at hA'
        injection hA' with hA'
        injection hA' with e1 e2
        subst e1; subst e2
        exact ⟨_, x0', List.pairwise_iff_getElem.1 HFACT.out.1 (j - 1) j (by omega) hjn (by omega)⟩
      subst hAE
      have x1' : wr.cell? ⟨bE, oE + j * 3 + 1, none⟩ = _ := x1
      have x2' : wr.cell? ⟨bE, oE + j * 3 + 2, none⟩ = _ := x2
      obtain ⟨nd, hnd⟩ : ∃ nd, (nd14 L q tree R.ents[j].2.2).2 = nd := ⟨_, rfl⟩
      obtain ⟨tr, lf, ks, vs⟩ := nd
      have hord := ord13_yes.1 ((ndOk14 L q tree).ord _ y1)
      have hlen := (ndOk14 L q tree).len _ y1
      have y1e : nodE11 L q R.ents[j].2.2 tree = 0 := y1
      have hnd' : nodN11 L q R.ents[j].2.2 tree = ⟨tr, lf, ks, vs⟩ := hnd
      rw [hnd] at y2 y3 y4 y5 hord hlen
      obtain rfl : lf = true := y2
      have BN : Hid (∀ W, Below wr.heap.size wr W → Calls Tryz.prog 7 #[.pointer (some ⟨p, 0, none⟩), .int .i64 R.ents[j].2.2, .int .i64 tree] W fun e w' => ∃ A5 n5 c5 A6 n6 c6, e = .returned (.tuple #[.agg #[.int .i64 tr, .bool true, .slice A5 n5 c5, .slice A6 n6 c6], .nilIface]) ∧ Hid (Ints w' A5 n5 c5 ks ∧ Strs w' A6 n6 c6 vs ∧ Below W.heap.size W w')) := fun W hb => by
        refine (blockNode_any R.ents[j].2.2 tree (HRr.out.img.later hb) HL.out).mono ?_
        rintro e w' ⟨v, A5, n5, c5, A6, n6, c6, rfl, hN, hE, hb2⟩
        rw [y1e] at hE
        rw [hnd'] at hN ⊢
        rcases hE with ⟨_, rfl⟩ | ⟨h0, _⟩
        · exact ⟨A5, n5, c5, A6, n6, c6, rfl, hN.keys, hN.vals, hb2⟩
        · exact absurd rfl h0
      have HY := Lib.hid (And.intro y3 (And.intro y4 (And.intro y5 (And.intro hord hlen))))
      clear y1 y1e y3 y4 y5 hord hlen hnd hnd' x1 x2

      go_upto_region 13 with (go_at_call 7; (with_reducible refine (BN.out _ ((Below.refl wr.heap.size wr).alloc (Nat.le_refl _) _)).mono ?_); rintro e w5 ⟨A5, n5, c5, A6, n6, c6, rfl, hN⟩)
      have O1 : (wr.alloc (.cells #[.int .i64 R.ents[j].1, .string { data := R.ents[j].2.1.toArray }, .int .i64 R.ents[j].2.2] 33)).heap[wr.heap.size]? = _ := heap_alloc_new wr _
      have hb4 := (Below.refl wr.heap.size wr).alloc (Nat.le_refl _) (.cells #[.int .i64 R.ents[j].1, .string { data := R.ents[j].2.1.toArray }, .int .i64 R.ents[j].2.2] 33)
      have hb5 := hN.out.2.2
      have hb6 := (Below.refl w5.heap.size w5).alloc (Nat.le_refl _) (.cells #[.int .i64 tr, .bool true, .slice A5 n5 c5, .slice A6 n6 c6] 36)
      have O2 := (hb6.block _ (block_lt ((hb5.block _ (block_lt O1)).trans O1))).trans ((hb5.block _ (block_lt O1)).trans O1)
      have O3 : (w5.alloc (.cells #[.int .i64 tr, .bool true, .slice A5 n5 c5, .slice A6 n6 c6] 36)).heap[w5.heap.size]? = _ := heap_alloc_new w5 _
      have I6 := hN.out.1.below hb6
      have S6 := hN.out.2.1.below hb6
      have HB6 := Lib.hid ((hb4.trans (hb5.mono hb4.size)).trans (hb6.mono (Nat.le_trans hb4.size hb5.size)))
      obtain ⟨w6, hw6⟩ : ∃ w6, w6 = w5.alloc (.cells #[.int .i64 tr, .bool true, .slice A5 n5 c5, .slice A6 n6 c6] 36) := ⟨_, rfl⟩
      rw [← hw6] at O2 O3 I6 S6 HB6
      simp only [← hw6]
      obtain ⟨bM, hbM⟩ : ∃ bM, bM = wr.heap.size := ⟨_, rfl⟩
      obtain ⟨bN, hbN⟩ : ∃ bN, bN = w5.heap.size := ⟨_, rfl⟩
      rw [← hbM] at O2
      rw [← hbN] at O3
      simp only [← hbM, ← hbN]
      have E0 : w6.cell? ⟨bM, 0, none⟩ = some (.int .i64 R.ents[j].1) := by rw [cell_of_row w6 bM 0 _ _ _ O2]; rfl
      have E1 : w6.cell? ⟨bM, 1, none⟩ = some (.string { data := R.ents[j].2.1.toArray }) := by rw [cell_of_row w6 bM 1 _ _ _ O2]; rfl
      have N1 : w6.cell? ⟨bN, 1, none⟩ = some (.bool true) := by rw [cell_of_row w6 bN 1 _ _ _ O3]; rfl
      have N2 : w6.cell? ⟨bN, 2, none⟩ = some (.slice A5 n5 c5) := by rw [cell_of_row w6 bN 2 _ _ _ O3]; rfl
      have N3 : w6.cell? ⟨bN, 3, none⟩ = some (.slice A6 n6 c6) := by rw [cell_of_row w6 bN 3 _ _ _ O3]; rfl
      have HR6 := Lib.hid (HRr.out.later HB6.out)
      have HPV6 : Hid (∀ h0 : 0 < j, ∃ k0, w6.cell? ⟨bE, oE + (j - 1) * 3, none⟩ = some (.int .i64 k0) ∧ k0 < R.ents[j].1) := fun h0 => by
        obtain ⟨k0, hk0, hk1⟩ := HPV.out h0
        exact ⟨k0, (HB6.out.cell (p := ⟨bE, _, none⟩) (cell_lt hk0)).trans hk0, hk1⟩
      have HBX := Lib.hid (hbx.out.trans (HB6.out.mono hbx.out.size))
      clear O1 hb4 hb5 hb6 O2 O3 hw6 hbM hbN hN BN HPV HB6 z0 z1 z2 z3 z4 hbx
      try clear HRr
      try clear x0 x1' x2'
      obtain ⟨z0, z1, z2, z3, z4⟩ := HR6.out.var.cs
      obtain rfl : ks.length = n5 := I6.len
      have hn6 : vs.length = n6 := S6.len
      have hY1 := HY.out.1
      have hY4 := HY.out.2.2.2.2
      obtain ⟨b5, o5, rfl, hl5, hc5⟩ := I6.row.lit (by simp [i64s]; omega)
      obtain ⟨b6, o6, rfl, hl6, hc6⟩ := S6.row.lit (by simp [strV]; omega)
      have hn5c := I6.cap
      have hn5m := I6.most
      have hn6c := S6.cap
      have hn6m := S6.most
      have K5 : ∀ k, k < ks.length → w6.cell? ⟨b5, o5 + k, none⟩ = some (.int .i64 (ks.getD k 0)) := fun k hk => hc5 k _ (by simp [i64s, hk])
      have K6 : w6.cell? ⟨b6, o6 + iY, none⟩ = some (.string { data := R.ents[j].2.1.toArray }) := by
        have := HY.out.2.2.1
        rw [← this]
        refine hc6 iY _ ?_
        have h6 : iY < vs.length := by omega
        simp [strV, h6]
      have HK5 := Lib.hid K5
      have HNE : Hid (∀ k, k < iY → ks.getD k 0 < R.ents[j].1) := fun k hk => by
        rw [← HY.out.2.1]
        exact getD_rise14 HY.out.2.2.2.1 hk HY.out.1
      have hEQ := HY.out.2.1
      clear K5 hc5 hc6 hl5 hl6 I6 S6 HY
      go_wp2_with (fail)
      go_loopw [17] (fun i wx => ∃ k : Nat, k ≤ iY ∧ i = .int .i64 k ∧ Hid (Below w6.heap.size w6 wx)) (fun i _ => iY - (intOf i).toNat)
      case atStart => exact ⟨0, by omega, rfl, Below.refl _ _⟩
      case round =>
        obtain ⟨k, hk, rfl, hbw⟩ := hrel
        have TR : Hid (∀ {b o : Nat} {v : Value}, w6.cell? ⟨b, o, none⟩ = some v → wr.cell? ⟨b, o, none⟩ = some v) := fun {b o v} h => (hbw.out.cell (p := ⟨b, o, none⟩) (cell_lt h)).trans h
        have hkc := TR.out (HK5.out k (by omega))
        have N2' := TR.out N2
        have E0' := TR.out E0
        have hkl : decide ((k : Int) < (ks.length : Int)) = true := decide_eq_true (by omega)
        by_cases hkY : k < iY
        · have hne := HNE.out k hkY
          have hk2 : k < ks.length := by omega
          generalize ks.getD k 0 = kv at *
          have hnb : (kv != R.ents[j].1) = true := by rw [bne_iff_ne]; omega
          go_wp2
          go_quiet (fail)
          go_wp2
          go_roundw
          case rel => exact ⟨k + 1, by omega, by go_num, below_drewN hbw.out _⟩
          case measure => simp only [intOf]; omega
        · obtain rfl : k = iY := by omega
          rw [hEQ] at hkc
          go_wp2
          go_quiet (fail)
          go_wp2
          have N1' := TR.out N1
          have N3' := TR.out N3
          have E1' := TR.out E1
          have K6' := TR.out K6
          have z0' := TR.out z0
          have hkv : k < vs.length := by omega
          have HBY := Lib.hid (HBX.out.trans (hbw.out.mono HBX.out.size))
          have HPV7 : Hid (∀ h0 : 0 < j, ∃ k0, wr.cell? ⟨bE, oE + (j - 1) * 3, none⟩ = some (.int .i64 k0) ∧ k0 < R.ents[j].1) := fun h0 => by
            obtain ⟨k0, hk0, hk1⟩ := HPV6.out h0
            exact ⟨k0, TR.out hk0, hk1⟩
          have hkk : decide ((k : Int) = (ks.length : Int)) = false := decide_eq_false (by omega)
          have hkk2 : ((k : Int) == (ks.length : Int)) = false := by rw [beq_eq_false_iff_ne]; omega
          have hkk3 : (k == ks.length) = false := by rw [beq_eq_false_iff_ne]; omega
          have hkk4 : ¬ k = ks.length := by omega
          clear N1 N2 N3 E0 E1 K6 z0 TR HPV6 hbw HK5 HNE hkc z1 z2 z3 z4
          generalize R.ents[j].1 = ek at *
          by_cases hj0 : 0 < j
          · obtain ⟨k0, hk0, hk1⟩ := HPV7.out hj0
            obtain ⟨m, rfl⟩ : ∃ m, j = m + 1 := ⟨j - 1, by omega⟩
            have hm1 : ((m + 1 : Nat) : Int) - 1 = (m : Int) := by omega
            simp only [Nat.add_sub_cancel] at hk0
            have hgt : decide (k0 < ek) = true := decide_eq_true hk1
            have hge : decide (ek ≤ k0) = false := decide_eq_false (by omega)
            have hml : m < R.ents.length := by omega
            go_quiet (fail)
            go_wp2
            go_roundw
            case rel => exact ⟨m + 1 + 1, by omega, by go_num, below_drewN HBY.out _⟩
            case measure =>
              show R.ents.length - Int.toNat ((m : Int) + 1 + 1) < R.ents.length - Int.toNat ((m : Int) + 1)
              omega
          · obtain rfl : j = 0 := by omega
            go_quiet (fail)
            go_wp2
            go_roundw
            case rel => exact ⟨0 + 1, by omega, by go_num, below_drewN HBY.out _⟩
            case measure =>
              show R.ents.length - Int.toNat (1 : Int) < R.ents.length - Int.toNat (0 : Int)
              omega
    · obtain rfl : j = R.ents.length := by omega
      have HB4 := Lib.hid (HB3.out.trans (hbx.out.mono HB3.out.size))
      clear hbx z0 z1 z2 z3 z4
      obtain ⟨z0, z1, z2, z3, z4⟩ := HRr.out.var.cs
      have CO : Hid (∀ j (hj : j < R.flts.length), ∃ bF oF f, AF = some ⟨bF, oF, none⟩ ∧ wr.cell? ⟨bF, oF + j, none⟩ = some (val f) ∧ f ≠ [] ∧ Hid (∀ W, Below wr.heap.size wr W → Calls Tryz.prog 8 #[val f] W (fun e w' => ∃ A n c, e = .returned (.slice A n c) ∧ Ints w' A n c R.flts[j].1 ∧ Below W.heap.size W w')) ∧ Hid (∀ W, Below wr.heap.size wr W → Calls Tryz.prog 9 #[val f, .int .i64 12] W (fun e w' => e = .returned (.bool (R.flts[j].2 == 12)) ∧ Below W.heap.size W w'))) := fun j hj => by
        obtain ⟨fs, hE, hF⟩ := HRr.out.wk.flts
        have hEl := hE.len
        obtain ⟨bF, oF, hAF, hlF, hcF2⟩ := hE.row.lit (by rw [List.length_map]; omega)
        have hjf : j < fs.length := by omega
        have hfj := hcF2 j (val fs[j]) (by simp [hjf])
        obtain ⟨hG, hC⟩ := hF.at_ j hjf hj
        have hw17 := HWAY.out _ (List.getElem_mem hj)
        refine ⟨bF, oF, fs[j], hAF, hfj, hC.ne, fun W hb => ?_, fun W hb => ?_⟩
        · refine (Blocks_any (hG.below hb) (by rw [hC.len]; omega)).mono ?_
          rintro e w' ⟨A, n, c, h1, h2, h3, _⟩
          rw [hC.blocks] at h2
          exact ⟨A, n, c, h1, h2, h3⟩
        · have ha := hC.ans
          have hG2 := hG.below hb
          have hne := hC.ne
          generalize fs[j] = f at *
          cases f with
          | nil => exact absurd rfl hne
          | cons x f =>
            refine (Is_err 12 hG2).mono ?_
            rintro e w' ⟨h1, h2⟩
            refine ⟨?_, h2⟩
            rw [h1, ha]
            congr 2
            by_cases h12 : R.flts[j].2 = 12
            · simp [h12]
            · simp [h12]
      have HH := Lib.hid HFACT.out.2.2.1
      have HDRY := Lib.hid HFACT.out.2.2.2.1
      have HMORE := Lib.hid HFACT.out.2.2.2.2
      have HIM := Lib.hid HRr.out.img
      obtain ⟨w4, hw4⟩ : ∃ w4, w4 = wr := ⟨_, rfl⟩
      subst hw4
      go_wp2_with (fail)
      go_loopw [18, 19] (fun d i wx => ∃ j : Nat, j ≤ R.flts.length ∧ d = .bool (dryB14 R j) ∧ i = .int .i64 j ∧ Hid (Below w4.heap.size w4 wx)) (fun _ i _ => R.flts.length - (intOf i).toNat)
      case atStart => exact ⟨0, by omega, by simp [dryB14], rfl, Below.refl _ _⟩
      case round =>
        obtain ⟨j, hj, rfl, rfl, hbx⟩ := hrel
        have TR : Hid (∀ {b o : Nat} {v : Value}, w4.cell? ⟨b, o, none⟩ = some v → wr.cell? ⟨b, o, none⟩ = some v) := fun {b o v} h => (hbx.out.cell (p := ⟨b, o, none⟩) (cell_lt h)).trans h
        have y0 := TR.out z0
        have y2 := TR.out z2
        have y3 := TR.out z3
        have y4 := TR.out z4
        clear z0 z1 z2 z3 z4
        by_cases hjn : j < R.flts.length
        · obtain ⟨bF, oF, f, hAF, hfj0, hfne, HBLK, HIS⟩ := CO.out j hjn
          have hfj := TR.out hfj0
          have hhd := HH.out _ (List.getElem_mem hjn)
          have hstep := dryB14_step hjn
          obtain ⟨vt, vu, hv⟩ : ∃ t u, val f = .iface t u := by
            cases f with
            | nil => exact absurd rfl hfne
            | cons x f => cases x <;> exact ⟨_, _, rfl⟩
          rw [hv] at HBLK HIS hfj
          obtain ⟨way, hway⟩ : ∃ way, R.flts[j].1 = way := ⟨_, rfl⟩
          rw [hway] at HBLK hhd
          obtain ⟨rest, rfl⟩ : ∃ rest, way = root :: rest := by
            cases way with
            | nil => cases hhd
            | cons a r => injection hhd with hhd; subst hhd; exact ⟨_, rfl⟩
          generalize (R.flts[j].2 == 12) = fd at *
          have HBL2 := Lib.hid (fun W (hb : Below wr.heap.size wr W) => HBLK.out W (hbx.out.trans (hb.mono hbx.out.size)))
          have HIS2 := Lib.hid (fun W (hb : Below wr.heap.size wr W) => HIS.out W (hbx.out.trans (hb.mono hbx.out.size)))
          clear HBLK HIS hv hway hhd hfne CO TR hfj0
          subst hAF
          cases hdr : dryB14 R j
          all_goals
            rw [hdr] at hstep
            go_wp2_with (first
              | (go_at_call 8; (with_reducible refine (HBL2.out _ (Below.refl _ _)).mono ?_); rintro e w5 ⟨A5, n5, c5, rfl, hI5, hb5⟩; obtain rfl : rest.length + 1 = n5 := hI5.len; have HB5 := Lib.hid hb5; have hfj5 := (hb5.cell (p := ⟨bF, oF + j, none⟩) (cell_lt hfj)).trans hfj; have y45 := (hb5.cell (p := ⟨w2.heap.size, 4, none⟩) (cell_lt y4)).trans y4; clear hI5 hb5)
              | (go_at_call 8; (with_reducible refine (HBL2.out _ HB5.out).mono ?_); rintro e w6 ⟨A6, n6, c6, rfl, hI6, hb6⟩; obtain rfl : rest.length + 1 = n6 := hI6.len; obtain ⟨b6, o6, rfl, hl6, hc6⟩ := hI6.row.lit (by simp [i64s]); have e6 : w6.cell? ⟨b6, o6, none⟩ = some (.int .i64 root) := (by simpa using hc6 0 _ rfl); have HB6 := Lib.hid (HB5.out.trans (hb6.mono HB5.out.size)); have hfj6 := (hb6.cell (p := ⟨bF, oF + j, none⟩) (cell_lt hfj5)).trans hfj5; have y46 := (hb6.cell (p := ⟨w2.heap.size, 4, none⟩) (cell_lt y45)).trans y45; have hc6c := hI6.cap; have hc6m := hI6.most; clear hI6 hb6 hc6)
              | (go_at_call 9; (with_reducible refine (HIS2.out _ HB6.out).mono ?_); rintro e w7 ⟨rfl, hb7⟩; have HB7 := Lib.hid (HB6.out.trans (hb7.mono HB6.out.size)); clear hb7))
            go_roundw
          all_goals first
            | exact ⟨j + 1, by omega, by rw [hstep]; rfl, by go_num, hbx.out.trans (HB7.out.mono hbx.out.size)⟩
            | exact ⟨j + 1, by omega, by rw [hstep]; rfl, by go_num, hbx.out.trans (HB6.out.mono hbx.out.size)⟩
            | (simp only [intOf]; omega)
        · obtain rfl : j = R.flts.length := by omega
          have HBZ := Lib.hid (HB4.out.trans (hbx.out.mono HB4.out.size))
          clear CO HH
          cases hdr : dryB14 R R.flts.length
          · have hne : ¬ dry14 R := fun hx => by
              have := dryB14_all.2 hx
              rw [hdr] at this
              cases this
            have hm0 : 0 ≤ more % 256 := Int.emod_nonneg _ (by decide)
            have hm1 : more % 256 < 256 := Int.emod_lt_of_pos _ (by decide)
            have SC2 : Hid (Calls Tryz.prog 6 #[.pointer (some ⟨p, 0, none⟩), .int .i64 root, .int .i64 tree, .int .i64 (F + more % 256)] wr fun e w' => ∃ AE cE AB cB AF cF, e = .returned (.agg #[.slice AE R.ents.length cE, .slice AB R.blks.length cB, .int .i64 R.deep, .int .i64 R.looked, .slice AF R.flts.length cF]) ∧ Hid (Below wr.heap.size wr w')) := by
              refine (Scan_is14 (HIM.out.later hbx.out) HL.out root tree (F + more % 256) (by have := HFF.out; omega) (HMORE.out hne _ (by omega))).mono ?_
              rintro e w' ⟨AE, cE, AB, cB, AF, cF, h1, _, h3⟩
              exact ⟨AE, cE, AB, cB, AF, cF, h1, h3⟩
            have hand := rise_and255 more
            have hfl := HFF.out
            have hwr : IntKind.i64.wrap (F + more % 256) = F + more % 256 := by rw [IntKind.wrap_i64]; omega
            clear hne HMORE HDRY hm0 hm1 hfl HIM
            go_upto_region 28 with (go_at_call 6; (with_reducible refine (SC2.out).mono ?_); rintro e w9 ⟨AE2, cE2, AB2, cB2, AF2, cF2, rfl, hb9⟩)
            have O1 : (w9.alloc (.cells #[.slice AE2 R.ents.length cE2, .slice AB2 R.blks.length cB2, .int .i64 R.deep, .int .i64 R.looked, .slice AF2 R.flts.length cF2] 30)).heap[w9.heap.size]? = _ := heap_alloc_new w9 _
            have hba := (Below.refl w9.heap.size w9).alloc (Nat.le_refl _) (.cells #[.slice AE2 R.ents.length cE2, .slice AB2 R.blks.length cB2, .int .i64 R.deep, .int .i64 R.looked, .slice AF2 R.flts.length cF2] 30)
            have hbb := hb9.out.trans (hba.mono hb9.out.size)
            obtain ⟨wa, hwa⟩ : ∃ wa, wa = w9.alloc (.cells #[.slice AE2 R.ents.length cE2, .slice AB2 R.blks.length cB2, .int .i64 R.deep, .int .i64 R.looked, .slice AF2 R.flts.length cF2] 30) := ⟨_, rfl⟩
            rw [← hwa] at O1 hbb
            simp only [← hwa]
            obtain ⟨bQ, hbQ⟩ : ∃ bQ, bQ = w9.heap.size := ⟨_, rfl⟩
            rw [← hbQ] at O1
            simp only [← hbQ]
            have v0 : wa.cell? ⟨bQ, 0, none⟩ = some (.slice AE2 R.ents.length cE2) := by rw [cell_of_row wa bQ 0 _ _ _ O1]; rfl
            have v2 : wa.cell? ⟨bQ, 2, none⟩ = some (.int .i64 R.deep) := by rw [cell_of_row wa bQ 2 _ _ _ O1]; rfl
            have v3 : wa.cell? ⟨bQ, 3, none⟩ = some (.int .i64 R.looked) := by rw [cell_of_row wa bQ 3 _ _ _ O1]; rfl
            have v4 : wa.cell? ⟨bQ, 4, none⟩ = some (.slice AF2 R.flts.length cF2) := by rw [cell_of_row wa bQ 4 _ _ _ O1]; rfl
            have q0 := (hbb.cell (p := ⟨w2.heap.size, 0, none⟩) (cell_lt y0)).trans y0
            have q2 := (hbb.cell (p := ⟨w2.heap.size, 2, none⟩) (cell_lt y2)).trans y2
            have q3 := (hbb.cell (p := ⟨w2.heap.size, 3, none⟩) (cell_lt y3)).trans y3
            have q4 := (hbb.cell (p := ⟨w2.heap.size, 4, none⟩) (cell_lt y4)).trans y4
            have LW := Lib.hid (LV.out wa (HBZ.out.trans (hbb.mono HBZ.out.size)))
            clear O1 hba hbb hwa hbQ hb9 y0 y2 y3 y4
            go_wp2_with (go_at_call 4; (with_reducible refine (LW.out).mono ?_); rintro e w8 ⟨rfl, hb8⟩)
            go_ret
            exact ⟨rfl, hb8⟩
          · have hlk : R.looked = max F 0 := HDRY.out (dryB14_all.1 hdr)
            rw [hlk] at y3
            have LW := Lib.hid (LV.out wr HBZ.out)
            go_wp2_with (go_at_call 4; (with_reducible refine (LW.out).mono ?_); rintro e w8 ⟨rfl, hb8⟩)
            go_ret
            exact ⟨rfl, hb8⟩

theorem walkrises_walk (A : Option Addr) (n c : Nat) (l : List UInt8) (root tree fuel more : Int) (w : World) (h : Bytes8 w A n c l) (hbr : -9223372036854775808 ≤ root ∧ root ≤ 9223372036854775807) (hbt : -9223372036854775808 ≤ tree ∧ tree ≤ 9223372036854775807) (hbf : -9223372036854775808 ≤ fuel ∧ fuel ≤ 9223372036854775807) (hbm : -9223372036854775808 ≤ more ∧ more ≤ 9223372036854775807) :
    Calls Tryz.prog 3 #[.slice A n c, .int .i64 root, .int .i64 tree, .int .i64 fuel, .int .i64 more] w fun e w' => e = .returned (.bool true) ∧ Below w.heap.size w w' := by
  by_cases hn : n ≤ 12000
  · exact walkrises_short A n c l root tree fuel more w h hn hbr hbf hbm
  · exact walkrises_long A n c root tree fuel more w (Nat.le_trans h.cap h.most) (by omega)

end Go.Proofs.YtmjmhoihmnbjkaaGreat
