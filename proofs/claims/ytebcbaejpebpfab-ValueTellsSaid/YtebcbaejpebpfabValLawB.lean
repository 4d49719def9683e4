/-
  The walk of ValueBack.
-/
import Derived.Test.YtebcbaejpebpfabValLawA
namespace Go.Proofs.Ytebcbaejpebpfab
open Go.RowKit
set_option linter.unusedVariables false
set_option linter.unusedSimpArgs false

/-- what was built, as a text, and what is read of it -/
theorem back_text {ns : List NumS} {p : NumS} {r : List NumS} (hp : ns = p :: r) {vs : List Int} (hl : vs.length = ns.length) (hf : ∀ p ∈ ns, fitN p) (y : ByteArray) (hy : y = ⟨(bldP (ns.zip vs)).toArray⟩) (hne : ¬ y = ⟨#[]⟩) :
    bs y = bldP (ns.zip vs) ∧ rdE (bs y) ns = 0 ∧ (∀ k, k < ns.length → rdV (bs y) ns k = vs.getD k 0) ∧ y.size = sizeN ns := by
  have e : bs y = bldP (ns.zip vs) := by rw [hy]
  have ho : okP (ns.zip vs) = true := by
    refine bldP_ne fun h => hne ?_
    rw [hy, h]
  obtain ⟨h1, h2, h3⟩ := read_built hl hf ho
  rw [← e] at h1 h2 h3
  refine ⟨e, h1, fun k hk => ?_, by rw [← bs_len, h3]⟩
  rw [rdV, if_pos h1, psI, h2]

/-- both boxes as they were -/
structure BB (w W : World) (m x d s p f i : Int) : Prop where
  bel : Below w.heap.size w W
  det : DetAt W w.heap.size m x d s
  slt : SltAt W (w.heap.size + 1) p f i
theorem BB.later {w W W' : World} {m x d s p f i : Int} (h : BB w W m x d s p f i) (hb : Below W.heap.size W W') : BB w W' m x d s p f i :=
  ⟨h.bel.trans (hb.mono h.bel.size), (hb.block _ (block_lt h.det)).trans h.det, (hb.block _ (block_lt h.slt)).trans h.slt⟩
theorem BB.alloc {w W : World} {m x d s p f i : Int} (h : BB w W m x d s p f i) (ob : Obj) : BB w (W.alloc ob) m x d s p f i := h.later ((Below.refl _ _).alloc (Nat.le_refl _) ob)
theorem BB.start (w : World) (m x d s p f i : Int) : BB w ((w.alloc (.cells #[.int .i64 m, .int .i64 x, .int .i64 d, .int .i64 s] 23)).alloc (.cells #[.int .i64 p, .int .i64 f, .int .i64 i] 25)) m x d s p f i := by
  obtain ⟨h1, h2, h3⟩ := two_new8 w (.cells #[.int .i64 m, .int .i64 x, .int .i64 d, .int .i64 s] 23) (.cells #[.int .i64 p, .int .i64 f, .int .i64 i] 25)
  exact ⟨h3, h1, h2⟩
/-- the boxes' cells in a world, and behind a new variable -/
theorem BB.facts {w W : World} {m x d s p f i : Int} (h : BB w W m x d s p f i) :
    (W.cell? ⟨w.heap.size, 0, none⟩ = some (.int .i64 m) ∧ W.cell? ⟨w.heap.size, 1, none⟩ = some (.int .i64 x) ∧ W.cell? ⟨w.heap.size, 2, none⟩ = some (.int .i64 d) ∧ W.cell? ⟨w.heap.size, 3, none⟩ = some (.int .i64 s)) ∧
    (W.cell? ⟨w.heap.size + 1, 0, none⟩ = some (.int .i64 p) ∧ W.cell? ⟨w.heap.size + 1, 1, none⟩ = some (.int .i64 f) ∧ W.cell? ⟨w.heap.size + 1, 2, none⟩ = some (.int .i64 i)) ∧
    (∀ ob, (W.alloc ob).cell? ⟨w.heap.size, 0, none⟩ = some (.int .i64 m)) ∧ (∀ ob, (W.alloc ob).cell? ⟨w.heap.size, 1, none⟩ = some (.int .i64 x)) ∧ (∀ ob, (W.alloc ob).cell? ⟨w.heap.size, 2, none⟩ = some (.int .i64 d)) ∧ (∀ ob, (W.alloc ob).cell? ⟨w.heap.size, 3, none⟩ = some (.int .i64 s)) ∧
    (∀ ob, (W.alloc ob).cell? ⟨w.heap.size + 1, 0, none⟩ = some (.int .i64 p)) ∧ (∀ ob, (W.alloc ob).cell? ⟨w.heap.size + 1, 1, none⟩ = some (.int .i64 f)) ∧ (∀ ob, (W.alloc ob).cell? ⟨w.heap.size + 1, 2, none⟩ = some (.int .i64 i)) :=
  ⟨h.det.facts, h.slt.facts, fun ob => (h.alloc ob).det.facts.1, fun ob => (h.alloc ob).det.facts.2.1, fun ob => (h.alloc ob).det.facts.2.2.1, fun ob => (h.alloc ob).det.facts.2.2.2, fun ob => (h.alloc ob).slt.facts.1, fun ob => (h.alloc ob).slt.facts.2.1, fun ob => (h.alloc ob).slt.facts.2.2⟩
theorem laterB {w W : World} {F : Nat} {args : Array Value} {v : Value} {m x d s p f i : Int} (hW : BB w W m x d s p f i) (h : Calls Try.prog F args W fun e w' => e = .returned v ∧ Below W.heap.size W w') : Calls Try.prog F args W fun e w' => e = .returned v ∧ BB w w' m x d s p f i :=
  h.mono fun e w' ⟨h1, h2⟩ => ⟨h1, hW.later h2⟩

/-- what ValueBack calls -/
structure BackC (w : World) (b t m x d s p f i : Int) (y1 y2 y3 y4 y5 : ByteArray) : Prop where
  wm : ∀ W, BB w W m x d s p f i → Calls Try.prog 7 #[.int .i64 b, .int .i64 t] W fun e w' => e = .returned (.string y1) ∧ BB w w' m x d s p f i
  rm : ∀ W, BB w W m x d s p f i → (!y1.toList.isEmpty) = true → Calls Try.prog 18 #[.string y1] W fun e w' => e = .returned (.tuple #[.int .i64 b, .int .i64 t, .int .i64 0]) ∧ BB w w' m x d s p f i ∧ ((y1.size : Int) != 8) = false
  wd : ∀ W, BB w W m x d s p f i → Calls Try.prog 9 #[.agg #[.int .i64 m, .int .i64 x, .int .i64 d, .int .i64 s]] W fun e w' => e = .returned (.string y2) ∧ BB w w' m x d s p f i
  rd : ∀ W, BB w W m x d s p f i → (!y2.toList.isEmpty) = true → Calls Try.prog 20 #[.string y2] W fun e w' => e = .returned (.tuple #[.agg #[.int .i64 m, .int .i64 x, .int .i64 d, .int .i64 s], .int .i64 0]) ∧ BB w w' m x d s p f i ∧ ((y2.size : Int) != 24) = false
  ws : ∀ W, BB w W m x d s p f i → Calls Try.prog 11 #[.agg #[.int .i64 p, .int .i64 f, .int .i64 i]] W fun e w' => e = .returned (.string y3) ∧ BB w w' m x d s p f i
  rs : ∀ W, BB w W m x d s p f i → (!y3.toList.isEmpty) = true → Calls Try.prog 22 #[.string y3] W fun e w' => e = .returned (.tuple #[.agg #[.int .i64 p, .int .i64 f, .int .i64 i], .int .i64 0]) ∧ BB w w' m x d s p f i ∧ ((y3.size : Int) != 16) = false
  wr : ∀ W, BB w W m x d s p f i → Calls Try.prog 13 #[.int .i64 b] W fun e w' => e = .returned (.string y4) ∧ BB w w' m x d s p f i
  rr : ∀ W, BB w W m x d s p f i → (!y4.toList.isEmpty) = true → Calls Try.prog 24 #[.string y4] W fun e w' => e = .returned (.tuple #[.int .i64 b, .int .i64 0]) ∧ BB w w' m x d s p f i
  wc : ∀ W, BB w W m x d s p f i → Calls Try.prog 15 #[.int .i64 t] W fun e w' => e = .returned (.string y5) ∧ BB w w' m x d s p f i
  rc : ∀ W, BB w W m x d s p f i → (!y5.toList.isEmpty) = true → Calls Try.prog 26 #[.string y5] W fun e w' => e = .returned (.tuple #[.int .i64 t, .int .i64 0]) ∧ BB w w' m x d s p f i
  lv : ∀ W, BB w W m x d s p f i → Calls Try.prog 17 #[] W fun e w' => e = .returned (.bool true) ∧ BB w w' m x d s p f i

theorem back_calls (w : World) (b t m x d s p f i : Int) (hb : i64b b) (ht : i64b t) (hm : i64b m) (hx : i64b x) (hd : i64b d) (hs : i64b s) (hp : i64b p) (hf : i64b f) (hi : i64b i) : ∃ y1 y2 y3 y4 y5 : ByteArray, BackC w b t m x d s p f i y1 y2 y3 y4 y5 := by
  have key : ∀ (ns : List NumS) (q : NumS) (r : List NumS) (vs : List Int), ns = q :: r → vs.length = ns.length → (∀ p ∈ ns, fitN p) → sizeN ns ≤ 1000 → ∀ y : ByteArray, y = ⟨(bldP (ns.zip vs)).toArray⟩ → (!y.toList.isEmpty) = true →
      (bs y).length ≤ 1000 ∧ rdE (bs y) ns = 0 ∧ (∀ k, k < ns.length → rdV (bs y) ns k = vs.getD k 0) ∧ y.size = sizeN ns := by
    intro ns q r vs e1 e2 e3 e4 y e5 e6
    obtain ⟨h1, h2, h3, h4⟩ := back_text e1 e2 e3 y e5 (fun e => by rw [e] at e6; simp at e6)
    exact ⟨by rw [bs_len]; omega, h2, h3, h4⟩
  refine ⟨⟨(mapB b t).toArray⟩, ⟨(detB m x d s).toArray⟩, ⟨(slotB p f i).toArray⟩, ⟨(rootB b).toArray⟩, ⟨(countB t).toArray⟩, ?_, ?_, ?_, ?_, ?_, ?_, ?_, ?_, ?_, ?_, ?_⟩
  · exact fun W hW => laterB hW (Map_any W b t hb ht)
  · intro W hW hne
    obtain ⟨h1, h2, h3, h4⟩ := key mapS _ _ [t, b] rfl rfl mapS_fit (by decide) _ rfl hne
    have := laterB hW (ReadMap_any W _ h1)
    rw [mk_bs, h2, h3 0 (by decide), h3 1 (by decide)] at this
    exact this.mono fun e w' ⟨g1, g2⟩ => ⟨g1, g2, by have h5 : (⟨(mapB b t).toArray⟩ : ByteArray).size = 8 := h4; rw [h5]; decide⟩
  · exact fun W hW => laterB hW (Detail_any W m x d s hm hx hd hs)
  · intro W hW hne
    obtain ⟨h1, h2, h3, h4⟩ := key detS _ _ [m, x, d, s] rfl rfl detS_fit (by decide) _ rfl hne
    have := laterB hW (ReadDetail_any W _ h1)
    rw [mk_bs, h2, h3 0 (by decide), h3 1 (by decide), h3 2 (by decide), h3 3 (by decide)] at this
    exact this.mono fun e w' ⟨g1, g2⟩ => ⟨g1, g2, by have h5 : (⟨(detB m x d s).toArray⟩ : ByteArray).size = 24 := h4; rw [h5]; decide⟩
  · exact fun W hW => laterB hW (Slot_any W p f i hp hf hi)
  · intro W hW hne
    obtain ⟨h1, h2, h3, h4⟩ := key slotS _ _ [p, f, i] rfl rfl slotS_fit (by decide) _ rfl hne
    have := laterB hW (ReadSlot_any W _ h1)
    rw [mk_bs, h2, h3 0 (by decide), h3 1 (by decide), h3 2 (by decide)] at this
    exact this.mono fun e w' ⟨g1, g2⟩ => ⟨g1, g2, by have h5 : (⟨(slotB p f i).toArray⟩ : ByteArray).size = 16 := h4; rw [h5]; decide⟩
  · exact fun W hW => laterB hW (Root_any W b hb)
  · intro W hW hne
    obtain ⟨h1, h2, h3, h4⟩ := key rootS _ _ [b] rfl rfl rootS_fit (by decide) _ rfl hne
    have := laterB hW (ReadRoot_any W _ h1)
    rw [mk_bs, h2, h3 0 (by decide)] at this
    exact this
  · exact fun W hW => laterB hW (Count_any W t ht)
  · intro W hW hne
    obtain ⟨h1, h2, h3, h4⟩ := key countS _ _ [t] rfl rfl countS_fit (by decide) _ rfl hne
    have := laterB hW (ReadCount_any W _ h1)
    rw [mk_bs, h2, h3 0 (by decide)] at this
    exact this
  · exact fun W hW => laterB hW (lives8_any W)

set_option maxRecDepth 100000 in
set_option maxHeartbeats 12800000 in
theorem back_walk (b t m x d s p f i : Int) (w : World) (hb : i64b b) (ht : i64b t) (hm : i64b m) (hx : i64b x) (hd : i64b d) (hs : i64b s) (hp : i64b p) (hf : i64b f) (hi : i64b i) :
    Calls Try.prog 5 #[.int .i64 b, .int .i64 t, .agg #[.int .i64 m, .int .i64 x, .int .i64 d, .int .i64 s], .agg #[.int .i64 p, .int .i64 f, .int .i64 i]] w fun e w' => e = .returned (.bool true) ∧ Below w.heap.size w w' := by
  obtain ⟨y1, y2, y3, y4, y5, hC⟩ := back_calls w b t m x d s p f i hb ht hm hx hd hs hp hf hi
  have C := Lib.hid hC
  clear hC hb ht hm hx hd hs hp hf hi
  go_enter Try.func5, Try.ntmps5
  go_wp2_with (first
    | (go_at_call 7; (with_reducible refine (C.out.wm _ (BB.start w m x d s p f i)).mono ?_); rintro e w1 ⟨rfl, hb1⟩; obtain ⟨⟨ga0, ga1, ga2, ga3⟩, ⟨ga4, ga5, ga6⟩, ga7, ga8, ga9, gaa, gab, gac, gad⟩ := hb1.facts)
    | (go_at_call 18; (with_reducible refine (C.out.rm _ (by first | assumption | exact hb4.alloc _ | exact hb6.alloc _) (by assumption)).mono ?_); rintro e w2 ⟨rfl, hb2, hsz2⟩; obtain ⟨⟨gb0, gb1, gb2, gb3⟩, ⟨gb4, gb5, gb6⟩, gb7, gb8, gb9, gba, gbb, gbc, gbd⟩ := hb2.facts)
    | (go_at_call 9; (with_reducible refine (C.out.wd _ (by first | assumption | exact hb4.alloc _ | exact hb6.alloc _)).mono ?_); rintro e w3 ⟨rfl, hb3⟩; obtain ⟨⟨gc0, gc1, gc2, gc3⟩, ⟨gc4, gc5, gc6⟩, gc7, gc8, gc9, gca, gcb, gcc, gcd⟩ := hb3.facts)
    | (go_at_call 20; (with_reducible refine (C.out.rd _ (by first | assumption | exact hb4.alloc _ | exact hb6.alloc _) (by assumption)).mono ?_); rintro e w4 ⟨rfl, hb4, hsz4⟩; obtain ⟨⟨gd0, gd1, gd2, gd3⟩, ⟨gd4, gd5, gd6⟩, gd7, gd8, gd9, gda, gdb, gdc, gdd⟩ := hb4.facts)
    | (go_at_call 11; (with_reducible refine (C.out.ws _ (by first | assumption | exact hb4.alloc _ | exact hb6.alloc _)).mono ?_); rintro e w5 ⟨rfl, hb5⟩; obtain ⟨⟨ge0, ge1, ge2, ge3⟩, ⟨ge4, ge5, ge6⟩, ge7, ge8, ge9, gea, geb, gec, ged⟩ := hb5.facts)
    | (go_at_call 22; (with_reducible refine (C.out.rs _ (by first | assumption | exact hb4.alloc _ | exact hb6.alloc _) (by assumption)).mono ?_); rintro e w6 ⟨rfl, hb6, hsz6⟩; obtain ⟨⟨gf0, gf1, gf2, gf3⟩, ⟨gf4, gf5, gf6⟩, gf7, gf8, gf9, gfa, gfb, gfc, gfd⟩ := hb6.facts)
    | (go_at_call 13; (with_reducible refine (C.out.wr _ (by first | assumption | exact hb4.alloc _ | exact hb6.alloc _)).mono ?_); rintro e w7 ⟨rfl, hb7⟩; obtain ⟨⟨gg0, gg1, gg2, gg3⟩, ⟨gg4, gg5, gg6⟩, gg7, gg8, gg9, gga, ggb, ggc, ggd⟩ := hb7.facts)
    | (go_at_call 24; (with_reducible refine (C.out.rr _ (by first | assumption | exact hb4.alloc _ | exact hb6.alloc _) (by assumption)).mono ?_); rintro e w8 ⟨rfl, hb8⟩; obtain ⟨⟨gh0, gh1, gh2, gh3⟩, ⟨gh4, gh5, gh6⟩, gh7, gh8, gh9, gha, ghb, ghc, ghd⟩ := hb8.facts)
    | (go_at_call 15; (with_reducible refine (C.out.wc _ (by first | assumption | exact hb4.alloc _ | exact hb6.alloc _)).mono ?_); rintro e w9 ⟨rfl, hb9⟩; obtain ⟨⟨gi0, gi1, gi2, gi3⟩, ⟨gi4, gi5, gi6⟩, gi7, gi8, gi9, gia, gib, gic, gid⟩ := hb9.facts)
    | (go_at_call 26; (with_reducible refine (C.out.rc _ (by first | assumption | exact hb4.alloc _ | exact hb6.alloc _) (by assumption)).mono ?_); rintro e w10 ⟨rfl, hb10⟩; obtain ⟨⟨gj0, gj1, gj2, gj3⟩, ⟨gj4, gj5, gj6⟩, gj7, gj8, gj9, gja, gjb, gjc, gjd⟩ := hb10.facts)
    | (go_at_call 17; (with_reducible refine (C.out.lv _ (by first | assumption | exact hb4.alloc _ | exact hb6.alloc _)).mono ?_); rintro e w11 ⟨rfl, hb11⟩))
  all_goals go_ret
  all_goals exact ⟨rfl, hb11.bel⟩

end Go.Proofs.Ytebcbaejpebpfab
