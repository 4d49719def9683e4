/-
  The walk of ValueTells.
-/
import Derived.Test.YtebcbaejpebpfabValLawB
import Derived.Test.YtebcbaejpebpfabValQ
namespace Go.Proofs.Ytebcbaejpebpfab
open Go.RowKit
set_option linter.unusedVariables false
set_option linter.unusedSimpArgs false

theorem BB.drew {w W : World} {m x d s p f i : Int} (h : BB w W m x d s p f i) : BB w W.drew m x d s p f i := ⟨h.bel.drew, h.det, h.slt⟩
theorem BB.cells {w W : World} {m x d s p f i : Int} (h : BB w W m x d s p f i) : (W.cell? ⟨w.heap.size, 0, none⟩ = some (.int .i64 m) ∧ W.cell? ⟨w.heap.size, 1, none⟩ = some (.int .i64 x) ∧ W.cell? ⟨w.heap.size, 2, none⟩ = some (.int .i64 d) ∧ W.cell? ⟨w.heap.size, 3, none⟩ = some (.int .i64 s) ∧ W.cell? ⟨w.heap.size + 1, 0, none⟩ = some (.int .i64 p) ∧ W.cell? ⟨w.heap.size + 1, 1, none⟩ = some (.int .i64 f) ∧ W.cell? ⟨w.heap.size + 1, 2, none⟩ = some (.int .i64 i)) := by
  obtain ⟨h0, h1, h2, h3⟩ := h.det.facts
  obtain ⟨h4, h5, h6⟩ := h.slt.facts
  exact ⟨h0, h1, h2, h3, h4, h5, h6⟩

/-- what ValueTells calls -/
structure TellC (w : World) (b t m x d s p f i : Int) (y1 y2 y3 y4 y5 : ByteArray) : Prop where
  c0 : ∀ W, BB w W m x d s p f i → Calls Try.prog 7 #[.int .i64 b, .int .i64 t] W fun e w' => e = .returned (.string y1) ∧ BB w w' m x d s p f i
  c1 : ∀ W, BB w W m x d s p f i → Calls Try.prog 8 #[.int .i64 b, .int .i64 t] W fun e w' => e = .returned (.string y1) ∧ BB w w' m x d s p f i
  c2 : ∀ W, BB w W m x d s p f i → Calls Try.prog 9 #[.agg #[.int .i64 m, .int .i64 x, .int .i64 d, .int .i64 s]] W fun e w' => e = .returned (.string y2) ∧ BB w w' m x d s p f i
  c3 : ∀ W, BB w W m x d s p f i → Calls Try.prog 10 #[.agg #[.int .i64 m, .int .i64 x, .int .i64 d, .int .i64 s]] W fun e w' => e = .returned (.string y2) ∧ BB w w' m x d s p f i
  c4 : ∀ W, BB w W m x d s p f i → Calls Try.prog 11 #[.agg #[.int .i64 p, .int .i64 f, .int .i64 i]] W fun e w' => e = .returned (.string y3) ∧ BB w w' m x d s p f i
  c5 : ∀ W, BB w W m x d s p f i → Calls Try.prog 12 #[.agg #[.int .i64 p, .int .i64 f, .int .i64 i]] W fun e w' => e = .returned (.string y3) ∧ BB w w' m x d s p f i
  c6 : ∀ W, BB w W m x d s p f i → Calls Try.prog 13 #[.int .i64 b] W fun e w' => e = .returned (.string y4) ∧ BB w w' m x d s p f i
  c7 : ∀ W, BB w W m x d s p f i → Calls Try.prog 14 #[.int .i64 b] W fun e w' => e = .returned (.string y4) ∧ BB w w' m x d s p f i
  c8 : ∀ W, BB w W m x d s p f i → Calls Try.prog 15 #[.int .i64 t] W fun e w' => e = .returned (.string y5) ∧ BB w w' m x d s p f i
  c9 : ∀ W, BB w W m x d s p f i → Calls Try.prog 16 #[.int .i64 t] W fun e w' => e = .returned (.string y5) ∧ BB w w' m x d s p f i
  c10 : ∀ W, BB w W m x d s p f i → Calls Try.prog 17 #[] W fun e w' => e = .returned (.bool true) ∧ BB w w' m x d s p f i

theorem tell_calls (w : World) (b t m x d s p f i : Int) (hb : i64b b) (ht : i64b t) (hm : i64b m) (hx : i64b x) (hd : i64b d) (hs : i64b s) (hp : i64b p) (hf : i64b f) (hi : i64b i) : ∃ y1 y2 y3 y4 y5 : ByteArray, TellC w b t m x d s p f i y1 y2 y3 y4 y5 :=
  ⟨⟨(mapB b t).toArray⟩, ⟨(detB m x d s).toArray⟩, ⟨(slotB p f i).toArray⟩, ⟨(rootB b).toArray⟩, ⟨(countB t).toArray⟩, fun W hW => laterB hW (Map_any W b t hb ht), fun W hW => laterB hW (refMap_any8 W b t), fun W hW => laterB hW (Detail_any W m x d s hm hx hd hs), fun W hW => laterB hW (refDetail_any8 W m x d s), fun W hW => laterB hW (Slot_any W p f i hp hf hi), fun W hW => laterB hW (refSlot_any8 W p f i), fun W hW => laterB hW (Root_any W b hb), fun W hW => laterB hW (refRoot_any8 W b), fun W hW => laterB hW (Count_any W t ht), fun W hW => laterB hW (refCount_any8 W t), fun W hW => laterB hW (lives8_any W)⟩

set_option maxRecDepth 100000 in
set_option maxHeartbeats 6400000 in
theorem tells_walk (b t m x d s p f i : Int) (w : World) (hb : i64b b) (ht : i64b t) (hm : i64b m) (hx : i64b x) (hd : i64b d) (hs : i64b s) (hp : i64b p) (hf : i64b f) (hi : i64b i) :
    Calls Try.prog 3 #[.int .i64 b, .int .i64 t, .agg #[.int .i64 m, .int .i64 x, .int .i64 d, .int .i64 s], .agg #[.int .i64 p, .int .i64 f, .int .i64 i]] w fun e w' => e = .returned (.bool true) ∧ Below w.heap.size w w' := by
  obtain ⟨y1, y2, y3, y4, y5, hC⟩ := tell_calls w b t m x d s p f i hb ht hm hx hd hs hp hf hi
  have C := Lib.hid hC
  have hB0 := (BB.start w m x d s p f i).drew
  have hs0 := hB0.cells
  clear hC hb ht hm hx hd hs hp hf hi
  go_enter Try.func3, Try.ntmps3
  go_wp2
  go_region_held3 (fun W => (W.cell? ⟨w.heap.size, 0, none⟩ = some (.int .i64 m) ∧ W.cell? ⟨w.heap.size, 1, none⟩ = some (.int .i64 x) ∧ W.cell? ⟨w.heap.size, 2, none⟩ = some (.int .i64 d) ∧ W.cell? ⟨w.heap.size, 3, none⟩ = some (.int .i64 s) ∧ W.cell? ⟨w.heap.size + 1, 0, none⟩ = some (.int .i64 p) ∧ W.cell? ⟨w.heap.size + 1, 1, none⟩ = some (.int .i64 f) ∧ W.cell? ⟨w.heap.size + 1, 2, none⟩ = some (.int .i64 i)))
    (assumption)
    (first
      | (go_at_call 7; (with_reducible refine (C.out.c0 _ (by assumption)).mono ?_); rintro e w1 ⟨rfl, hb1⟩; have hs1 := hb1.cells)
      | (go_at_call 8; (with_reducible refine (C.out.c1 _ (by assumption)).mono ?_); rintro e w2 ⟨rfl, hb2⟩; have hs2 := hb2.cells)
      | (go_at_call 9; (with_reducible refine (C.out.c2 _ (by assumption)).mono ?_); rintro e w3 ⟨rfl, hb3⟩; have hs3 := hb3.cells)
      | (go_at_call 10; (with_reducible refine (C.out.c3 _ (by assumption)).mono ?_); rintro e w4 ⟨rfl, hb4⟩; have hs4 := hb4.cells)
      | (go_at_call 11; (with_reducible refine (C.out.c4 _ (by assumption)).mono ?_); rintro e w5 ⟨rfl, hb5⟩; have hs5 := hb5.cells)
      | (go_at_call 12; (with_reducible refine (C.out.c5 _ (by assumption)).mono ?_); rintro e w6 ⟨rfl, hb6⟩; have hs6 := hb6.cells)
      | (go_at_call 13; (with_reducible refine (C.out.c6 _ (by assumption)).mono ?_); rintro e w7 ⟨rfl, hb7⟩; have hs7 := hb7.cells)
      | (go_at_call 14; (with_reducible refine (C.out.c7 _ (by assumption)).mono ?_); rintro e w8 ⟨rfl, hb8⟩; have hs8 := hb8.cells)
      | (go_at_call 15; (with_reducible refine (C.out.c8 _ (by assumption)).mono ?_); rintro e w9 ⟨rfl, hb9⟩; have hs9 := hb9.cells)
      | (go_at_call 16; (with_reducible refine (C.out.c9 _ (by assumption)).mono ?_); rintro e w10 ⟨rfl, hb10⟩; have hs10 := hb10.cells)
      | (go_at_call 17; (with_reducible refine (C.out.c10 _ (by assumption)).mono ?_); rintro e w11 ⟨rfl, hb11⟩; have hs11 := hb11.cells))
  go_wp2
  go_ret
  exact ⟨rfl, hb11.bel⟩

end Go.Proofs.Ytebcbaejpebpfab
