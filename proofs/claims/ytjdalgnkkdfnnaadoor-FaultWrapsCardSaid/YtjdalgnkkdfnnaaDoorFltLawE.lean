/-
  The walk of FaultWraps.
-/
import Derived.Test.YtjdalgnkkdfnnaaDoorFltT
namespace Go.Proofs.YtjdalgnkkdfnnaaDoor
open Go.RowKit
set_option linter.unusedVariables false
set_option linter.unusedSimpArgs false

/-- the law's own variable at w0's end, the error made -/
structure WrapT (w0 W : World) (l : List Node) (A : Option Addr) (n c : Nat) (code : Int) : Prop where
  box : BoxO w0 W A n c code
  good : Good W l
theorem WrapT.later {w0 W W' : World} {l : List Node} {A : Option Addr} {n c : Nat} {code : Int} (h : WrapT w0 W l A n c code) (hb : Below W.heap.size W W') : WrapT w0 W' l A n c code :=
  ⟨h.box.later hb, h.good.below hb⟩
theorem WrapT.facts {w0 W : World} {l : List Node} {A : Option Addr} {n c : Nat} {code : Int} (h : WrapT w0 W l A n c code) :
    W.cell? ⟨w0.heap.size, 0, none⟩ = some (.slice A n c) ∧ W.cell? ⟨w0.heap.size, 1, none⟩ = some (.int .i64 code) :=
  ⟨h.box.k0, h.box.k1⟩

set_option maxRecDepth 100000 in
set_option maxHeartbeats 4000000 in
theorem wraps_big (A : Option Addr) (n c : Nat) (code block : Int) (w : World) (hn : 300 < n) (hle : n ≤ 9223372036854775807) (hg : ErrT w) (hp : Pow w) :
    Calls Tryd.prog 4 #[.agg #[.slice A n c, .int .i64 code], .int .i64 block] w fun e w' => e = .returned (.bool true) ∧ Below w.heap.size w w' := by
  have b1 : Below w.heap.size w (w.alloc (.cells #[.slice A n c, .int .i64 code] 24)) := (Below.refl _ _).alloc (Nat.le_refl _) _
  have LV := Lib.hid (lives5_any _ (hg.later b1) (hp.later b1))
  have HB := Lib.hid b1
  clear hg hp b1
  go_enter Tryd.func4, Tryd.ntmps4
  go_wp2_with (go_at_call 7; (with_reducible refine LV.out.mono ?_); rintro e w1 ⟨rfl, hb⟩)
  go_ret
  exact ⟨rfl, HB.out.trans (hb.mono HB.out.size)⟩

set_option maxRecDepth 100000 in
set_option maxHeartbeats 4000000 in
theorem wraps_some {A : Option Addr} {n c : Nat} {bs : List Int} {code : Int} (hc : code ≠ 0) (block : Int) (w : World) (hI : Ints w A n c bs) (hn : n ≤ 300) (hg : ErrT w) (hp : Pow w) :
    Calls Tryd.prog 4 #[.agg #[.slice A n c, .int .i64 code], .int .i64 block] w fun e w' => e = .returned (.bool true) ∧ Below w.heap.size w w' := by
  have HX := Lib.hid (BoxO.first w A n c code)
  have HI := Lib.hid hI
  have OW := Lib.hid (fun W h => Own_chain (A := A) (n := n) (c := c) (bs := bs) (w := W) hc h)
  have AT := Lib.hid (fun W l (hl : l ≠ []) (h : Good W l) => At_err block hl h)
  simp only [val] at AT
  have hlen := hI.len
  have hle := hI.le
  have hcb : (code == 0) = false := by simpa using hc
  have HC0 := Lib.hid hc
  have HLn := Lib.hid hlen
  have HE := Lib.hid hg
  have HP := Lib.hid hp
  have Hn := Lib.hid hn
  clear hI hc hlen hg hp
  go_enter Tryd.func4, Tryd.ntmps4
  go_wp2_with (first
    | (go_at_call 8; (with_reducible refine (OW.out _ (HI.out.below HX.out.bel)).mono ?_); rintro e w1 ⟨l, tv, uv, rfl, hv, hC, hG, hb1⟩; have H1 := Lib.hid (HX.out.later hb1); have HC := Lib.hid hC; have HG := Lib.hid hG; have HV := Lib.hid hv; have AT1 := Lib.hid (AT.out w1 l HC.out.ne HG.out); rw [hv] at AT1; have k1 := H1.out.k1; clear hb1 hC hG hv)
    | (go_at_call 14; (with_reducible refine AT1.out.mono ?_); rintro e w2 ⟨p, rfl, hG2, hb2⟩; have hN : WrapT w w2 (.flt block p :: l) A n c code := ⟨H1.out.later hb2, hG2⟩; have hNd := hN.later ((Below.refl _ _).drew); clear hG2 hb2; have f2 := hN.facts))
  have TO : Hid (∀ W, WrapT w W (.flt block p :: l) A n c code → Calls Tryd.prog 10 #[.iface 47 (.pointer (some ⟨p, 0, none⟩))] W fun e w' => ∃ At nt ct, e = .returned (rf At nt ct code) ∧ Ints w' At nt ct (block :: bs) ∧ WrapT w w' (.flt block p :: l) A n c code) := fun W hW => by
    have hch : Chain (block :: bs) code (.flt block p :: l) := ⟨p, l, rfl, HC.out⟩
    have h1 := Told_err hW.good (HE.out.later hW.box.bel) (by have := hch.len; simp only [List.length_cons] at this ⊢; have := HLn.out; have := Hn.out; omega)
    rw [hch.code, hch.blocks] at h1
    refine h1.mono ?_
    rintro e w' ⟨At, nt, ct, rfl, hIt, hb⟩
    exact ⟨At, nt, ct, rfl, hIt, hW.later hb⟩
  have RA : Hid (∀ W, WrapT w W (.flt block p :: l) A n c code → Calls Tryd.prog 15 #[.int .i64 block, .agg #[.slice A n c, .int .i64 code]] W fun e w' => ∃ A2 c2, e = .returned (.agg #[.slice A2 (n + 1) c2, .int .i64 code]) ∧ Ints w' A2 (n + 1) c2 (block :: bs) ∧ Below W.heap.size W w' ∧ WrapT w w' (.flt block p :: l) A n c code) := fun W hW => by
    refine (refAt_err block HC0.out W (HI.out.below hW.box.bel) Hn.out).mono ?_
    rintro e w' ⟨A2, c2, rfl, h1, hb⟩
    exact ⟨A2, c2, rfl, h1, hb, hW.later hb⟩
  have SM : Hid (∀ W At nt ct A2 n2 c2, WrapT w W (.flt block p :: l) A n c code → Ints W At nt ct (block :: bs) → Ints W A2 n2 c2 (block :: bs) → Calls Tryd.prog 9 #[rf At nt ct code, .agg #[.slice A2 n2 c2, .int .i64 code]] W fun e w' => e = .returned (.bool true) ∧ WrapT w w' (.flt block p :: l) A n c code) := fun W At nt ct A2 n2 c2 hW h1 h2 => by
    refine (Flt_same code h1 h2).mono ?_
    rintro e w' ⟨rfl, hb⟩
    exact ⟨rfl, hW.later hb⟩
  have LV : Hid (∀ W, WrapT w W (.flt block p :: l) A n c code → Calls Tryd.prog 7 #[] W fun e w' => e = .returned (.bool true) ∧ WrapT w w' (.flt block p :: l) A n c code) := fun W hW => by
    refine (lives5_any W (HE.out.later hW.box.bel) (HP.out.later hW.box.bel)).mono ?_
    rintro e w' ⟨rfl, hb⟩
    exact ⟨rfl, hW.later hb⟩
  clear OW AT AT1 HG HX H1 hN k1
  go_region_held3 (fun W => W.cell? ⟨w.heap.size, 0, none⟩ = some (.slice A n c) ∧ W.cell? ⟨w.heap.size, 1, none⟩ = some (.int .i64 code))
    (assumption)
    (first
    | (go_at_call 10; (with_reducible refine (TO.out _ (by assumption)).mono ?_); rintro e w5 ⟨At, nt, ct, rfl, hIt, hN5⟩; have hf5 := hN5.facts)
    | (go_at_call 15; (with_reducible refine (RA.out _ (by assumption)).mono ?_); rintro e w6 ⟨A2, c2, rfl, hI2, hb6, hN6⟩; have hf6 := hN6.facts; have hIu := hIt.below hb6; clear hb6)
    | (go_at_call 9; (with_reducible refine (SM.out _ _ _ _ _ _ _ hN6 hIu hI2).mono ?_); rintro e w7 ⟨rfl, hN7⟩; have hf7 := hN7.facts)
    | (go_at_call 7; (with_reducible refine (LV.out _ (by assumption)).mono ?_); rintro e w11 ⟨rfl, hN11⟩; have hf11 := hN11.facts))
  all_goals go_wp2
  all_goals go_ret
  all_goals exact ⟨rfl, hN11.box.bel⟩

set_option maxRecDepth 100000 in
set_option maxHeartbeats 4000000 in
theorem wraps_none {A : Option Addr} {n c : Nat} {bs : List Int} (block : Int) (w : World) (hI : Ints w A n c bs) (hn : n ≤ 300) (hg : ErrT w) (hp : Pow w) :
    Calls Tryd.prog 4 #[.agg #[.slice A n c, .int .i64 0], .int .i64 block] w fun e w' => e = .returned (.bool true) ∧ Below w.heap.size w w' := by
  have HX := Lib.hid (BoxO.first w A n c 0)
  have OW := Lib.hid (fun W => Own_nil A n c W)
  simp only [rf] at OW
  have AT := Lib.hid (fun W => At_nil block W)
  have hle := hI.le
  have HE := Lib.hid hg
  have HP := Lib.hid hp
  clear hI hg hp
  go_enter Tryd.func4, Tryd.ntmps4
  go_wp2_with (first
    | (go_at_call 8; (with_reducible refine (OW.out _).mono ?_); rintro e w1 ⟨rfl, hb1⟩; have H1 := Lib.hid (HX.out.later hb1); have k1 := H1.out.k1; clear hb1)
    | (go_at_call 14; (with_reducible refine (AT.out _).mono ?_); rintro e w2 ⟨rfl, rfl⟩; have hN : WrapT w w1 [] A n c 0 := ⟨H1.out, trivial⟩; have hNd := hN.later ((Below.refl _ _).drew); have f2 := hN.facts))
  have TO : Hid (∀ W, WrapT w W [] A n c 0 → Calls Tryd.prog 10 #[.nilIface] W fun e w' => ∃ At nt ct, e = .returned (rf At nt ct 0) ∧ Ints w' At nt ct [] ∧ WrapT w w' [] A n c 0) := fun W hW => by
    refine (Told_nil W).mono ?_
    rintro e w' ⟨rfl, hb⟩
    exact ⟨none, 0, 0, rfl, Ints.nil _, hW.later hb⟩
  have RA : Hid (∀ W, WrapT w W [] A n c 0 → Calls Tryd.prog 15 #[.int .i64 block, .agg #[.slice A n c, .int .i64 0]] W fun e w' => e = .returned (.agg #[.slice none 0 0, .int .i64 0]) ∧ Below W.heap.size W w' ∧ WrapT w w' [] A n c 0) := fun W hW => by
    refine (refAt_nil block A n c W).mono ?_
    rintro e w' ⟨rfl, hb⟩
    exact ⟨rfl, hb, hW.later hb⟩
  have SM : Hid (∀ W At nt ct, WrapT w W [] A n c 0 → Ints W At nt ct [] → Calls Tryd.prog 9 #[rf At nt ct 0, .agg #[.slice none 0 0, .int .i64 0]] W fun e w' => e = .returned (.bool true) ∧ WrapT w w' [] A n c 0) := fun W At nt ct hW h1 => by
    refine (Flt_same 0 h1 (Ints.nil _)).mono ?_
    rintro e w' ⟨rfl, hb⟩
    exact ⟨rfl, hW.later hb⟩
  have LV : Hid (∀ W, WrapT w W [] A n c 0 → Calls Tryd.prog 7 #[] W fun e w' => e = .returned (.bool true) ∧ WrapT w w' [] A n c 0) := fun W hW => by
    refine (lives5_any W (HE.out.later hW.box.bel) (HP.out.later hW.box.bel)).mono ?_
    rintro e w' ⟨rfl, hb⟩
    exact ⟨rfl, hW.later hb⟩
  clear OW AT HX H1 hN k1
  go_region_held3 (fun W => W.cell? ⟨w.heap.size, 0, none⟩ = some (.slice A n c) ∧ W.cell? ⟨w.heap.size, 1, none⟩ = some (.int .i64 0))
    (assumption)
    (first
    | (go_at_call 10; (with_reducible refine (TO.out _ (by assumption)).mono ?_); rintro e w5 ⟨At, nt, ct, rfl, hIt, hN5⟩; have hf5 := hN5.facts)
    | (go_at_call 15; (with_reducible refine (RA.out _ (by assumption)).mono ?_); rintro e w6 ⟨rfl, hb6, hN6⟩; have hf6 := hN6.facts; have hIu := hIt.below hb6; clear hb6)
    | (go_at_call 9; (with_reducible refine (SM.out _ _ _ _ hN6 hIu).mono ?_); rintro e w7 ⟨rfl, hN7⟩; have hf7 := hN7.facts)
    | (go_at_call 7; (with_reducible refine (LV.out _ (by assumption)).mono ?_); rintro e w11 ⟨rfl, hN11⟩; have hf11 := hN11.facts))
  all_goals go_wp2
  all_goals go_ret
  all_goals exact ⟨rfl, hN11.box.bel⟩

theorem wraps_walk (A : Option Addr) (n c : Nat) (bs : List Int) (code : Int) (block : Int) (w : World) (hI : Ints w A n c bs) (hbd : ∀ b ∈ bs, -9223372036854775808 ≤ b ∧ b ≤ 9223372036854775807) (hcd : -9223372036854775808 ≤ code ∧ code ≤ 9223372036854775807) (_hm : -9223372036854775808 ≤ block ∧ block ≤ 9223372036854775807) (hg : ErrT w) (hp : Pow w) :
    Calls Tryd.prog 4 #[.agg #[.slice A n c, .int .i64 code], .int .i64 block] w fun e w' => e = .returned (.bool true) ∧ Below w.heap.size w w' := by
  by_cases hn : n ≤ 300
  · by_cases hc : code = 0
    · subst hc
      exact wraps_none block w hI hn hg hp
    · exact wraps_some hc block w hI hn hg hp
  · exact wraps_big A n c code block w (by omega) hI.le hg hp
end Go.Proofs.YtjdalgnkkdfnnaaDoor
