/-
  The walk of FaultTells.
-/
import Derived.Test.YtjdalgnkkdfnnaaDoorFltS
namespace Go.Proofs.YtjdalgnkkdfnnaaDoor
open Go.RowKit
set_option linter.unusedVariables false
set_option linter.unusedSimpArgs false

/-- the law's end: its own variable at w0's end, what is wanted at block g, the error -/
structure EndT (w0 W : World) (g : Nat) (l : List Node) (A : Option Addr) (n c : Nat) (code : Int) (A2 : Option Addr) (n2 c2 : Nat) (code2 : Int) : Prop where
  box : BoxO w0 W A n c code
  want : W.heap[g]? = some (.cells #[.slice A2 n2 c2, .int .i64 code2] 24 (0, 0))
  good : Good W l
theorem EndT.later {w0 W W' : World} {g : Nat} {l : List Node} {A : Option Addr} {n c : Nat} {code : Int} {A2 : Option Addr} {n2 c2 : Nat} {code2 : Int} (h : EndT w0 W g l A n c code A2 n2 c2 code2) (hb : Below W.heap.size W W') : EndT w0 W' g l A n c code A2 n2 c2 code2 :=
  ⟨h.box.later hb, (hb.block _ (block_lt h.want)).trans h.want, h.good.below hb⟩
theorem EndT.facts {w0 W : World} {g : Nat} {l : List Node} {A : Option Addr} {n c : Nat} {code : Int} {A2 : Option Addr} {n2 c2 : Nat} {code2 : Int} (h : EndT w0 W g l A n c code A2 n2 c2 code2) :
    W.cell? ⟨g, 0, none⟩ = some (.slice A2 n2 c2) ∧ W.cell? ⟨g, 1, none⟩ = some (.int .i64 code2) ∧ W.cell? ⟨w0.heap.size, 0, none⟩ = some (.slice A n c) ∧ W.cell? ⟨w0.heap.size, 1, none⟩ = some (.int .i64 code) :=
  ⟨by rw [cell_of_row W g 0 _ _ _ h.want]; rfl, by rw [cell_of_row W g 1 _ _ _ h.want]; rfl, h.box.k0, h.box.k1⟩

set_option maxRecDepth 100000 in
set_option maxHeartbeats 4000000 in
theorem tells_big (A : Option Addr) (n c : Nat) (code m : Int) (w : World) (hn : 300 < n) (hle : n ≤ 9223372036854775807) (hg : ErrT w) (hp : Pow w) :
    Calls Tryd.prog 3 #[.agg #[.slice A n c, .int .i64 code], .int .i64 m] w fun e w' => e = .returned (.bool true) ∧ Below w.heap.size w w' := by
  have b1 : Below w.heap.size w (w.alloc (.cells #[.slice A n c, .int .i64 code] 24)) := (Below.refl _ _).alloc (Nat.le_refl _) _
  have LV := Lib.hid (lives5_any _ (hg.later b1) (hp.later b1))
  have HB := Lib.hid b1
  clear hg hp b1
  go_enter Tryd.func3, Tryd.ntmps3
  go_wp2_with (go_at_call 7; (with_reducible refine LV.out.mono ?_); rintro e w1 ⟨rfl, hb⟩)
  go_ret
  exact ⟨rfl, HB.out.trans (hb.mono HB.out.size)⟩

set_option maxRecDepth 100000 in
set_option maxHeartbeats 4000000 in
theorem tells_some {A : Option Addr} {n c : Nat} {bs : List Int} {code : Int} (hc : code ≠ 0) (m : Int) (r : Bool) (hr : r = decide (code = m)) (hr2 : (m == code) = r) (w : World) (hI : Ints w A n c bs) (hn : n ≤ 300) (hbd : ∀ b ∈ bs, -9223372036854775808 ≤ b ∧ b ≤ 9223372036854775807) (hcd : -9223372036854775808 ≤ code ∧ code ≤ 9223372036854775807) (hg : ErrT w) (hp : Pow w) :
    Calls Tryd.prog 3 #[.agg #[.slice A n c, .int .i64 code], .int .i64 m] w fun e w' => e = .returned (.bool true) ∧ Below w.heap.size w w' := by
  have HX := Lib.hid (BoxO.first w A n c code)
  have HI := Lib.hid hI
  have OW := Lib.hid (fun W h => Own_chain (A := A) (n := n) (c := c) (bs := bs) (w := W) hc h)
  have hlen := hI.len
  have hle := hI.le
  have hcb : (code == 0) = false := by simpa using hc
  have HC0 := Lib.hid hc
  have HBd := Lib.hid hbd
  have HCd := Lib.hid hcd
  have HLn := Lib.hid hlen
  have HR := Lib.hid hr
  have HE := Lib.hid hg
  have HP := Lib.hid hp
  have Hn := Lib.hid hn
  clear hI hc hlen hbd hcd hr hg hp
  go_enter Tryd.func3, Tryd.ntmps3
  go_wp2_with (go_at_call 8; (with_reducible refine (OW.out _ (HI.out.below HX.out.bel)).mono ?_); rintro e w1 ⟨l, tv, uv, rfl, hv, hC, hG, hb1⟩; have H1 := Lib.hid (HX.out.later hb1); have HC := Lib.hid hC; have HG := Lib.hid hG; have HV := Lib.hid hv; have k0 := H1.out.k0; have k1 := H1.out.k1; have H2 := Lib.hid (H1.out.later ((Below.refl _ _).alloc (Nat.le_refl _) (.cells #[.slice A n c, .int .i64 code] 24))); have k3 := H2.out.k1; clear hb1 hC hG hv)
  have hN : EndT w (w1.alloc (.cells #[.slice A n c, .int .i64 code] 24)) w1.heap.size l A n c code A n c code :=
    ⟨H2.out, (MapKept.heap_alloc w1 _).1, HG.out.below ((Below.refl _ _).alloc (Nat.le_refl _) _)⟩
  have hNd := hN.later ((Below.refl _ _).drew)
  generalize w1.alloc (.cells #[.slice A n c, .int .i64 code] 24) = w2 at *
  clear hN k3 k0 k1 H1 H2 HG HX
  have FC := hNd.facts
  have hcn : Hid (∀ W, EndT w W w1.heap.size l A n c code A n c code → Calls Tryd.prog 10 #[.iface tv uv] W fun e w' => ∃ At nt ct, e = .returned (rf At nt ct code) ∧ Ints w' At nt ct bs ∧ EndT w w' w1.heap.size l A n c code A n c code) := fun W hW => by
    have h1 := Told_any (f := (bs, code)) (l := l) (.inr ⟨HC0.out, HC.out⟩) (by show bs.length ≤ 999999; have := HLn.out; have := Hn.out; omega) (fun h => absurd h HC0.out) W hW.good (HE.out.later hW.box.bel)
    rw [HV.out] at h1
    refine h1.mono ?_
    rintro e w' ⟨At, nt, ct, rfl, hIt, hb⟩
    exact ⟨At, nt, ct, rfl, hIt, hW.later hb⟩
  have SM : Hid (∀ W At nt ct, EndT w W w1.heap.size l A n c code A n c code → Ints W At nt ct bs → Calls Tryd.prog 9 #[rf At nt ct code, .agg #[.slice A n c, .int .i64 code]] W fun e w' => e = .returned (.bool true) ∧ EndT w w' w1.heap.size l A n c code A n c code) := fun W At nt ct hW h1 => by
    refine (Flt_same code h1 (HI.out.below hW.box.bel)).mono ?_
    rintro e w' ⟨rfl, hb⟩
    exact ⟨rfl, hW.later hb⟩
  have TX : Hid (∀ W, EndT w W w1.heap.size l A n c code A n c code → Calls Tryd.prog 11 #[.iface tv uv] W fun e w' => e = .returned (str (textL bs code)) ∧ EndT w w' w1.heap.size l A n c code A n c code) := fun W hW => by
    have hne := HC.out.ne
    have hln := HC.out.len
    have htx := HC.out.text
    have hft := HC.out.fits HBd.out HCd.out
    have hgd := hW.good
    have hvv := HV.out
    cases l with
    | nil => exact absurd rfl hne
    | cons x l =>
      have h1 := Text_err hgd hft (HP.out.later hW.box.bel) (by have := HLn.out; have := Hn.out; omega)
      rw [hvv, htx] at h1
      refine h1.mono ?_
      rintro e w' ⟨rfl, hb⟩
      exact ⟨rfl, hW.later hb⟩
  have RT : Hid (∀ W, EndT w W w1.heap.size l A n c code A n c code → Calls Tryd.prog 12 #[.agg #[.slice A n c, .int .i64 code]] W fun e w' => e = .returned (str (textL bs code)) ∧ EndT w w' w1.heap.size l A n c code A n c code) := fun W hW => by
    refine (refText_err HC0.out W (HI.out.below hW.box.bel) Hn.out HBd.out HCd.out).mono ?_
    rintro e w' ⟨rfl, hb⟩
    exact ⟨rfl, hW.later hb⟩
  have IS : Hid (∀ W, EndT w W w1.heap.size l A n c code A n c code → Calls Tryd.prog 13 #[.iface tv uv, .int .i64 m] W fun e w' => e = .returned (.bool r) ∧ EndT w w' w1.heap.size l A n c code A n c code) := fun W hW => by
    have hne := HC.out.ne
    have han := HC.out.ans
    have hgd := hW.good
    have hvv := HV.out
    cases l with
    | nil => exact absurd rfl hne
    | cons x l =>
      have h1 := Is_err m hgd
      rw [hvv, han] at h1
      refine h1.mono ?_
      rintro e w' ⟨rfl, hb⟩
      refine ⟨?_, hW.later hb⟩
      rw [HR.out]
      simp
  have IS2 : Hid (∀ W, EndT w W w1.heap.size l A n c code A n c code → Calls Tryd.prog 13 #[.iface tv uv, .int .i64 code] W fun e w' => e = .returned (.bool true) ∧ EndT w w' w1.heap.size l A n c code A n c code) := fun W hW => by
    have hne := HC.out.ne
    have han := HC.out.ans
    have hgd := hW.good
    have hvv := HV.out
    cases l with
    | nil => exact absurd rfl hne
    | cons x l =>
      have h1 := Is_err code hgd
      rw [hvv, han] at h1
      refine h1.mono ?_
      rintro e w' ⟨rfl, hb⟩
      exact ⟨by simp, hW.later hb⟩
  have LV : Hid (∀ W, EndT w W w1.heap.size l A n c code A n c code → Calls Tryd.prog 7 #[] W fun e w' => e = .returned (.bool true) ∧ EndT w w' w1.heap.size l A n c code A n c code) := fun W hW => by
    refine (lives5_any W (HE.out.later hW.box.bel) (HP.out.later hW.box.bel)).mono ?_
    rintro e w' ⟨rfl, hb⟩
    exact ⟨rfl, hW.later hb⟩
  have eT := run_text_eq (textL bs code)
  have gs := guard_str
  clear OW
  generalize textL bs code = TT at *
  go_region_held3 (fun W => W.cell? ⟨w1.heap.size, 0, none⟩ = some (.slice A n c) ∧ W.cell? ⟨w1.heap.size, 1, none⟩ = some (.int .i64 code) ∧ W.cell? ⟨w.heap.size, 0, none⟩ = some (.slice A n c) ∧ W.cell? ⟨w.heap.size, 1, none⟩ = some (.int .i64 code))
    (assumption)
    (first
    | (go_at_call 10; (with_reducible refine (hcn.out _ (by assumption)).mono ?_); rintro e w5 ⟨At, nt, ct, rfl, hIt, hN5⟩; have hf5 := hN5.facts)
    | (go_at_call 9; (with_reducible refine (SM.out _ _ _ _ hN5 hIt).mono ?_); rintro e w6 ⟨rfl, hN6⟩; have hf6 := hN6.facts)
    | (go_at_call 11; (with_reducible refine (TX.out _ (by assumption)).mono ?_); rintro e w7 ⟨rfl, hN7⟩; have hf7 := hN7.facts)
    | (go_at_call 12; (with_reducible refine (RT.out _ (by assumption)).mono ?_); rintro e w8 ⟨rfl, hN8⟩; have hf8 := hN8.facts)
    | (go_at_call 13; first
        | ((with_reducible refine (IS.out _ (by assumption)).mono ?_); rintro e w9 ⟨rfl, hN9⟩; have hf9 := hN9.facts)
        | ((with_reducible refine (IS2.out _ (by assumption)).mono ?_); rintro e w10 ⟨rfl, hN10⟩; have hf10 := hN10.facts))
    | (go_at_call 7; (with_reducible refine (LV.out _ (by assumption)).mono ?_); rintro e w11 ⟨rfl, hN11⟩; have hf11 := hN11.facts))
  all_goals go_wp2
  all_goals go_ret
  all_goals exact ⟨rfl, hN11.box.bel⟩
set_option maxRecDepth 100000 in
set_option maxHeartbeats 4000000 in
theorem tells_none {A : Option Addr} {n c : Nat} {bs : List Int} (m : Int) (r : Bool) (hr2 : (m == 0) = r) (w : World) (hI : Ints w A n c bs) (hn : n ≤ 300) (hg : ErrT w) (hp : Pow w) :
    Calls Tryd.prog 3 #[.agg #[.slice A n c, .int .i64 0], .int .i64 m] w fun e w' => e = .returned (.bool true) ∧ Below w.heap.size w w' := by
  have HX := Lib.hid (BoxO.first w A n c 0)
  have OW := Lib.hid (fun W => Own_nil A n c W)
  simp only [rf] at OW
  have hle := hI.le
  have HR := Lib.hid hr2
  have HE := Lib.hid hg
  have HP := Lib.hid hp
  clear hI hg hp
  go_enter Tryd.func3, Tryd.ntmps3
  go_wp2_with (go_at_call 8; (with_reducible refine (OW.out _).mono ?_); rintro e w1 ⟨rfl, hb1⟩; have H1 := Lib.hid (HX.out.later hb1); have k0 := H1.out.k0; have k1 := H1.out.k1; have H2 := Lib.hid (H1.out.later ((Below.refl _ _).alloc (Nat.le_refl _) (.cells #[.slice A n c, .int .i64 0] 24))); have k3 := H2.out.k1; have H4 := Lib.hid (H1.out.later ((Below.refl _ _).alloc (Nat.le_refl _) (.cells #[.slice none 0 0, .int .i64 0] 24))); have k4 := H4.out.k1; clear hb1)
  have hN : EndT w (w1.alloc (.cells #[.slice none 0 0, .int .i64 0] 24)) w1.heap.size [] A n c 0 none 0 0 0 :=
    ⟨H4.out, (MapKept.heap_alloc w1 _).1, trivial⟩
  have hNd := hN.later ((Below.refl _ _).drew)
  generalize w1.alloc (.cells #[.slice none 0 0, .int .i64 0] 24) = w2 at *
  clear hN k3 k0 k1 k4 H1 H2 H4 HX
  have FC := hNd.facts
  have hcn : Hid (∀ W, EndT w W w1.heap.size [] A n c 0 none 0 0 0 → Calls Tryd.prog 10 #[.nilIface] W fun e w' => ∃ At nt ct, e = .returned (rf At nt ct 0) ∧ Ints w' At nt ct [] ∧ EndT w w' w1.heap.size [] A n c 0 none 0 0 0) := fun W hW => by
    refine (Told_nil W).mono ?_
    rintro e w' ⟨rfl, hb⟩
    exact ⟨none, 0, 0, rfl, Ints.nil _, hW.later hb⟩
  have SM : Hid (∀ W At nt ct, EndT w W w1.heap.size [] A n c 0 none 0 0 0 → Ints W At nt ct [] → Calls Tryd.prog 9 #[rf At nt ct 0, .agg #[.slice none 0 0, .int .i64 0]] W fun e w' => e = .returned (.bool true) ∧ EndT w w' w1.heap.size [] A n c 0 none 0 0 0) := fun W At nt ct hW h1 => by
    refine (Flt_same 0 h1 (Ints.nil _)).mono ?_
    rintro e w' ⟨rfl, hb⟩
    exact ⟨rfl, hW.later hb⟩
  have TX : Hid (∀ W, EndT w W w1.heap.size [] A n c 0 none 0 0 0 → Calls Tryd.prog 11 #[.nilIface] W fun e w' => e = .returned (str []) ∧ EndT w w' w1.heap.size [] A n c 0 none 0 0 0) := fun W hW => by
    refine (Text_nil W).mono ?_
    rintro e w' ⟨rfl, rfl⟩
    exact ⟨rfl, hW⟩
  have RT : Hid (∀ W, EndT w W w1.heap.size [] A n c 0 none 0 0 0 → Calls Tryd.prog 12 #[.agg #[.slice A n c, .int .i64 0]] W fun e w' => e = .returned (str []) ∧ EndT w w' w1.heap.size [] A n c 0 none 0 0 0) := fun W hW => by
    refine (refText_nil A n c W).mono ?_
    rintro e w' ⟨rfl, hb⟩
    exact ⟨rfl, hW.later hb⟩
  have IS : Hid (∀ W, EndT w W w1.heap.size [] A n c 0 none 0 0 0 → Calls Tryd.prog 13 #[.nilIface, .int .i64 m] W fun e w' => e = .returned (.bool r) ∧ EndT w w' w1.heap.size [] A n c 0 none 0 0 0) := fun W hW => by
    refine (Is_nil m W).mono ?_
    rintro e w' ⟨rfl, hb⟩
    exact ⟨by rw [HR.out], hW.later hb⟩
  have IS2 : Hid (∀ W, EndT w W w1.heap.size [] A n c 0 none 0 0 0 → Calls Tryd.prog 13 #[.nilIface, .int .i64 0] W fun e w' => e = .returned (.bool true) ∧ EndT w w' w1.heap.size [] A n c 0 none 0 0 0) := fun W hW => by
    refine (Is_nil 0 W).mono ?_
    rintro e w' ⟨rfl, hb⟩
    exact ⟨rfl, hW.later hb⟩
  have LV : Hid (∀ W, EndT w W w1.heap.size [] A n c 0 none 0 0 0 → Calls Tryd.prog 7 #[] W fun e w' => e = .returned (.bool true) ∧ EndT w w' w1.heap.size [] A n c 0 none 0 0 0) := fun W hW => by
    refine (lives5_any W (HE.out.later hW.box.bel) (HP.out.later hW.box.bel)).mono ?_
    rintro e w' ⟨rfl, hb⟩
    exact ⟨rfl, hW.later hb⟩
  have eT := run_text_eq []
  have gs := guard_str
  clear OW
  generalize ([] : List UInt8) = TT at TX RT eT
  go_region_held3 (fun W => W.cell? ⟨w1.heap.size, 0, none⟩ = some (.slice none 0 0) ∧ W.cell? ⟨w1.heap.size, 1, none⟩ = some (.int .i64 0) ∧ W.cell? ⟨w.heap.size, 0, none⟩ = some (.slice A n c) ∧ W.cell? ⟨w.heap.size, 1, none⟩ = some (.int .i64 0))
    (assumption)
    (first
    | (go_at_call 10; (with_reducible refine (hcn.out _ (by assumption)).mono ?_); rintro e w5 ⟨At, nt, ct, rfl, hIt, hN5⟩; have hf5 := hN5.facts)
    | (go_at_call 9; (with_reducible refine (SM.out _ _ _ _ hN5 hIt).mono ?_); rintro e w6 ⟨rfl, hN6⟩; have hf6 := hN6.facts)
    | (go_at_call 11; (with_reducible refine (TX.out _ (by assumption)).mono ?_); rintro e w7 ⟨rfl, hN7⟩; have hf7 := hN7.facts)
    | (go_at_call 12; (with_reducible refine (RT.out _ (by assumption)).mono ?_); rintro e w8 ⟨rfl, hN8⟩; have hf8 := hN8.facts)
    | (go_at_call 13; first
        | ((with_reducible refine (IS.out _ (by assumption)).mono ?_); rintro e w9 ⟨rfl, hN9⟩; have hf9 := hN9.facts)
        | ((with_reducible refine (IS2.out _ (by assumption)).mono ?_); rintro e w10 ⟨rfl, hN10⟩; have hf10 := hN10.facts))
    | (go_at_call 7; (with_reducible refine (LV.out _ (by assumption)).mono ?_); rintro e w11 ⟨rfl, hN11⟩; have hf11 := hN11.facts))
  all_goals go_wp2
  all_goals go_ret
  all_goals exact ⟨rfl, hN11.box.bel⟩

theorem tells_walk (A : Option Addr) (n c : Nat) (bs : List Int) (code : Int) (m : Int) (w : World) (hI : Ints w A n c bs) (hbd : ∀ b ∈ bs, -9223372036854775808 ≤ b ∧ b ≤ 9223372036854775807) (hcd : -9223372036854775808 ≤ code ∧ code ≤ 9223372036854775807) (_hm : -9223372036854775808 ≤ m ∧ m ≤ 9223372036854775807) (hg : ErrT w) (hp : Pow w) :
    Calls Tryd.prog 3 #[.agg #[.slice A n c, .int .i64 code], .int .i64 m] w fun e w' => e = .returned (.bool true) ∧ Below w.heap.size w w' := by
  by_cases hn : n ≤ 300
  · by_cases hc : code = 0
    · subst hc
      exact tells_none m _ rfl w hI hn hg hp
    · refine tells_some hc m _ rfl ?_ w hI hn hbd hcd hg hp
      by_cases h : code = m
      · subst h; simp
      · have h2 : ¬ m = code := fun e => h e.symm
        simp [h, h2]
  · exact tells_big A n c code m w (by omega) hI.le hg hp
end Go.Proofs.YtjdalgnkkdfnnaaDoor
