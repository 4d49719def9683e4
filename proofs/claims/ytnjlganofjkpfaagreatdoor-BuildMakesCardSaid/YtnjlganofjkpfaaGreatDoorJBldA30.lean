/-
  Joined: FltM, FltN, FltO, FltP, FltQ, FltR.
-/
import Derived.Test.YtnjlganofjkpfaaGreatDoorJBldA20
import Derived.Test.YtnjlganofjkpfaaGreatDoorJBldA29
import Derived.LoopTactic
import Derived.Test.YtnjlganofjkpfaaGreatDoorJBldA16
import Derived.Laws.BytesArg
import Derived.Deep.DeepFit
import Derived.Deep.DeepMust
/-
  fault.Text.
-/
namespace Go.Proofs.YtnjlganofjkpfaaGreatDoor
open Go.RowKit
set_option linter.unusedVariables false
set_option linter.unusedSimpArgs false

end Go.Proofs.YtnjlganofjkpfaaGreatDoor

/-
  fault.Text: its loop.
-/
namespace Go.Proofs.YtnjlganofjkpfaaGreatDoor
open Go.RowKit
set_option linter.unusedVariables false
set_option linter.unusedSimpArgs false

end Go.Proofs.YtnjlganofjkpfaaGreatDoor

/-
  fault.At, fault.First; the law's Own.
-/
namespace Go.Proofs.YtnjlganofjkpfaaGreatDoor
open Go.RowKit
set_option linter.unusedVariables false
set_option linter.unusedSimpArgs false

theorem Good.lower {w : World} : ∀ {l : List Node}, Good w l → Lower w.heap.size l
  | [], _ => fun b q h => by cases h
  | .flt b p :: l, ⟨h1, h2, h3, h4⟩ => fun c q h => by
    rcases List.mem_cons.1 h with h | h
    · injection h with h5 h6; subst h6; exact block_lt h1
    · exact Good.lower h4 c q h
  | .num n :: l, h => fun c q h2 => by
    have h : l = [] := h
    subst h
    rcases List.mem_cons.1 h2 with h2 | h2
    · cases h2
    · cases h2

/-- a Fault around an error -/
theorem Good.wrap {w : World} {l : List Node} (h : Good w l) (hne : l ≠ []) (b : Int) : Good (w.alloc (.cells #[.int .i64 b, val l] 119)) (.flt b w.heap.size :: l) :=
  ⟨(MapKept.heap_alloc w _).1, h.lower, hne, h.below ((Below.refl _ _).alloc (Nat.le_refl _) _)⟩

set_option maxRecDepth 100000 in
theorem At_err (b : Int) {l : List Node} (hne : l ≠ []) {w : World} (hG : Good w l) :
    Calls Tryz.prog 113 #[.int .i64 b, val l] w fun e w' => ∃ p, e = .returned (val (.flt b p :: l)) ∧ Good w' (.flt b p :: l) ∧ Below w.heap.size w w' := by
  have HW := Lib.hid (hG.wrap hne b)
  obtain ⟨t, u, hv⟩ : ∃ t u, val l = .iface t u := by
    cases l with
    | nil => exact absurd rfl hne
    | cons x l => cases x <;> exact ⟨_, _, rfl⟩
  have hb := build_fault b (isI_val l)
  rw [hv] at HW hb ⊢
  clear hv hG
  go_enter Tryz.func113, Tryz.ntmps113
  go_wp2
  go_ret
  exact ⟨_, rfl, HW.out, (Below.refl _ _).alloc (Nat.le_refl _) _⟩

/-- the law's chain: blocks, and a number behind them -/
def Chain : List Int → Int → List Node → Prop
  | [], code, l => l = [.num code]
  | b :: bs, code, l => ∃ p l', l = .flt b p :: l' ∧ Chain bs code l'

theorem Chain.ne : ∀ {bs : List Int} {code : Int} {l : List Node}, Chain bs code l → l ≠ []
  | [], _, _, h => by rw [show _ = _ from h]; simp
  | _ :: _, _, _, ⟨p, l', h, _⟩ => by rw [h]; simp
theorem Chain.blocks : ∀ {bs : List Int} {code : Int} {l : List Node}, Chain bs code l → blocksOf l = bs
  | [], _, _, h => by rw [show _ = _ from h]; rfl
  | _ :: _, _, _, ⟨p, l', h, h2⟩ => by rw [h]; simp [blocksOf, h2.blocks]
theorem Chain.ans : ∀ {bs : List Int} {code : Int} {l : List Node}, Chain bs code l → ans l = some code
  | [], _, _, h => by rw [show _ = _ from h]; rfl
  | _ :: _, _, _, ⟨p, l', h, h2⟩ => by rw [h]; exact h2.ans
theorem Chain.len : ∀ {bs : List Int} {code : Int} {l : List Node}, Chain bs code l → l.length = bs.length + 1
  | [], _, _, h => by rw [show _ = _ from h]; rfl
  | _ :: _, _, _, ⟨p, l', h, h2⟩ => by rw [h]; simp [h2.len]
theorem Chain.code {bs : List Int} {code : Int} {l : List Node} (h : Chain bs code l) : codeOf l = code := by
  have h1 := h.ans
  cases l with
  | nil => exact absurd rfl h.ne
  | cons x l => simp only [codeOf, h1]

/-- a struct of blocks and a number, as a value -/
def rf (A : Option Addr) (n c : Nat) (code : Int) : Value := .agg #[.slice A n c, .int .i64 code]

end Go.Proofs.YtnjlganofjkpfaaGreatDoor

/-
  fault.First; the law's Told; the reference's Same and At.
-/
namespace Go.Proofs.YtnjlganofjkpfaaGreatDoor
open Go.RowKit
set_option linter.unusedVariables false
set_option linter.unusedSimpArgs false

/-- errors in a row -/
structure Errs (w : World) (A : Option Addr) (n c : Nat) (ls : List (List Node)) : Prop where
  len : ls.length = n
  cap : n ≤ c
  most : c ≤ 9223372036854775807
  row : Row w A (ls.map val)
theorem Errs.below {w w' : World} {A : Option Addr} {n c : Nat} {ls : List (List Node)} (h : Errs w A n c ls) (hb : Below w.heap.size w w') : Errs w' A n c ls := ⟨h.len, h.cap, h.most, h.row.below hb⟩

/-- the first that is not none -/
def firstOf : List (List Node) → List Node
  | [] => []
  | [] :: ls => firstOf ls
  | (x :: l) :: _ => x :: l

theorem results_rf {fn : Func} {p : Tmp} (h : fn.results = #[.cell p 33]) (tmps : Array Value) (w : World) (g : Nat) (a b : Value)
    (hp : tmps.getD p undef = .pointer (some ⟨g, 0, none⟩)) (hg : w.heap[g]? = some (.cells #[a, b] 33 (0, 0))) : (results fn tmps).run Tryz.prog w = .ok (.agg #[a, b]) w :=
  results_cell_row h tmps w g _ #[a, b] (0, 0) _ hp hg Tryz.underlying33 rfl (by kernel_rfl)

set_option maxRecDepth 100000 in
theorem Told_nil (w : World) :
    Calls Tryz.prog 14 #[.nilIface] w fun e w' => e = .returned (rf none 0 0 0) ∧ Below w.heap.size w w' := by
  simp only [rf]
  go_enter Tryz.func14, Tryz.ntmps14
  go_wp2
  refine bodyPost_ret (results_rf Tryz.results14 _ _ w.heap.size (.slice none 0 0) (.int .i64 0) rfl (MapKept.heap_alloc w _).1) rfl ?_
  exact ⟨rfl, (Below.refl _ _).alloc (Nat.le_refl _) _⟩

theorem two_sets {w : World} {g : Nat} {t : TypeId} {a b c d : Value} (h : w.heap[g]? = some (.cells #[a, b] t (0, 0))) : ((w.setCell ⟨g, 0, none⟩ c).setCell ⟨g, 1, none⟩ d).heap[g]? = some (.cells #[c, d] t (0, 0)) := by
  have h1 : Blk w g t [a, b] := h
  exact (h1.set 0 c).set 1 d

theorem Ints.kept2 {w : World} {A : Option Addr} {n c g : Nat} {l : List Int} {x y : Value} (h : Ints w A n c l) (hf : ∀ ad, A = some ad → g < ad.block) : Ints ((w.setCell ⟨g, 0, none⟩ x).setCell ⟨g, 1, none⟩ y) A n c l :=
  ⟨h.len, h.cap, h.most, fun k v hk => by
    obtain ⟨ad, e, hc⟩ := h.row k v hk
    refine ⟨ad, e, ?_⟩
    have := hf ad e
    have hb : (ad.add k).block = ad.block := addr_add_block ad k
    rw [World.cell?_of_block (w := w) (by rw [Below.heap_setCell _ _ _ _ (by show (ad.add k).block ≠ g; omega), Below.heap_setCell _ _ _ _ (by show (ad.add k).block ≠ g; omega)])]
    exact hc⟩

set_option maxRecDepth 100000 in
theorem Told_err {x : Node} {l : List Node} {w : World} (hG : Good w (x :: l)) (hg : ErrT w) (hlen : (x :: l).length ≤ 1000000) :
    Calls Tryz.prog 14 #[val (x :: l)] w fun e w' => ∃ A n c, e = .returned (rf A n c (codeOf (x :: l))) ∧ Ints w' A n c (blocksOf (x :: l)) ∧ Below w.heap.size w w' := by
  simp only [rf]
  have BL := Lib.hid (fun W (h : Good W (x :: l)) => Blocks_any h hlen)
  have CO := Lib.hid (fun W (h : Good W (x :: l)) (h2 : ErrT W) => Code_err h h2)
  have HG := Lib.hid hG
  have HE := Lib.hid hg
  obtain ⟨t, u, hv⟩ : ∃ t u, val (x :: l) = .iface t u := by cases x <;> exact ⟨_, _, rfl⟩
  rw [hv] at BL CO ⊢
  generalize codeOf (x :: l) = code at *
  generalize blocksOf (x :: l) = bs at *
  clear hG hg hlen hv
  have b1 : Below w.heap.size w (w.alloc (.cells #[.slice none 0 0, .int .i64 0] 33)) := (Below.refl _ _).alloc (Nat.le_refl _) _
  have HB1 := Lib.hid b1
  have hh1 := (MapKept.heap_alloc w (.cells #[.slice none 0 0, .int .i64 0] 33)).1
  have HH1 := Lib.hid hh1
  clear b1 hh1
  go_enter Tryz.func14, Tryz.ntmps14
  go_wp2_with (first
    | (go_at_call 39; (with_reducible refine (BL.out _ (HG.out.below HB1.out)).mono ?_); rintro e w1 ⟨A, n, c, rfl, hI, hb, hfr⟩; have HFr := Lib.hid hfr; clear hfr; have H1 := Lib.hid (HB1.out.trans (hb.mono HB1.out.size)); have HI1 := Lib.hid hI; have hh2 := (hb.block _ (block_lt HH1.out)).trans HH1.out; clear hI hb)
    | (go_at_call 11; (with_reducible refine (CO.out _ (HG.out.below H1.out) (HE.out.later H1.out)).mono ?_); rintro e w2 ⟨rfl, hb⟩; have H2 := Lib.hid (H1.out.trans (hb.mono H1.out.size)); have HI2 := Lib.hid (HI1.out.below hb); have hh3 := (hb.block _ (block_lt hh2)).trans hh2; have HH3 := Lib.hid hh3; have k0 : w2.cell? ⟨w.heap.size, 0, none⟩ = some (.slice none 0 0) := (by rw [cell_of_row w2 w.heap.size 0 _ _ _ hh3]; rfl); have k1 : w2.cell? ⟨w.heap.size, 1, none⟩ = some (.int .i64 0) := (by rw [cell_of_row w2 w.heap.size 1 _ _ _ hh3]; rfl); have f0 := Lib.frozen_of_heap hh3 0; have f1 := Lib.frozen_of_heap hh3 1; clear hb hh2 hh3))
  refine bodyPost_ret (results_rf Tryz.results14 _ _ w.heap.size (.slice A n c) (.int .i64 code) rfl (two_sets HH3.out)) rfl ?_
  refine ⟨A, n, c, rfl, ?_, (H2.out.setCell (p := ⟨w.heap.size, 0, none⟩) (Nat.le_refl _) _).setCell (p := ⟨w.heap.size, 1, none⟩) (Nat.le_refl _) _⟩
  refine HI2.out.kept2 fun ad e => ?_
  have := HFr.out ad e
  simp at this
  omega
end Go.Proofs.YtnjlganofjkpfaaGreatDoor

/-
  The reference's Same; the document's example.
-/
namespace Go.Proofs.YtnjlganofjkpfaaGreatDoor
open Go.RowKit
set_option linter.unusedVariables false
set_option linter.unusedSimpArgs false

set_option maxRecDepth 100000 in
set_option maxHeartbeats 1000000 in
theorem Flt_same {A A2 : Option Addr} {n c n2 c2 : Nat} {l : List Int} (x : Int) {w : World} (h : Ints w A n c l) (h2 : Ints w A2 n2 c2 l) :
    Calls Tryz.prog 13 #[rf A n c x, rf A2 n2 c2 x] w fun e w' => e = .returned (.bool true) ∧ Below w.heap.size w w' := by
  obtain rfl : n = n2 := h.len.symm.trans h2.len
  simp only [rf]
  have hn := h.le
  have HL := Lib.hid h.len
  have HI := Lib.hid h
  have HI2 := Lib.hid h2
  clear h h2
  have b1 : Below w.heap.size w (w.alloc (.cells #[.slice A n c, .int .i64 x] 33)) := (Below.refl _ _).alloc (Nat.le_refl _) _
  have b2 : Below w.heap.size w ((w.alloc (.cells #[.slice A n c, .int .i64 x] 33)).alloc (.cells #[.slice A2 n c2, .int .i64 x] 33)) := b1.alloc b1.size _
  have hsz : (w.alloc (.cells #[.slice A n c, .int .i64 x] 33)).heap.size = w.heap.size + 1 := by simp
  have h0 : ((w.alloc (.cells #[.slice A n c, .int .i64 x] 33)).alloc (.cells #[.slice A2 n c2, .int .i64 x] 33)).heap[w.heap.size]? = some (.cells #[.slice A n c, .int .i64 x] 33 (0, 0)) := (Below.heap_alloc _ _ _ (by omega)).trans (MapKept.heap_alloc w _).1
  have h1 := (MapKept.heap_alloc (w.alloc (.cells #[.slice A n c, .int .i64 x] 33)) (.cells #[.slice A2 n c2, .int .i64 x] 33)).1
  rw [hsz] at h1
  have B2 := Lib.hid b2
  have H0 := Lib.hid h0
  have H1 := Lib.hid h1
  clear b1 b2 hsz h0 h1
  go_enter Tryz.func13, Tryz.ntmps13
  go_wp2
  go_loopw [5] (fun i wr => ∃ k : Nat, k ≤ n ∧ i = .int .i64 k ∧ Hid (Below (w.heap.size + 2) ((w.alloc (.cells #[.slice A n c, .int .i64 x] 33)).alloc (.cells #[.slice A2 n c2, .int .i64 x] 33)) wr)) (fun i _ => n - (intOf i).toNat)
  case atStart => exact ⟨0, by omega, rfl, Below.refl _ _⟩
  case round =>
    obtain ⟨k, hk, rfl, HB⟩ := hrel
    have g0 := (HB.out.block _ (by omega)).trans H0.out
    have g1 := (HB.out.block _ (by omega)).trans H1.out
    have k0 : wr.cell? ⟨w.heap.size, 0, none⟩ = some (.slice A n c) := by rw [cell_of_row wr w.heap.size 0 _ _ _ g0]; rfl
    have k1 : wr.cell? ⟨w.heap.size + 1, 0, none⟩ = some (.slice A2 n c2) := by rw [cell_of_row wr (w.heap.size + 1) 0 _ _ _ g1]; rfl
    have hbel := B2.out.trans (HB.out.mono (by omega))
    have HBel := Lib.hid hbel
    clear g0 g1
    by_cases hlt : k < n
    · have hkl : k < l.length := by have := HL.out; omega
      obtain ⟨b, off, rfl, hb, hcell⟩ := HI.out.row.lit (by rw [i64s_length]; omega)
      obtain ⟨b2, off2, rfl, hb2, hcell2⟩ := HI2.out.row.lit (by rw [i64s_length]; omega)
      have hc0 : wr.cell? ⟨b, off + k, none⟩ = some (.int .i64 l[k]) := (hbel.cell (p := ⟨b, off + k, none⟩) hb).trans (hcell _ _ (i64s_at l k hkl))
      have hc2 : wr.cell? ⟨b2, off2 + k, none⟩ = some (.int .i64 l[k]) := (hbel.cell (p := ⟨b2, off2 + k, none⟩) hb2).trans (hcell2 _ _ (i64s_at l k hkl))
      clear hcell hcell2 hbel
      generalize l[k] = a at *
      go_wp2
      go_quiet (fail)
      go_wp2
      go_roundw
      case rel => exact ⟨k + 1, by omega, by go_num, below_drewN HB.out _⟩
      case measure => simp only [intOf]; omega
    · go_wp2
      go_ret
      exact ⟨rfl, HBel.out⟩

end Go.Proofs.YtnjlganofjkpfaaGreatDoor

/-
  The reference's Digits.
-/
namespace Go.Proofs.YtnjlganofjkpfaaGreatDoor
open Go.RowKit
set_option linter.unusedVariables false
set_option linter.unusedSimpArgs false

end Go.Proofs.YtnjlganofjkpfaaGreatDoor
