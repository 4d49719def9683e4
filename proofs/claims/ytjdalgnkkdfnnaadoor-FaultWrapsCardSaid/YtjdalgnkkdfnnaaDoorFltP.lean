/-
  fault.First; the law's Told; the reference's Same and At.
-/
import Derived.Test.YtjdalgnkkdfnnaaDoorFltO
namespace Go.Proofs.YtjdalgnkkdfnnaaDoor
open Go.RowKit
set_option linter.unusedVariables false
set_option linter.unusedSimpArgs false

/-- errors in a row -/
structure Errs (w : World) (A : Option Addr) (n c : Nat) (ls : List (List Node)) : Prop where
  len : ls.length = n
  cap : n ≤ c
  most : c ≤ 9223372036854775807
  row : Row w A (ls.map val)
theorem Errs.below {w w' : World} {A : Option Addr} {n c : Nat} {ls : List (List Node)} (h : Errs w A n c ls) (hb : Below w.heap.size w w') : Errs w' A n c ls := ⟨h.len, h.cap, h.most, h.row.below hb⟩

/-- the first that is not none -/
def firstOf : List (List Node) → List Node
  | [] => []
  | [] :: ls => firstOf ls
  | (x :: l) :: _ => x :: l

set_option maxRecDepth 100000 in
theorem First_any {A : Option Addr} {n c : Nat} {ls : List (List Node)} {w : World} (hE : Errs w A n c ls) :
    Calls Tryd.prog 16 #[.slice A n c] w fun e w' => e = .returned (val (firstOf ls)) ∧ w = w' := by
  have hlen := hE.len
  have hle : n ≤ 9223372036854775807 := Nat.le_trans hE.cap hE.most
  have HE := Lib.hid hE
  have HLn := Lib.hid hlen
  clear hE hlen
  have HF : Hid (firstOf (ls.drop 0) = firstOf ls) := rfl
  go_enter Tryd.func16, Tryd.ntmps16
  go_wp2
  go_loopw [7] (fun i wr => ∃ k : Nat, k ≤ n ∧ i = .int .i64 k ∧ wr = w ∧ Hid (firstOf (ls.drop k) = firstOf ls)) (fun i _ => n - (intOf i).toNat)
  case atStart => exact ⟨0, by omega, rfl, rfl, HF⟩
  case round =>
    clear HF
    obtain ⟨k, hk, rfl, rfl, HF⟩ := hrel
    by_cases hlt : k < n
    · have hkl : k < ls.length := by have := HLn.out; omega
      obtain ⟨blk, off, rfl, hb, hcell⟩ := HE.out.row.lit (by rw [List.length_map]; omega)
      have hcq : wr.cell? ⟨blk, off + k, none⟩ = some (val ls[k]) := hcell k _ (by simp [hkl])
      have hd : ls.drop k = ls[k] :: ls.drop (k + 1) := List.drop_eq_getElem_cons hkl
      rw [hd] at HF
      clear hd hcell
      generalize ls[k] = l at *
      cases l with
      | nil =>
        have HF2 : Hid (firstOf (ls.drop (k + 1)) = firstOf ls) := HF
        simp only [val] at hcq
        clear HF
        go_wp2
        go_roundw
        case rel => exact ⟨k + 1, by omega, by go_num, by first | rfl | trivial, HF2⟩
        case measure => simp only [intOf]; omega
      | cons x l =>
        have HF2 : Hid (x :: l = firstOf ls) := HF
        clear HF
        obtain ⟨t, u, hv⟩ : ∃ t u, val (x :: l) = .iface t u := by cases x <;> exact ⟨_, _, rfl⟩
        rw [hv] at hcq
        have HV := Lib.hid hv
        clear hv
        go_wp2
        go_ret
        exact ⟨by rw [← HF2.out, HV.out]; rfl, rfl⟩
    · obtain rfl : k = n := by omega
      have HF2 : Hid (firstOf ls = []) := by
        have := HF.out
        rw [List.drop_of_length_le (by have := HLn.out; omega)] at this
        exact this.symm
      go_wp2
      go_ret
      exact ⟨by rw [HF2.out]; rfl, rfl⟩

theorem results_rf {fn : Func} {p : Tmp} (h : fn.results = #[.cell p 24]) (tmps : Array Value) (w : World) (g : Nat) (a b : Value)
    (hp : tmps.getD p undef = .pointer (some ⟨g, 0, none⟩)) (hg : w.heap[g]? = some (.cells #[a, b] 24 (0, 0))) : (results fn tmps).run Tryd.prog w = .ok (.agg #[a, b]) w :=
  results_cell_row h tmps w g _ #[a, b] (0, 0) _ hp hg Tryd.underlying24 rfl (by kernel_rfl)

theorem Told_nil (w : World) :
    Calls Tryd.prog 10 #[.nilIface] w fun e w' => e = .returned (rf none 0 0 0) ∧ Below w.heap.size w w' := by
  simp only [rf]
  go_enter Tryd.func10, Tryd.ntmps10
  go_wp2
  refine bodyPost_ret (results_rf Tryd.results10 _ _ w.heap.size (.slice none 0 0) (.int .i64 0) rfl (MapKept.heap_alloc w _).1) rfl ?_
  exact ⟨rfl, (Below.refl _ _).alloc (Nat.le_refl _) _⟩

theorem two_sets {w : World} {g : Nat} {t : TypeId} {a b c d : Value} (h : w.heap[g]? = some (.cells #[a, b] t (0, 0))) : ((w.setCell ⟨g, 0, none⟩ c).setCell ⟨g, 1, none⟩ d).heap[g]? = some (.cells #[c, d] t (0, 0)) := by
  have h1 : Blk w g t [a, b] := h
  exact (h1.set 0 c).set 1 d

theorem Ints.kept2 {w : World} {A : Option Addr} {n c g : Nat} {l : List Int} {x y : Value} (h : Ints w A n c l) (hf : ∀ ad, A = some ad → g < ad.block) : Ints ((w.setCell ⟨g, 0, none⟩ x).setCell ⟨g, 1, none⟩ y) A n c l :=
  ⟨h.len, h.cap, h.most, fun k v hk => by
    obtain ⟨ad, e, hc⟩ := h.row k v hk
    refine ⟨ad, e, ?_⟩
    have := hf ad e
    have hb : (ad.add k).block = ad.block := addr_add_block ad k
    rw [World.cell?_of_block (w := w) (by rw [Below.heap_setCell _ _ _ _ (by show (ad.add k).block ≠ g; omega), Below.heap_setCell _ _ _ _ (by show (ad.add k).block ≠ g; omega)])]
    exact hc⟩

set_option maxRecDepth 100000 in
theorem Told_err {x : Node} {l : List Node} {w : World} (hG : Good w (x :: l)) (hg : ErrT w) (hlen : (x :: l).length ≤ 1000000) :
    Calls Tryd.prog 10 #[val (x :: l)] w fun e w' => ∃ A n c, e = .returned (rf A n c (codeOf (x :: l))) ∧ Ints w' A n c (blocksOf (x :: l)) ∧ Below w.heap.size w w' := by
  simp only [rf]
  have BL := Lib.hid (fun W (h : Good W (x :: l)) => Blocks_any h hlen)
  have CO := Lib.hid (fun W (h : Good W (x :: l)) (h2 : ErrT W) => Code_err h h2)
  have HG := Lib.hid hG
  have HE := Lib.hid hg
  obtain ⟨t, u, hv⟩ : ∃ t u, val (x :: l) = .iface t u := by cases x <;> exact ⟨_, _, rfl⟩
  rw [hv] at BL CO ⊢
  generalize codeOf (x :: l) = code at *
  generalize blocksOf (x :: l) = bs at *
  clear hG hg hlen hv
  have b1 : Below w.heap.size w (w.alloc (.cells #[.slice none 0 0, .int .i64 0] 24)) := (Below.refl _ _).alloc (Nat.le_refl _) _
  have HB1 := Lib.hid b1
  have hh1 := (MapKept.heap_alloc w (.cells #[.slice none 0 0, .int .i64 0] 24)).1
  have HH1 := Lib.hid hh1
  clear b1 hh1
  go_enter Tryd.func10, Tryd.ntmps10
  go_wp2_with (first
    | (go_at_call 18; (with_reducible refine (BL.out _ (HG.out.below HB1.out)).mono ?_); rintro e w1 ⟨A, n, c, rfl, hI, hb, hfr⟩; have HFr := Lib.hid hfr; clear hfr; have H1 := Lib.hid (HB1.out.trans (hb.mono HB1.out.size)); have HI1 := Lib.hid hI; have hh2 := (hb.block _ (block_lt HH1.out)).trans HH1.out; clear hI hb)
    | (go_at_call 17; (with_reducible refine (CO.out _ (HG.out.below H1.out) (HE.out.later H1.out)).mono ?_); rintro e w2 ⟨rfl, hb⟩; have H2 := Lib.hid (H1.out.trans (hb.mono H1.out.size)); have HI2 := Lib.hid (HI1.out.below hb); have hh3 := (hb.block _ (block_lt hh2)).trans hh2; have HH3 := Lib.hid hh3; have k0 : w2.cell? ⟨w.heap.size, 0, none⟩ = some (.slice none 0 0) := (by rw [cell_of_row w2 w.heap.size 0 _ _ _ hh3]; rfl); have k1 : w2.cell? ⟨w.heap.size, 1, none⟩ = some (.int .i64 0) := (by rw [cell_of_row w2 w.heap.size 1 _ _ _ hh3]; rfl); have f0 := Lib.frozen_of_heap hh3 0; have f1 := Lib.frozen_of_heap hh3 1; clear hb hh2 hh3))
  refine bodyPost_ret (results_rf Tryd.results10 _ _ w.heap.size (.slice A n c) (.int .i64 code) rfl (two_sets HH3.out)) rfl ?_
  refine ⟨A, n, c, rfl, ?_, (H2.out.setCell (p := ⟨w.heap.size, 0, none⟩) (Nat.le_refl _) _).setCell (p := ⟨w.heap.size, 1, none⟩) (Nat.le_refl _) _⟩
  refine HI2.out.kept2 fun ad e => ?_
  have := HFr.out ad e
  simp at this
  omega
end Go.Proofs.YtjdalgnkkdfnnaaDoor
