/-
  Joined, on top of WlkA: FltP 2, SpnE 1, WlkZ 11, WlkLawB 6.
-/
import Derived.Test.YtfcehhhcjlpklaaGreatDoorJWlkA00
import Derived.Test.YtfcehhhcjlpklaaGreatDoorJWlkA01
import Derived.Test.YtfcehhhcjlpklaaGreatDoorJWlkA02
import Derived.Test.YtfcehhhcjlpklaaGreatDoorJWlkA03
import Derived.Test.YtfcehhhcjlpklaaGreatDoorJWlkA04
import Derived.Test.YtfcehhhcjlpklaaGreatDoorJWlkA05
import Derived.Test.YtfcehhhcjlpklaaGreatDoorJWlkA06
import Derived.Test.YtfcehhhcjlpklaaGreatDoorJWlkA07
import Derived.Test.YtfcehhhcjlpklaaGreatDoorJWlkA08
import Derived.Test.YtfcehhhcjlpklaaGreatDoorJWlkA09
import Derived.Test.YtfcehhhcjlpklaaGreatDoorJWlkA10
import Derived.Test.YtfcehhhcjlpklaaGreatDoorJWlkA11
import Derived.Test.YtfcehhhcjlpklaaGreatDoorJWlkA12
import Derived.Test.YtfcehhhcjlpklaaGreatDoorJWlkA13
import Derived.Test.YtfcehhhcjlpklaaGreatDoorJWlkA14
import Derived.Test.YtfcehhhcjlpklaaGreatDoorJWlkA15
import Derived.Test.YtfcehhhcjlpklaaGreatDoorJWlkA16
import Derived.Test.YtfcehhhcjlpklaaGreatDoorJWlkA17
import Derived.Test.YtfcehhhcjlpklaaGreatDoorJWlkA18
import Derived.Test.YtfcehhhcjlpklaaGreatDoorJWlkA19
import Derived.Test.YtfcehhhcjlpklaaGreatDoorJWlkA20
import Derived.Test.YtfcehhhcjlpklaaGreatDoorJWlkA21
import Derived.Test.YtfcehhhcjlpklaaGreatDoorJWlkA22
import Derived.Test.YtfcehhhcjlpklaaGreatDoorJWlkA23
import Derived.Test.YtfcehhhcjlpklaaGreatDoorJWlkA24
import Derived.Test.YtfcehhhcjlpklaaGreatDoorJWlkA25
import Derived.Test.YtfcehhhcjlpklaaGreatDoorJWlkA26
import Derived.Test.YtfcehhhcjlpklaaGreatDoorJWlkA27
import Derived.Test.YtfcehhhcjlpklaaGreatDoorJWlkA28
import Derived.Test.YtfcehhhcjlpklaaGreatDoorJWlkA29
import Derived.Test.YtfcehhhcjlpklaaGreatDoorJWlkA30
import Derived.Test.YtfcehhhcjlpklaaGreatDoorJWlkA31
import Derived.Test.YtfcehhhcjlpklaaGreatDoorJWlkA32
import Derived.Test.YtfcehhhcjlpklaaGreatDoorJWlkA33
import Derived.Test.YtfcehhhcjlpklaaGreatDoorJWlkA34
import Derived.Test.YtfcehhhcjlpklaaGreatDoorJWlkA35
import Derived.Test.YtfcehhhcjlpklaaGreatDoorJWlkA36
import Derived.Test.YtfcehhhcjlpklaaGreatDoorJWlkA37
import Derived.Test.YtfcehhhcjlpklaaGreatDoorJWlkA38
import Derived.Test.YtfcehhhcjlpklaaGreatDoorJWlkA39
import Derived.BigRegion
import Derived.Laws.Small
/-
  fault.First; the law's Told; the reference's Same and At.
-/
namespace Go.Proofs.YtfcehhhcjlpklaaGreatDoor
open Go.RowKit
set_option linter.unusedVariables false
set_option linter.unusedSimpArgs false

set_option maxRecDepth 100000 in
theorem First_any {A : Option Addr} {n c : Nat} {ls : List (List Node)} {w : World} (hE : Errs w A n c ls) :
    Calls Tryz.prog 27 #[.slice A n c] w fun e w' => e = .returned (val (firstOf ls)) ∧ w = w' := by
  have hlen := hE.len
  have hle : n ≤ 9223372036854775807 := Nat.le_trans hE.cap hE.most
  have HE := Lib.hid hE
  have HLn := Lib.hid hlen
  clear hE hlen
  have HF : Hid (firstOf (ls.drop 0) = firstOf ls) := rfl
  go_enter Tryz.func27, Tryz.ntmps27
  go_wp2
  go_loopw [7] (fun i wr => ∃ k : Nat, k ≤ n ∧ i = .int .i64 k ∧ wr = w ∧ Hid (firstOf (ls.drop k) = firstOf ls)) (fun i _ => n - (intOf i).toNat)
  case atStart => exact ⟨0, by omega, rfl, rfl, HF⟩
  case round =>
    clear HF
    obtain ⟨k, hk, rfl, rfl, HF⟩ := hrel
    by_cases hlt : k < n
    · have hkl : k < ls.length := by have := HLn.out; omega
      obtain ⟨blk, off, rfl, hb, hcell⟩ := HE.out.row.lit (by rw [List.length_map]; omega)
      have hcq : wr.cell? ⟨blk, off + k, none⟩ = some (val ls[k]) := hcell k _ (by simp [hkl])
      have hd : ls.drop k = ls[k] :: ls.drop (k + 1) := List.drop_eq_getElem_cons hkl
      rw [hd] at HF
      clear hd hcell
      generalize ls[k] = l at *
      cases l with
      | nil =>
        have HF2 : Hid (firstOf (ls.drop (k + 1)) = firstOf ls) := HF
        simp only [val] at hcq
        clear HF
        go_wp2
        go_roundw
        case rel => exact ⟨k + 1, by omega, by go_num, by first | rfl | trivial, HF2⟩
        case measure => simp only [intOf]; omega
      | cons x l =>
        have HF2 : Hid (x :: l = firstOf ls) := HF
        clear HF
        obtain ⟨t, u, hv⟩ : ∃ t u, val (x :: l) = .iface t u := by cases x <;> exact ⟨_, _, rfl⟩
        rw [hv] at hcq
        have HV := Lib.hid hv
        clear hv
        go_wp2
        go_ret
        exact ⟨by rw [← HF2.out, HV.out]; rfl, rfl⟩
    · obtain rfl : k = n := by omega
      have HF2 : Hid (firstOf ls = []) := by
        have := HF.out
        rw [List.drop_of_length_le (by have := HLn.out; omega)] at this
        exact this.symm
      go_wp2
      go_ret
      exact ⟨by rw [HF2.out]; rfl, rfl⟩

set_option maxRecDepth 100000 in
theorem Told_nil (w : World) :
    Calls Tryz.prog 14 #[.nilIface] w fun e w' => e = .returned (rf none 0 0 0) ∧ Below w.heap.size w w' := by
  simp only [rf]
  go_enter Tryz.func14, Tryz.ntmps14
  go_wp2
  refine bodyPost_ret (results_rf Tryz.results14 _ _ w.heap.size (.slice none 0 0) (.int .i64 0) rfl (MapKept.heap_alloc w _).1) rfl ?_
  exact ⟨rfl, (Below.refl _ _).alloc (Nat.le_refl _) _⟩

end Go.Proofs.YtfcehhhcjlpklaaGreatDoor

/-
  Layer 13: Child.
-/
namespace Go.Proofs.YtfcehhhcjlpklaaGreatDoor
open Go.RowKit Go.Shelf
set_option linter.unusedVariables false
set_option linter.unusedSimpArgs false
attribute [local go_sem] Oper.semAt_some

/-- Child's own variables store their results behind a return: the loop's -/
theorem Chd13.kp {w W : World} {lo hi i a b e : Int} (h : Chd13 w W lo hi i a b e) (a' b' e' : Int) (C : Nat) :
    KeepsFrom C W (((W.setCell ⟨w.heap.size + 2, 0, none⟩ (.int .i64 a')).setCell ⟨w.heap.size + 2, 1, none⟩ (.int .i64 b')).setCell ⟨w.heap.size + 3, 0, none⟩ (.int .i64 e')) :=
  (((KeepsOthers.setCell _ _ _).trans (KeepsOthers.setCell _ _ _)).trans (KeepsOthers.setCell _ _ _)).from _

end Go.Proofs.YtfcehhhcjlpklaaGreatDoor

/-
  Layer 14: Whole, and the reference's, where the scan's end is known.
-/
namespace Go.Proofs.YtfcehhhcjlpklaaGreatDoor
open Go.RowKit
set_option linter.unusedVariables false
set_option linter.unusedSimpArgs false

theorem blk_resC14 {P : Program} {fn : Func} {p q : Tmp} {t1 : TypeId} (h : fn.results = #[.cell p t1, .tmp q]) (tmps : Array Value) (w : World) {a : Addr} {v : Value}
    (hp : tmps.getD p undef = .pointer (some a)) (h1 : (loadVar t1 a).run P w = .ok v w) : (results fn tmps).run P w = .ok (.tuple #[v, tmps.getD q undef]) w := by
  have hp' : tmps[p]?.getD undef = .pointer (some a) := by simpa using hp
  simp [results, h, hp', asAddr, h1, Result.andThen, Sem.run_bind]

/-- what is handed back: the scan, where it has no fault -/
def whR14 (R : Wlk14) : Wlk14 := if R.flts = [] then R else Wlk14.zero
def whF14 (R : Wlk14) : List Int × Int := R.flts.headD ([], 0)
theorem whR14_flts (R : Wlk14) : (whR14 R).flts = [] := by
  unfold whR14
  split
  · assumption
  · rfl
theorem Wk14.zero (w : World) : Wk14 w Wlk14.zero none 0 0 none 0 0 none 0 0 := ⟨Ens.nil w, Ints.nil w, [], ⟨rfl, Nat.le_refl _, Nat.zero_le _, Row.nil _ _⟩, trivial⟩
theorem Rf14.zero (w : World) : Rf14 w Wlk14.zero none 0 none 0 none 0 [] := ⟨Ens.nil w, Ints.nil w, rfl, Nat.le_refl _, Nat.zero_le _, Row.nil _ _, fun k h1 h2 => absurd h2 (Nat.not_lt_zero k)⟩

theorem WkAt.five {W : World} {b : Nat} {v0 v1 v2 v3 v4 : Value} (h : WkAt W b v0 v1 v2 v3 v4) : WrC5 W b v0 v1 v2 v3 v4 :=
  ⟨⟨by rw [cell_of_row W b 0 _ _ _ h]; rfl, by rw [cell_of_row W b 1 _ _ _ h]; rfl, by rw [cell_of_row W b 2 _ _ _ h]; rfl, by rw [cell_of_row W b 3 _ _ _ h]; rfl, by rw [cell_of_row W b 4 _ _ _ h]; rfl⟩, frozen_of_row W b 0 _ _ h, frozen_of_row W b 1 _ _ h, frozen_of_row W b 2 _ _ h, frozen_of_row W b 3 _ _ h, frozen_of_row W b 4 _ _ h⟩
/-- an error that tells of these blocks -/
def Tld14 (w : World) (v : Value) (bs : List Int) (x : Int) : Prop := ∀ U, Below w.heap.size w U → ErrT U → Calls Tryz.prog 14 #[v] U fun e w' => ∃ A n c, e = .returned (.agg #[.slice A n c, .int .i64 x]) ∧ Ints w' A n c bs ∧ Below U.heap.size U w'

set_option maxRecDepth 100000 in
set_option maxHeartbeats 3200000 in
theorem Whole_is14 {w : World} {B q g n : Nat} {L : List UInt8} (hI : Img w B q g L) (hL : L.length = n * 256) (root tree fuel : Int) (hf : fuel ≤ 1000) {R : Wlk14} (hD : Done14 (nd14 L n tree) rt14 fuel Wlk14.zero [Vis14.root root] R) (hway : ∀ f ∈ R.flts, f.1.length ≤ 17) :
    Calls Tryz.prog 11 #[.pointer (some ⟨q, 0, none⟩), .int .i64 root, .int .i64 tree, .int .i64 fuel] w fun e w' => ∃ AE cE AB cB AF cF v, e = .returned (.tuple #[wkV (whR14 R).deep (whR14 R).looked AE (whR14 R).ents.length cE AB (whR14 R).blks.length cB AF (whR14 R).flts.length cF, v]) ∧ Wk14 w' (whR14 R) AE (whR14 R).ents.length cE AB (whR14 R).blks.length cB AF (whR14 R).flts.length cF ∧ Below w.heap.size w w' ∧ Tld14 w' v (whF14 R).1 (whF14 R).2 ∧ (∃ f, v = val f) := by
  have SC : Hid (Calls Tryz.prog 7 #[.pointer (some ⟨q, 0, none⟩), .int .i64 root, .int .i64 tree, .int .i64 fuel] (w.alloc (.cells #[.slice none 0 0, .slice none 0 0, .int .i64 0, .int .i64 0, .slice none 0 0] 29)) fun e w' => ∃ AE cE AB cB AF cF fs, e = .returned (.agg #[.slice AE R.ents.length cE, .slice AB R.blks.length cB, .int .i64 R.deep, .int .i64 R.looked, .slice AF R.flts.length cF]) ∧ Hid (Wk14 w' R AE R.ents.length cE AB R.blks.length cB AF R.flts.length cF ∧ Errs w' AF R.flts.length cF fs ∧ Flts14 w' fs R.flts) ∧ Hid (Newer (w.heap.size + 1) AE ∧ Newer (w.heap.size + 1) AB ∧ Newer (w.heap.size + 1) AF) ∧ Hid (Below w.heap.size w w') ∧ Hid (WkAt w' w.heap.size (.slice none 0 0) (.slice none 0 0) (.int .i64 0) (.int .i64 0) (.slice none 0 0))) := by
    have hb0 : Below w.heap.size w (w.alloc (.cells #[.slice none 0 0, .slice none 0 0, .int .i64 0, .int .i64 0, .slice none 0 0] 29)) := (Below.refl _ _).alloc (Nat.le_refl _) _
    have hR0 : WkAt (w.alloc (.cells #[.slice none 0 0, .slice none 0 0, .int .i64 0, .int .i64 0, .slice none 0 0] 29)) w.heap.size (.slice none 0 0) (.slice none 0 0) (.int .i64 0) (.int .i64 0) (.slice none 0 0) := heap_alloc_new w _
    refine (Scan_any14 (hI.later hb0) hL root tree fuel hf).mono ?_
    rintro e w' ⟨R2, AE, cE, AB, cB, AF, cF, h1, h2, h3, h4, h5, h6, h7, _⟩
    obtain rfl := hD.one h3
    rw [World.size_alloc] at h5 h6 h7
    obtain ⟨fs, h8, h9⟩ := h2.flts
    exact ⟨AE, cE, AB, cB, AF, cF, fs, h1, ⟨h2, h8, h9⟩, ⟨h5, h6, h7⟩, hb0.trans (h4.mono hb0.size), (h4.block _ (block_lt hR0)).trans hR0⟩
  have FI : Hid (∀ U AF n cF fs, Hid (Errs U AF n cF fs) → Calls Tryz.prog 27 #[.slice AF n cF] U fun e w' => e = .returned (val (firstOf fs)) ∧ U = w') := fun U AF n cF fs hE => First_any hE.out
  have HW := Lib.hid hway
  clear hI hL hf hD hway
  by_cases hz : R.flts = []
  · have e1 : whR14 R = R := if_pos hz
    have e2 : whF14 R = ([], 0) := by unfold whF14; rw [hz]; rfl
    rw [e1, e2]
    have HZ := Lib.hid hz
    clear e1 e2 hz
    go_enter Tryz.func11, Tryz.ntmps11
    go_wp2_with (first
      | (go_at_call 7; (with_reducible refine (SC.out).mono ?_); rintro e w1 ⟨AE, cE, AB, cB, AF, cF, fs, rfl, HK, HNW, HB, HR⟩; obtain ⟨U2, hU2⟩ : ∃ U2, w1.alloc (.cells #[.slice AE R.ents.length cE, .slice AB R.blks.length cB, .int .i64 R.deep, .int .i64 R.looked, .slice AF R.flts.length cF] 29) = U2 := ⟨_, rfl⟩; have hbu : Below w1.heap.size w1 U2 := (by rw [← hU2]; exact (Below.refl _ _).alloc (Nat.le_refl _) _); have hV : WkAt U2 w1.heap.size (.slice AE R.ents.length cE) (.slice AB R.blks.length cB) (.int .i64 R.deep) (.int .i64 R.looked) (.slice AF R.flts.length cF) := (by rw [← hU2]; exact heap_alloc_new w1 _); have HK2 : Hid (Wk14 U2 R AE R.ents.length cE AB R.blks.length cB AF R.flts.length cF) := HK.out.1.below hbu; have hE2 : Hid (Errs U2 AF R.flts.length cF fs) := HK.out.2.1.below hbu; have HR2 : Hid (WkAt U2 w.heap.size (.slice none 0 0) (.slice none 0 0) (.int .i64 0) (.int .i64 0) (.slice none 0 0)) := (hbu.block _ (block_lt HR.out)).trans HR.out; have HB2 := Lib.hid (HB.out.trans (hbu.mono HB.out.size)); have hfs : fs = [] := (by have h := HK.out.2.2; rw [HZ.out] at h; cases fs with | nil => rfl | cons a b => exact h.elim); have HFS := Lib.hid hfs; clear hfs; obtain ⟨⟨v0, v1, v2, v3, v4⟩, _⟩ := hV.five; obtain ⟨⟨r0, r1, r2, r3, r4⟩, f0, f1, f2, f3, f4⟩ := HR2.out.five; clear hV hbu)
      | (go_at_call 27; (with_reducible refine (FI.out _ _ _ _ _ hE2).mono ?_); rintro e w3 ⟨rfl, rfl⟩; rw [HFS.out]; have hvn : val (firstOf []) = .nilIface := rfl; rw [hvn]))
    have h5 := HR2.out.set5 (.slice AE R.ents.length cE) (.slice AB R.blks.length cB) (.int .i64 R.deep) (.int .i64 R.looked) (.slice AF R.flts.length cF)
    refine bodyPost_ret (blk_resC14 Tryz.results11 _ _ (a := ⟨w.heap.size, 0, none⟩) rfl h5.load) rfl ?_
    refine ⟨AE, cE, AB, cB, AF, cF, .nilIface, rfl, HK2.out.keep HR2.out HNW.out.1 HNW.out.2.1 HNW.out.2.2 (five_keep U2 w.heap.size _ _ _ _ _), ?_, fun U _ hE => (Told_nil U).mono fun e w' ⟨g1, g2⟩ => ⟨none, 0, 0, g1, Ints.nil _, g2⟩, [], rfl⟩
    exact ((((HB2.out.setCell (p := ⟨w.heap.size, 0, none⟩) (Nat.le_refl _) _).setCell (p := ⟨w.heap.size, 1, none⟩) (Nat.le_refl _) _).setCell (p := ⟨w.heap.size, 2, none⟩) (Nat.le_refl _) _).setCell (p := ⟨w.heap.size, 3, none⟩) (Nat.le_refl _) _).setCell (p := ⟨w.heap.size, 4, none⟩) (Nat.le_refl _) _
  · obtain ⟨x, xs, hx⟩ : ∃ x xs, R.flts = x :: xs := by
      cases h : R.flts with
      | nil => exact absurd h hz
      | cons x xs => exact ⟨x, xs, rfl⟩
    have e1 : whR14 R = Wlk14.zero := if_neg hz
    have e2 : whF14 R = x := by unfold whF14; rw [hx]; rfl
    have hx17 := HW.out x (by rw [hx]; exact List.mem_cons_self ..)
    rw [e1, e2]
    have HZ := Lib.hid hx
    clear e1 e2 hz hx
    go_enter Tryz.func11, Tryz.ntmps11
    go_wp2_with (first
      | (go_at_call 7; (with_reducible refine (SC.out).mono ?_); rintro e w1 ⟨AE, cE, AB, cB, AF, cF, fs, rfl, HK, HNW, HB, HR⟩; obtain ⟨U2, hU2⟩ : ∃ U2, w1.alloc (.cells #[.slice AE R.ents.length cE, .slice AB R.blks.length cB, .int .i64 R.deep, .int .i64 R.looked, .slice AF R.flts.length cF] 29) = U2 := ⟨_, rfl⟩; have hbu : Below w1.heap.size w1 U2 := (by rw [← hU2]; exact (Below.refl _ _).alloc (Nat.le_refl _) _); have hV : WkAt U2 w1.heap.size (.slice AE R.ents.length cE) (.slice AB R.blks.length cB) (.int .i64 R.deep) (.int .i64 R.looked) (.slice AF R.flts.length cF) := (by rw [← hU2]; exact heap_alloc_new w1 _); have HK2 : Hid (Wk14 U2 R AE R.ents.length cE AB R.blks.length cB AF R.flts.length cF) := HK.out.1.below hbu; have hE2 : Hid (Errs U2 AF R.flts.length cF fs) := HK.out.2.1.below hbu; have HR2 : Hid (WkAt U2 w.heap.size (.slice none 0 0) (.slice none 0 0) (.int .i64 0) (.int .i64 0) (.slice none 0 0)) := (hbu.block _ (block_lt HR.out)).trans HR.out; have HB2 := Lib.hid (HB.out.trans (hbu.mono HB.out.size)); obtain ⟨f, fs', hfs, hne, hgd, hch⟩ : ∃ f fs', fs = f :: fs' ∧ f ≠ [] ∧ Good w1 f ∧ Chain x.1 x.2 f := (by have h := HK.out.2.2; rw [HZ.out] at h; cases fs with | nil => exact h.elim | cons a b => exact ⟨a, b, rfl, h.1.2.ne, h.1.1, h.1.2⟩); obtain ⟨vt, vu, hv⟩ : ∃ t u, val f = .iface t u := (by cases f with | nil => exact absurd rfl hne | cons y f => cases y <;> exact ⟨_, _, rfl⟩); have HFS : Hid (val (firstOf fs) = .iface vt vu) := (by rw [hfs]; cases f with | nil => exact absurd rfl hne | cons y f => exact hv); have HG2 : Hid (Good U2 f) := hgd.below hbu; have HCH := Lib.hid hch; have HVF := Lib.hid hv; clear hfs hne hgd hch hv; obtain ⟨⟨v0, v1, v2, v3, v4⟩, _⟩ := hV.five; obtain ⟨⟨r0, r1, r2, r3, r4⟩, f0, f1, f2, f3, f4⟩ := HR2.out.five; clear hV hbu)
      | (go_at_call 27; (with_reducible refine (FI.out _ _ _ _ _ hE2).mono ?_); rintro e w3 ⟨rfl, rfl⟩; rw [HFS.out]))
    have h5 := HR2.out.set5 (.slice none 0 0) (.slice none 0 0) (.int .i64 0) (.int .i64 0) (.slice none 0 0)
    have hkp : Keeps U2 (((((U2.setCell ⟨w.heap.size, 0, none⟩ (.slice none 0 0)).setCell ⟨w.heap.size, 1, none⟩ (.slice none 0 0)).setCell ⟨w.heap.size, 2, none⟩ (.int .i64 0)).setCell ⟨w.heap.size, 3, none⟩ (.int .i64 0)).setCell ⟨w.heap.size, 4, none⟩ (.slice none 0 0)) := fun p c e => (five_keep U2 w.heap.size _ _ _ _ _ p (fun e2 => by
      subst e2
      rw [show U2.heap[w.heap.size]? = _ from HR2.out] at e
      injection e with e
      injection e with _ e3 _
      exact absurd e3 (by decide))).trans e
    have hg9 := HG2.out.same hkp
    refine bodyPost_ret (blk_resC14 Tryz.results11 _ _ (a := ⟨w.heap.size, 0, none⟩) rfl h5.load) rfl ?_
    refine ⟨none, 0, none, 0, none, 0, .iface vt vu, rfl, Wk14.zero _, ?_, fun U hU hE => ?_, f, HVF.out.symm⟩
    · exact ((((HB2.out.setCell (p := ⟨w.heap.size, 0, none⟩) (Nat.le_refl _) _).setCell (p := ⟨w.heap.size, 1, none⟩) (Nat.le_refl _) _).setCell (p := ⟨w.heap.size, 2, none⟩) (Nat.le_refl _) _).setCell (p := ⟨w.heap.size, 3, none⟩) (Nat.le_refl _) _).setCell (p := ⟨w.heap.size, 4, none⟩) (Nat.le_refl _) _
    · rw [← HVF.out]
      have hl := HCH.out.len
      have hco := HCH.out.code
      have hbl := HCH.out.blocks
      have hne := HCH.out.ne
      have hgU := hg9.below hU
      cases f with
      | nil => exact absurd rfl hne
      | cons y f =>
        refine (Told_err hgU hE (by omega)).mono ?_
        rintro e w' ⟨A, n, c, g3, g4, g5⟩
        rw [hco] at g3
        rw [hbl] at g4
        exact ⟨A, n, c, g3, g4, g5⟩

/-- the reference's two results, stored -/
theorem wr_two14 {w U : World} {a0 a1 a2 a3 a4 b0 b1 : Value} (h1 : WrAt U w.heap.size a0 a1 a2 a3 a4) (h2 : FltAt U (w.heap.size + 1) b0 b1) (v0 v1 v2 v3 v4 u0 u1 : Value) {U9 : World}
    (hU : U9 = (((((((U.setCell ⟨w.heap.size, 0, none⟩ v0).setCell ⟨w.heap.size, 1, none⟩ v1).setCell ⟨w.heap.size, 2, none⟩ v2).setCell ⟨w.heap.size, 3, none⟩ v3).setCell ⟨w.heap.size, 4, none⟩ v4).setCell ⟨w.heap.size + 1, 0, none⟩ u0).setCell ⟨w.heap.size + 1, 1, none⟩ u1) ∨ U9 = (((((((U.setCell ⟨w.heap.size, 0, none⟩ v0).setCell ⟨w.heap.size, 1, none⟩ v1).setCell ⟨w.heap.size, 2, none⟩ v2).setCell ⟨w.heap.size, 3, none⟩ v3).setCell ⟨w.heap.size, 4, none⟩ v4).setCell ⟨w.heap.size + 1, 0, none⟩ u0).setCell ⟨w.heap.size + 1, 1, none⟩ u1).drew) (hb : Below w.heap.size w U) :
    WrAt U9 w.heap.size v0 v1 v2 v3 v4 ∧ FltAt U9 (w.heap.size + 1) u0 u1 ∧ (∀ k, w.heap.size + 2 ≤ k → U9.heap[k]? = U.heap[k]?) ∧ Below w.heap.size w U9 := by
  obtain ⟨U5, hU5⟩ : ∃ U5, ((((U.setCell ⟨w.heap.size, 0, none⟩ v0).setCell ⟨w.heap.size, 1, none⟩ v1).setCell ⟨w.heap.size, 2, none⟩ v2).setCell ⟨w.heap.size, 3, none⟩ v3).setCell ⟨w.heap.size, 4, none⟩ v4 = U5 := ⟨_, rfl⟩
  have g1 := h1.set5 v0 v1 v2 v3 v4
  have k5 := five_keep U w.heap.size v0 v1 v2 v3 v4
  have b5 : Below w.heap.size w (((((U.setCell ⟨w.heap.size, 0, none⟩ v0).setCell ⟨w.heap.size, 1, none⟩ v1).setCell ⟨w.heap.size, 2, none⟩ v2).setCell ⟨w.heap.size, 3, none⟩ v3).setCell ⟨w.heap.size, 4, none⟩ v4) := ((((hb.setCell (p := ⟨w.heap.size, 0, none⟩) (Nat.le_refl _) _).setCell (p := ⟨w.heap.size, 1, none⟩) (Nat.le_refl _) _).setCell (p := ⟨w.heap.size, 2, none⟩) (Nat.le_refl _) _).setCell (p := ⟨w.heap.size, 3, none⟩) (Nat.le_refl _) _).setCell (p := ⟨w.heap.size, 4, none⟩) (Nat.le_refl _) _
  rw [hU5] at g1 k5 b5 hU
  clear hU5
  have g2 : FltAt U5 (w.heap.size + 1) b0 b1 := (k5 _ (by omega)).trans h2
  have g3 : WrAt ((U5.setCell ⟨w.heap.size + 1, 0, none⟩ u0).setCell ⟨w.heap.size + 1, 1, none⟩ u1) w.heap.size v0 v1 v2 v3 v4 := two_other g1 (p := w.heap.size + 1) (by omega) u0 u1
  have g4 := g2.store u0 u1
  have gk : ∀ k, w.heap.size + 2 ≤ k → ((U5.setCell ⟨w.heap.size + 1, 0, none⟩ u0).setCell ⟨w.heap.size + 1, 1, none⟩ u1).heap[k]? = U.heap[k]? := fun k hk =>
    (two_keep U5 (w.heap.size + 1) u0 u1 (B := w.heap.size + 2) (by omega) k hk).trans (k5 k (by omega))
  have gb := below_store2 b5 (g := w.heap.size + 1) (by omega) u0 u1
  rcases hU with rfl | rfl
  · exact ⟨g3, g4, gk, gb⟩
  · exact ⟨g3, g4, gk, gb.drew⟩

set_option maxRecDepth 100000 in
set_option maxHeartbeats 3200000 in
theorem refWhole_is14 {B p nb : Nat} {v0 : Value} {L : List UInt8} (root tree fuel : Int) (w : World) (hR : RImg w B p v0 (blks L nb)) (hL : L.length = nb * 256) (hf : fuel ≤ 300) {R : Wlk14} (hD : Done14 (nd14 L nb tree) rt14 fuel Wlk14.zero [Vis14.root root] R) :
    Calls Tryz.prog 12 #[.pointer (some ⟨p, 0, none⟩), .int .i64 root, .int .i64 tree, .int .i64 fuel] w fun e w' => ∃ AE cE AB cB AF cF fr, ∃ y : Slc, e = .returned (.tuple #[wkV (whR14 R).deep (whR14 R).looked AE (whR14 R).ents.length cE AB (whR14 R).blks.length cB AF (whR14 R).flts.length cF, .agg #[.slice y.A y.n y.c, .int .i64 (whF14 R).2]]) ∧ Rf14 w' (whR14 R) AE cE AB cB AF cF fr ∧ Ints w' y.A y.n y.c (whF14 R).1 ∧ Below w.heap.size w w' := by
  have SC : Hid (Calls Tryz.prog 9 #[.pointer (some ⟨p, 0, none⟩), .int .i64 root, .int .i64 tree, .int .i64 fuel] ((w.alloc wkZ14).alloc (.cells #[.slice none 0 0, .int .i64 0] 45)) fun e w' => ∃ AE cE AB cB AF cF fr, e = .returned (.agg #[.slice AE R.ents.length cE, .slice AB R.blks.length cB, .int .i64 R.deep, .int .i64 R.looked, .slice AF R.flts.length cF]) ∧ Hid (Rf14 w' R AE cE AB cB AF cF fr) ∧ Hid (Newer (w.heap.size + 2) AE ∧ Newer (w.heap.size + 2) AB ∧ Newer (w.heap.size + 2) AF ∧ ∀ k (h1 : k < fr.length), Newer (w.heap.size + 2) fr[k].1.A) ∧ Hid (Below w.heap.size w w') ∧ Hid (WrAt w' w.heap.size (.slice none 0 0) (.slice none 0 0) (.int .i64 0) (.int .i64 0) (.slice none 0 0)) ∧ Hid (FltAt w' (w.heap.size + 1) (.slice none 0 0) (.int .i64 0))) := by
    obtain ⟨g1, g2, g3⟩ := two_new w wkZ14 (.cells #[.slice none 0 0, .int .i64 0] 45)
    have hsz : ((w.alloc wkZ14).alloc (.cells #[.slice none 0 0, .int .i64 0] 45)).heap.size = w.heap.size + 2 := by simp
    refine (refScan_any14 root tree fuel _ (hR.later g3) hL hf hD).mono ?_
    rintro e w' ⟨AE, cE, AB, cB, AF, cF, fr, h1, h2, h3, ⟨h4, h5, h6, h7⟩, h8, h9, ⟨h10, h11, h12⟩, h13⟩
    rw [hsz] at h10 h11 h12
    exact ⟨AE, cE, AB, cB, AF, cF, fr, h1, ⟨h2, h3, h4, h5, h6, h7, h8⟩, ⟨h10, h11, h12, fun k hk => by have := h13 k hk; rw [hsz] at this; exact this⟩, g3.trans (h9.mono g3.size), (h9.block _ (by rw [hsz]; omega)).trans g1, (h9.block _ (by rw [hsz]; omega)).trans g2⟩
  clear hR hL hf hD
  by_cases hz : R.flts = []
  · have e1 : whR14 R = R := if_pos hz
    have e2 : whF14 R = ([], 0) := by unfold whF14; rw [hz]; rfl
    have hn0 : R.flts.length = 0 := by rw [hz]; rfl
    rw [e1, e2]
    have HZ := Lib.hid hz
    have HN0 := Lib.hid hn0
    rw [hn0] at SC
    clear e1 e2 hz hn0
    go_enter Tryz.func12, Tryz.ntmps12
    go_wp2_with (first
      | (go_at_call 9; (with_reducible refine (SC.out).mono ?_); rintro e w1 ⟨AE, cE, AB, cB, AF, cF, fr, rfl, HK, HNW, HB, HR, HT⟩; obtain ⟨U2, hU2⟩ : ∃ U2, w1.alloc (.cells #[.slice AE R.ents.length cE, .slice AB R.blks.length cB, .int .i64 R.deep, .int .i64 R.looked, .slice AF 0 cF] 35) = U2 := ⟨_, rfl⟩; have hbu : Below w1.heap.size w1 U2 := (by rw [← hU2]; exact (Below.refl _ _).alloc (Nat.le_refl _) _); have hV : WrAt U2 w1.heap.size (.slice AE R.ents.length cE) (.slice AB R.blks.length cB) (.int .i64 R.deep) (.int .i64 R.looked) (.slice AF 0 cF) := (by rw [← hU2]; exact heap_alloc_new w1 _); have HK2 : Hid (Rf14 U2 R AE cE AB cB AF cF fr) := HK.out.below hbu; have HR2 : Hid (WrAt U2 w.heap.size (.slice none 0 0) (.slice none 0 0) (.int .i64 0) (.int .i64 0) (.slice none 0 0)) := (hbu.block _ (block_lt HR.out)).trans HR.out; have HT2 : Hid (FltAt U2 (w.heap.size + 1) (.slice none 0 0) (.int .i64 0)) := HT.out.later hbu; have HB2 := Lib.hid (HB.out.trans (hbu.mono HB.out.size)); obtain ⟨⟨v0, v1, v2, v3, v4⟩, _⟩ := hV.cs; obtain ⟨⟨r0, r1, r2, r3, r4⟩, f0, f1, f2, f3, f4⟩ := HR2.out.cs; obtain ⟨⟨t0, t1⟩, g0, g1⟩ := HT2.out.cs; clear hV hbu))
    obtain ⟨d1, d2, d3, d4⟩ := wr_two14 HR2.out HT2.out (.slice AE R.ents.length cE) (.slice AB R.blks.length cB) (.int .i64 R.deep) (.int .i64 R.looked) (.slice AF 0 cF) (.slice none 0 0) (.int .i64 0) (.inl rfl) HB2.out
    refine bodyPost_ret (blk_res2 Tryz.results12 _ _ (a := ⟨w.heap.size, 0, none⟩) (b := ⟨w.heap.size + 1, 0, none⟩) rfl rfl d1.load d2.load) rfl ?_
    refine ⟨AE, cE, AB, cB, AF, cF, fr, ⟨none, 0, 0⟩, by rw [HN0.out], ⟨HK2.out.ents.newer HNW.out.1 d3, HK2.out.blks.newer HNW.out.2.1 d3, HK2.out.len, HK2.out.cap, HK2.out.most, HK2.out.row.newer HNW.out.2.2.1 d3, fun k h1 h2 => absurd h2 (by rw [HN0.out]; exact Nat.not_lt_zero k)⟩, Ints.nil _, d4⟩
  · obtain ⟨x, xs, hx⟩ : ∃ x xs, R.flts = x :: xs := by
      cases h : R.flts with
      | nil => exact absurd h hz
      | cons x xs => exact ⟨x, xs, rfl⟩
    have e1 : whR14 R = Wlk14.zero := if_neg hz
    have e2 : whF14 R = x := by unfold whF14; rw [hx]; rfl
    have hn1 : 0 < R.flts.length := by rw [hx]; simp
    have hx0 : R.flts[0] = x := by simp [hx]
    rw [e1, e2]
    have HZ := Lib.hid hx
    clear e1 e2 hz
    have FR : Hid (∀ U AE cE AB cB bF oF cF fr, Hid (Rf14 U R AE cE AB cB (some ⟨bF, oF, none⟩) cF fr) → ∃ (y : Slc) (h0 : 0 < fr.length), y = fr[0].1 ∧ U.cell? ⟨bF, oF, none⟩ = some (.slice y.A y.n y.c) ∧ U.cell? ⟨bF, oF + 1, none⟩ = some (.int .i64 x.2) ∧ Ints U y.A y.n y.c x.1) := fun U AE cE AB cB bF oF cF fr hU => by
      have hl := hU.out.len
      obtain ⟨b2, o2, e2, _, c2⟩ := hU.out.row.lit (by rw [badC_length]; omega)
      injection e2 with e2
      injection e2 with e3 e4
      subst e3
      subst e4
      obtain ⟨q1, q2⟩ := badC_at fr 0 (by omega)
      obtain ⟨r1, r2⟩ := hU.out.flts 0 (by omega) hn1
      rw [hx0] at r1 r2
      exact ⟨fr[0].1, by omega, rfl, c2 0 _ q1, by rw [← r2]; exact c2 1 _ q2, r1⟩
    have SC2 : Hid (Calls Tryz.prog 9 #[.pointer (some ⟨p, 0, none⟩), .int .i64 root, .int .i64 tree, .int .i64 fuel] ((w.alloc wkZ14).alloc (.cells #[.slice none 0 0, .int .i64 0] 45)) fun e w' => ∃ AE cE AB cB bF oF cF fr, e = .returned (.agg #[.slice AE R.ents.length cE, .slice AB R.blks.length cB, .int .i64 R.deep, .int .i64 R.looked, .slice (some ⟨bF, oF, none⟩) R.flts.length cF]) ∧ Hid (Rf14 w' R AE cE AB cB (some ⟨bF, oF, none⟩) cF fr) ∧ Hid (Newer (w.heap.size + 2) AE ∧ Newer (w.heap.size + 2) AB ∧ w.heap.size + 2 ≤ bF ∧ ∀ k (h1 : k < fr.length), Newer (w.heap.size + 2) fr[k].1.A) ∧ Hid (Below w.heap.size w w') ∧ Hid (WrAt w' w.heap.size (.slice none 0 0) (.slice none 0 0) (.int .i64 0) (.int .i64 0) (.slice none 0 0)) ∧ Hid (FltAt w' (w.heap.size + 1) (.slice none 0 0) (.int .i64 0))) := by
      refine (SC.out).mono ?_
      rintro e w' ⟨AE, cE, AB, cB, AF, cF, fr, h1, h2, ⟨h3, h4, h5, h6⟩, h7, h8, h9⟩
      have hl := h2.out.len
      obtain ⟨b2, o2, e2, _, _⟩ := h2.out.row.lit (by rw [badC_length]; omega)
      subst e2
      exact ⟨AE, cE, AB, cB, b2, o2, cF, fr, h1, h2, ⟨h3, h4, h5 _ rfl, h6⟩, h7, h8, h9⟩
    clear SC
    clear hx hx0
    generalize R.flts.length = nF at *
    go_enter Tryz.func12, Tryz.ntmps12
    go_wp2_with (first
      | (go_at_call 9; (with_reducible refine (SC2.out).mono ?_); rintro e w1 ⟨AE, cE, AB, cB, bF, oF, cF, fr, rfl, HK, HNW, HB, HR, HT⟩; obtain ⟨U2, hU2⟩ : ∃ U2, w1.alloc (.cells #[.slice AE R.ents.length cE, .slice AB R.blks.length cB, .int .i64 R.deep, .int .i64 R.looked, .slice (some ⟨bF, oF, none⟩) nF cF] 35) = U2 := ⟨_, rfl⟩; have hbu : Below w1.heap.size w1 U2 := (by rw [← hU2]; exact (Below.refl _ _).alloc (Nat.le_refl _) _); have hV : WrAt U2 w1.heap.size (.slice AE R.ents.length cE) (.slice AB R.blks.length cB) (.int .i64 R.deep) (.int .i64 R.looked) (.slice (some ⟨bF, oF, none⟩) nF cF) := (by rw [← hU2]; exact heap_alloc_new w1 _); have HK2 : Hid (Rf14 U2 R AE cE AB cB (some ⟨bF, oF, none⟩) cF fr) := HK.out.below hbu; have HR2 : Hid (WrAt U2 w.heap.size (.slice none 0 0) (.slice none 0 0) (.int .i64 0) (.int .i64 0) (.slice none 0 0)) := (hbu.block _ (block_lt HR.out)).trans HR.out; have HT2 : Hid (FltAt U2 (w.heap.size + 1) (.slice none 0 0) (.int .i64 0)) := HT.out.later hbu; have HB2 := Lib.hid (HB.out.trans (hbu.mono HB.out.size)); have hwlt : w.heap.size + 1 < w1.heap.size := block_lt HT.out; obtain ⟨⟨v0, v1, v2, v3, v4⟩, _⟩ := hV.cs; obtain ⟨⟨r0, r1, r2, r3, r4⟩, f0, f1, f2, f3, f4⟩ := HR2.out.cs; obtain ⟨⟨t0, t1⟩, g0, g1⟩ := HT2.out.cs; obtain ⟨y, hfr0, hy, q0, q1, hI⟩ := FR.out _ _ _ _ _ _ _ _ _ HK2; have HI := Lib.hid hI; have hcc := HK2.out.cap; have hmm := HK2.out.most; have hbF : w.heap.size + 2 ≤ bF := HNW.out.2.2.1; have HNy : Hid (Newer (w.heap.size + 2) y.A) := (by rw [hy]; exact HNW.out.2.2.2 0 hfr0); clear hV hbu hI hy))
    go_region
    go_wp2
    obtain ⟨d1, d2, d3, d4⟩ := wr_two14 HR2.out HT2.out (.slice none 0 0) (.slice none 0 0) (.int .i64 0) (.int .i64 0) (.slice none 0 0) (.slice y.A y.n y.c) (.int .i64 x.2) (.inr rfl) HB2.out
    refine bodyPost_ret (blk_res2 Tryz.results12 _ _ (a := ⟨w.heap.size, 0, none⟩) (b := ⟨w.heap.size + 1, 0, none⟩) rfl rfl d1.load d2.load) rfl ?_
    exact ⟨none, 0, none, 0, none, 0, [], y, rfl, Rf14.zero _, HI.out.newer HNy.out d3, d4⟩

end Go.Proofs.YtfcehhhcjlpklaaGreatDoor

/-
  The walk of WalkWhole.
-/
namespace Go.Proofs.YtfcehhhcjlpklaaGreatDoor
open Go.RowKit
set_option linter.unusedVariables false
set_option linter.unusedSimpArgs false

set_option maxRecDepth 100000 in
theorem walkwhole_long (A : Option Addr) (n c : Nat) (root tree fuel : Int) (w : World) (hle : n ≤ 9223372036854775807) (h : 12000 < n) :
    Calls Tryz.prog 4 #[.slice A n c, .int .i64 root, .int .i64 tree, .int .i64 fuel] w fun e w' => e = .returned (.bool true) ∧ Below w.heap.size w w' := by
  have LV := Lib.hid (lives14_any w)
  have hd : decide ((12000 : Int) < (n : Int)) = true := decide_eq_true (by omega)
  have hd2 : decide (12000 < n) = true := decide_eq_true h
  go_enter Tryz.func4, Tryz.ntmps4
  go_wp2_with (go_at_call 5; (with_reducible refine (LV.out).mono ?_); rintro e w1 ⟨rfl, hb1⟩)
  go_ret
  exact ⟨rfl, hb1⟩

/-- the state of WalkWhole from both answers on -/
structure Ww14 (w w2 w4 W : World) (dp lk : Int) (nE nB nF : Nat) (AE : Option Addr) (cE : Nat) (AB : Option Addr) (cB : Nat) (AF : Option Addr) (cF : Nat) (AE2 : Option Addr) (cE2 : Nat) (AB2 : Option Addr) (cB2 : Nat) (AF2 : Option Addr) (cF2 : Nat) (y : Slc) (x : Int) : Prop where
  bel : Below w.heap.size w W
  tl : Below w2.heap.size w2 W
  kp : Below w4.heap.size w4 W
  va : WkAt W w2.heap.size (.slice AE nE cE) (.slice AB nB cB) (.int .i64 dp) (.int .i64 lk) (.slice AF nF cF)
  vb : WrAt W w4.heap.size (.slice AE2 nE cE2) (.slice AB2 nB cB2) (.int .i64 dp) (.int .i64 lk) (.slice AF2 nF cF2)
  vc : FltAt W (w4.heap.size + 1) (.slice y.A y.n y.c) (.int .i64 x)
section
variable {w w2 w4 W W' : World} {dp lk : Int} {nE nB nF : Nat} {AE : Option Addr} {cE : Nat} {AB : Option Addr} {cB : Nat} {AF : Option Addr} {cF : Nat} {AE2 : Option Addr} {cE2 : Nat} {AB2 : Option Addr} {cB2 : Nat} {AF2 : Option Addr} {cF2 : Nat} {y : Slc} {x : Int}
theorem Ww14.later (h : Ww14 w w2 w4 W dp lk nE nB nF AE cE AB cB AF cF AE2 cE2 AB2 cB2 AF2 cF2 y x) (hb : Below W.heap.size W W') : Ww14 w w2 w4 W' dp lk nE nB nF AE cE AB cB AF cF AE2 cE2 AB2 cB2 AF2 cF2 y x :=
  ⟨h.bel.trans (hb.mono h.bel.size), h.tl.trans (hb.mono h.tl.size), h.kp.trans (hb.mono h.kp.size), (hb.block _ (block_lt h.va)).trans h.va, (hb.block _ (block_lt h.vb)).trans h.vb, h.vc.later hb⟩
theorem Ww14.cs (h : Ww14 w w2 w4 W dp lk nE nB nF AE cE AB cB AF cF AE2 cE2 AB2 cB2 AF2 cF2 y x) : W.cell? ⟨w2.heap.size, 0, none⟩ = some (.slice AE nE cE) ∧ W.cell? ⟨w2.heap.size, 1, none⟩ = some (.slice AB nB cB) ∧ W.cell? ⟨w2.heap.size, 2, none⟩ = some (.int .i64 dp) ∧ W.cell? ⟨w2.heap.size, 3, none⟩ = some (.int .i64 lk) ∧ W.cell? ⟨w2.heap.size, 4, none⟩ = some (.slice AF nF cF) ∧ W.cell? ⟨w4.heap.size, 0, none⟩ = some (.slice AE2 nE cE2) ∧ W.cell? ⟨w4.heap.size, 1, none⟩ = some (.slice AB2 nB cB2) ∧ W.cell? ⟨w4.heap.size, 2, none⟩ = some (.int .i64 dp) ∧ W.cell? ⟨w4.heap.size, 3, none⟩ = some (.int .i64 lk) ∧ W.cell? ⟨w4.heap.size, 4, none⟩ = some (.slice AF2 nF cF2) ∧ W.cell? ⟨w4.heap.size + 1, 0, none⟩ = some (.slice y.A y.n y.c) ∧ W.cell? ⟨w4.heap.size + 1, 1, none⟩ = some (.int .i64 x) := by
  obtain ⟨⟨v0, v1, v2, v3, v4⟩, _⟩ := h.va.five
  obtain ⟨⟨r0, r1, r2, r3, r4⟩, _⟩ := h.vb.cs
  obtain ⟨⟨f0, f1⟩, _⟩ := h.vc.cs
  exact ⟨v0, v1, v2, v3, v4, r0, r1, r2, r3, r4, f0, f1⟩
end

set_option maxRecDepth 100000 in
set_option maxHeartbeats 3200000 in
theorem walkwhole_short (A : Option Addr) (n c : Nat) (l : List UInt8) (root tree fuel : Int) (w : World) (h : Bytes8 w A n c l) (hn : n ≤ 12000) (hE : ErrT w) (hbf : -9223372036854775808 ≤ fuel ∧ fuel ≤ 9223372036854775807) :
    Calls Tryz.prog 4 #[.slice A n c, .int .i64 root, .int .i64 tree, .int .i64 fuel] w fun e w' => e = .returned (.bool true) ∧ Below w.heap.size w w' := by
  have hF1 : min fuel 300 ≤ 300 := by omega
  have hlen := h.len
  obtain ⟨q, hq⟩ : ∃ q, q = n / 256 := ⟨_, rfl⟩
  have hqw : q = whole n := by rw [hq]; unfold whole; omega
  have hL : (l.take (q * 256)).length = q * 256 := by
    rw [List.length_take, hlen, hq]; omega
  have hd : decide ((12000 : Int) < (n : Int)) = false := decide_eq_false (by omega)
  have hd2 : decide (12000 < n) = false := decide_eq_false (by omega)
  have OF := Of_any A n c l w h
  rw [← hqw] at OF
  have OFF := Lib.hid OF
  have RO : Hid (∀ W, Hid (Below w.heap.size w W) → Calls Tryz.prog 10 #[.slice A n c] W fun e w' => ∃ p v, e = .returned (.pointer (some ⟨p, 0, none⟩)) ∧ Hid (∃ B, RImg w' B p v (blks (l.take (q * 256)) q)) ∧ Below W.heap.size W w') := fun W hW => by
    refine (refOf_any A n c l W (h.below hW.out) hn).mono ?_
    rintro e w' ⟨v, h1, h2, h3⟩
    rw [← hq, blks_cut14] at h2
    exact ⟨W.heap.size, v, h1, ⟨_, h2⟩, h3⟩
  clear hqw OF
  generalize l.take (q * 256) = L at *
  obtain ⟨R, hR⟩ := Done14.exists_ (nd := nd14 L q tree) (rt := rt14) (fun no => nd14_keys L q tree no) (min fuel 300) _ Wlk14.zero [Vis14.root root] (Nat.le_refl _)
  have hway := Done14.few hR (fun v hv => by rw [List.mem_singleton.1 hv]; exact Nat.zero_le _) (fun f hf => by cases hf)
  have hw9 : ∀ f ∈ (whR14 R).flts, f.1.length ≤ 17 := by rw [whR14_flts]; intro f hf; cases hf
  have WH : Hid (∀ W p g, Below w.heap.size w W → Img W w.heap.size p g L → Calls Tryz.prog 11 #[.pointer (some ⟨p, 0, none⟩), .int .i64 root, .int .i64 tree, .int .i64 (min fuel 300)] W fun e w' => ∃ AE cE AB cB AF cF v, e = .returned (.tuple #[.agg #[.slice AE (whR14 R).ents.length cE, .slice AB (whR14 R).blks.length cB, .int .i64 (whR14 R).deep, .int .i64 (whR14 R).looked, .slice AF (whR14 R).flts.length cF], v]) ∧ Hid (Wk14 w' (whR14 R) AE (whR14 R).ents.length cE AB (whR14 R).blks.length cB AF (whR14 R).flts.length cF) ∧ Hid (Below w.heap.size w w') ∧ Hid (Tld14 w' v (whF14 R).1 (whF14 R).2)) := fun W p g hb hI => by
    refine (Whole_is14 hI hL root tree (min fuel 300) (by omega) hR hway).mono ?_
    rintro e w' ⟨AE, cE, AB, cB, AF, cF, v, h1, h2, h3, h4, _⟩
    exact ⟨AE, cE, AB, cB, AF, cF, v, h1, h2, hb.trans (h3.mono hb.size), h4⟩
  have RW : Hid (∀ W p v, Hid (∃ B, RImg W B p v (blks L q)) → Calls Tryz.prog 12 #[.pointer (some ⟨p, 0, none⟩), .int .i64 root, .int .i64 tree, .int .i64 (min fuel 300)] W fun e w' => ∃ AE cE AB cB AF cF fr, ∃ y : Slc, e = .returned (.tuple #[.agg #[.slice AE (whR14 R).ents.length cE, .slice AB (whR14 R).blks.length cB, .int .i64 (whR14 R).deep, .int .i64 (whR14 R).looked, .slice AF (whR14 R).flts.length cF], .agg #[.slice y.A y.n y.c, .int .i64 (whF14 R).2]]) ∧ Hid (Rf14 w' (whR14 R) AE cE AB cB AF cF fr) ∧ Hid (Ints w' y.A y.n y.c (whF14 R).1) ∧ Below W.heap.size W w') := fun W p v hI => by
    obtain ⟨B, hI⟩ := hI.out
    exact refWhole_is14 root tree (min fuel 300) W hI hL hF1 hR
  generalize whR14 R = R9 at *
  generalize whF14 R = F9 at *
  have SM : Hid (∀ w2 w4 W AE cE AB cB AF cF AE2 cE2 AB2 cB2 AF2 cF2 y fr, Hid (Wk14 w4 R9 AE R9.ents.length cE AB R9.blks.length cB AF R9.flts.length cF) → Hid (Rf14 w4 R9 AE2 cE2 AB2 cB2 AF2 cF2 fr) → Ww14 w w2 w4 W R9.deep R9.looked R9.ents.length R9.blks.length R9.flts.length AE cE AB cB AF cF AE2 cE2 AB2 cB2 AF2 cF2 y F9.2 → Calls Tryz.prog 6 #[.agg #[.slice AE R9.ents.length cE, .slice AB R9.blks.length cB, .int .i64 R9.deep, .int .i64 R9.looked, .slice AF R9.flts.length cF], .agg #[.slice AE2 R9.ents.length cE2, .slice AB2 R9.blks.length cB2, .int .i64 R9.deep, .int .i64 R9.looked, .slice AF2 R9.flts.length cF2]] W fun e w' => e = .returned (.bool true) ∧ Ww14 w w2 w4 w' R9.deep R9.looked R9.ents.length R9.blks.length R9.flts.length AE cE AB cB AF cF AE2 cE2 AB2 cB2 AF2 cF2 y F9.2) := fun w2 w4 W AE cE AB cB AF cF AE2 cE2 AB2 cB2 AF2 cF2 y fr h1 h2 h3 => (same_any14 (hE.later h3.bel) hw9 (h1.out.below h3.kp) (h2.out.below h3.kp)).mono fun e w' ⟨g1, g2⟩ => ⟨g1, h3.later g2⟩
  have TL : Hid (∀ w2 w4 W AE cE AB cB AF cF AE2 cE2 AB2 cB2 AF2 cF2 y v, Hid (Tld14 w2 v F9.1 F9.2) → Ww14 w w2 w4 W R9.deep R9.looked R9.ents.length R9.blks.length R9.flts.length AE cE AB cB AF cF AE2 cE2 AB2 cB2 AF2 cF2 y F9.2 → Calls Tryz.prog 14 #[v] W fun e w' => ∃ A n c, e = .returned (.agg #[.slice A n c, .int .i64 F9.2]) ∧ Hid (Ints w' A n c F9.1) ∧ Ww14 w w2 w4 w' R9.deep R9.looked R9.ents.length R9.blks.length R9.flts.length AE cE AB cB AF cF AE2 cE2 AB2 cB2 AF2 cF2 y F9.2) := fun w2 w4 W AE cE AB cB AF cF AE2 cE2 AB2 cB2 AF2 cF2 y v h1 h3 => (h1.out W h3.tl (hE.later h3.bel)).mono fun e w' ⟨A, n, c, g1, g2, g3⟩ => ⟨A, n, c, g1, g2, h3.later g3⟩
  have FS : Hid (∀ w2 w4 W AE cE AB cB AF cF AE2 cE2 AB2 cB2 AF2 cF2 y A n c, Hid (Ints w4 y.A y.n y.c F9.1) → Hid (Ints W A n c F9.1) → Ww14 w w2 w4 W R9.deep R9.looked R9.ents.length R9.blks.length R9.flts.length AE cE AB cB AF cF AE2 cE2 AB2 cB2 AF2 cF2 y F9.2 → Calls Tryz.prog 13 #[.agg #[.slice A n c, .int .i64 F9.2], .agg #[.slice y.A y.n y.c, .int .i64 F9.2]] W fun e w' => e = .returned (.bool true) ∧ Ww14 w w2 w4 w' R9.deep R9.looked R9.ents.length R9.blks.length R9.flts.length AE cE AB cB AF cF AE2 cE2 AB2 cB2 AF2 cF2 y F9.2) := fun w2 w4 W AE cE AB cB AF cF AE2 cE2 AB2 cB2 AF2 cF2 y A n c h1 h2 h3 => (Flt_same F9.2 h2.out (h1.out.below h3.kp)).mono fun e w' ⟨g1, g2⟩ => ⟨g1, h3.later g2⟩
  have LV : Hid (∀ w2 w4 W AE cE AB cB AF cF AE2 cE2 AB2 cB2 AF2 cF2 y, Ww14 w w2 w4 W R9.deep R9.looked R9.ents.length R9.blks.length R9.flts.length AE cE AB cB AF cF AE2 cE2 AB2 cB2 AF2 cF2 y F9.2 → Calls Tryz.prog 5 #[] W fun e w' => e = .returned (.bool true) ∧ Ww14 w w2 w4 w' R9.deep R9.looked R9.ents.length R9.blks.length R9.flts.length AE cE AB cB AF cF AE2 cE2 AB2 cB2 AF2 cF2 y F9.2) := fun w2 w4 W AE cE AB cB AF cF AE2 cE2 AB2 cB2 AF2 cF2 y h3 => (lives14_any W).mono fun e w' ⟨g1, g2⟩ => ⟨g1, h3.later g2⟩
  clear hw9 hE
  obtain ⟨F1, x⟩ := F9
  dsimp only at *
  generalize R9.deep = dp at *
  generalize R9.looked = lk at *
  generalize R9.ents.length = nE at *
  generalize R9.blks.length = nB at *
  generalize R9.flts.length = nF at *
  clear hq hL hF1 h hbf hR hway
  go_enter Tryz.func4, Tryz.ntmps4
  go_wp2_with (first
    | (go_at_call 8; (with_reducible refine (OFF.out).mono ?_); rintro e w1 ⟨p, g, rfl, hI1, hb1⟩; have HI1 := Lib.hid (And.intro hb1 hI1); clear hb1 hI1)
    | (go_at_call 11; (with_reducible refine (WH.out _ _ _ HI1.out.1 HI1.out.2).mono ?_); rintro e w2 ⟨AE, cE, AB, cB, AF, cF, v, rfl, hW2, hb2, hT2⟩; obtain ⟨U2, hU2⟩ : ∃ U2, w2.alloc (.cells #[.slice AE nE cE, .slice AB nB cB, .int .i64 dp, .int .i64 lk, .slice AF nF cF] 29) = U2 := ⟨_, rfl⟩; have HK2 : Hid (Below w2.heap.size w2 U2 ∧ WkAt U2 w2.heap.size (.slice AE nE cE) (.slice AB nB cB) (.int .i64 dp) (.int .i64 lk) (.slice AF nF cF)) := (by rw [← hU2]; exact ⟨(Below.refl _ _).alloc (Nat.le_refl _) _, heap_alloc_new w2 _⟩); have HB2 := Lib.hid (hb2.out.trans (HK2.out.1.mono hb2.out.size)))
    | (go_at_call 10; (with_reducible refine (RO.out _ HB2).mono ?_); rintro e w3 ⟨p3, v3, rfl, hI3, hb3⟩; have HK3 := Lib.hid (HK2.out.1.trans (hb3.mono HK2.out.1.size)); have HV3 := Lib.hid ((hb3.block _ (block_lt HK2.out.2)).trans HK2.out.2); have HB3 := Lib.hid (HB2.out.trans (hb3.mono HB2.out.size)); clear hb3)
    | (go_at_call 12; (with_reducible refine (RW.out _ _ _ hI3).mono ?_); rintro e w4 ⟨AE2, cE2, AB2, cB2, AF2, cF2, fr, y, rfl, hR4, hY4, hb4⟩; obtain ⟨U5, hU5⟩ : ∃ U5, (w4.alloc (.cells #[.slice AE2 nE cE2, .slice AB2 nB cB2, .int .i64 dp, .int .i64 lk, .slice AF2 nF cF2] 35)).alloc (.cells #[.slice y.A y.n y.c, .int .i64 x] 45) = U5 := ⟨_, rfl⟩; have HN5 := Lib.hid hb4; clear hb4))
  have hS : Ww14 w w2 w4 U5 dp lk nE nB nF AE cE AB cB AF cF AE2 cE2 AB2 cB2 AF2 cF2 y x ∧ Ww14 w w2 w4 U5.drew dp lk nE nB nF AE cE AB cB AF cF AE2 cE2 AB2 cB2 AF2 cF2 y x := by
    obtain ⟨t1, t2, t3⟩ := two_new w4 (.cells #[.slice AE2 nE cE2, .slice AB2 nB cB2, .int .i64 dp, .int .i64 lk, .slice AF2 nF cF2] 35) (.cells #[.slice y.A y.n y.c, .int .i64 x] 45)
    rw [hU5] at t1 t2 t3
    have hv4 := (HN5.out.block _ (block_lt HV3.out)).trans HV3.out
    have hs5 : Ww14 w w2 w4 U5 dp lk nE nB nF AE cE AB cB AF cF AE2 cE2 AB2 cB2 AF2 cF2 y x := ⟨(HB3.out.trans (HN5.out.mono HB3.out.size)).trans (t3.mono (HB3.out.trans (HN5.out.mono HB3.out.size)).size), (HK3.out.trans (HN5.out.mono HK3.out.size)).trans (t3.mono (HK3.out.trans (HN5.out.mono HK3.out.size)).size), t3, (t3.block _ (block_lt hv4)).trans hv4, t1, t2⟩
    exact ⟨hs5, hs5.later ((Below.refl _ _).drew)⟩
  have HWk : Hid (Wk14 w4 R9 AE nE cE AB nB cB AF nF cF) := hW2.out.below (HK3.out.trans (HN5.out.mono HK3.out.size))
  obtain ⟨hS0, hS1⟩ := hS
  have d0 := hS0.cs
  have d1 := hS1.cs
  clear OFF RO WH RW HI1 hW2 hb2 HK2 HB2 hI3 HK3 HV3 HB3 HN5 hU2 hU5
  go_region_held3 (fun W => W.cell? ⟨w2.heap.size, 0, none⟩ = some (.slice AE nE cE) ∧ W.cell? ⟨w2.heap.size, 1, none⟩ = some (.slice AB nB cB) ∧ W.cell? ⟨w2.heap.size, 2, none⟩ = some (.int .i64 dp) ∧ W.cell? ⟨w2.heap.size, 3, none⟩ = some (.int .i64 lk) ∧ W.cell? ⟨w2.heap.size, 4, none⟩ = some (.slice AF nF cF) ∧ W.cell? ⟨w4.heap.size, 0, none⟩ = some (.slice AE2 nE cE2) ∧ W.cell? ⟨w4.heap.size, 1, none⟩ = some (.slice AB2 nB cB2) ∧ W.cell? ⟨w4.heap.size, 2, none⟩ = some (.int .i64 dp) ∧ W.cell? ⟨w4.heap.size, 3, none⟩ = some (.int .i64 lk) ∧ W.cell? ⟨w4.heap.size, 4, none⟩ = some (.slice AF2 nF cF2) ∧ W.cell? ⟨w4.heap.size + 1, 0, none⟩ = some (.slice y.A y.n y.c) ∧ W.cell? ⟨w4.heap.size + 1, 1, none⟩ = some (.int .i64 x))
    (assumption)
    (first
    | (go_at_call 6; (with_reducible refine (SM.out _ _ _ _ _ _ _ _ _ _ _ _ _ _ _ _ _ HWk hR4 hS1).mono ?_); rintro e w6 ⟨rfl, hS2⟩; have d2 := hS2.cs)
    | (go_at_call 14; (with_reducible refine (TL.out _ _ _ _ _ _ _ _ _ _ _ _ _ _ _ _ _ hT2 hS2).mono ?_); rintro e w7 ⟨A7, n7, c7, rfl, hI7, hS3⟩; have d3 := hS3.cs)
    | (go_at_call 13; (with_reducible refine (FS.out _ _ _ _ _ _ _ _ _ _ _ _ _ _ _ _ _ _ _ hY4 hI7 hS3).mono ?_); rintro e w8 ⟨rfl, hS4⟩; have d4 := hS4.cs)
    | (go_at_call 5; (with_reducible refine (LV.out _ _ _ _ _ _ _ _ _ _ _ _ _ _ _ _ hS4).mono ?_); rintro e w9 ⟨rfl, hS5⟩; have d5 := hS5.cs))
  go_wp2
  go_ret
  exact ⟨rfl, hS5.bel⟩

theorem walkwhole_walk (A : Option Addr) (n c : Nat) (l : List UInt8) (root tree fuel : Int) (w : World) (h : Bytes8 w A n c l) (hbr : -9223372036854775808 ≤ root ∧ root ≤ 9223372036854775807) (hbt : -9223372036854775808 ≤ tree ∧ tree ≤ 9223372036854775807) (hbf : -9223372036854775808 ≤ fuel ∧ fuel ≤ 9223372036854775807) (hE : ErrT w) :
    Calls Tryz.prog 4 #[.slice A n c, .int .i64 root, .int .i64 tree, .int .i64 fuel] w fun e w' => e = .returned (.bool true) ∧ Below w.heap.size w w' := by
  by_cases hn : n ≤ 12000
  · exact walkwhole_short A n c l root tree fuel w h hn hE hbf
  · exact walkwhole_long A n c root tree fuel w (Nat.le_trans h.cap h.most) (by omega)

end Go.Proofs.YtfcehhhcjlpklaaGreatDoor
