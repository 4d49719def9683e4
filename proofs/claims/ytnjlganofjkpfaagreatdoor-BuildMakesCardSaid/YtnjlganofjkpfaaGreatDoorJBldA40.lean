/-
  Joined: SlotA, BldR, SlotB, SlotC, SlotF.
-/
import Derived.Test.YtnjlganofjkpfaaGreatDoorJBldA17
import Derived.Test.YtnjlganofjkpfaaGreatDoorJBldA21
import Derived.Test.YtnjlganofjkpfaaGreatDoorJBldA26
import Derived.Test.YtnjlganofjkpfaaGreatDoorJBldA13
import Derived.Test.YtnjlganofjkpfaaGreatDoorJBldA27
import Derived.BigQuiet
import Derived.Deep.RegionHeld3
import Derived.Test.YtnjlganofjkpfaaGreatDoorJBldA38
import Derived.Test.YtnjlganofjkpfaaGreatDoorJBldA00
import Derived.Test.YtnjlganofjkpfaaGreatDoorJBldA33
import Derived.Test.YtnjlganofjkpfaaGreatDoorJBldA32
import Derived.Test.YtnjlganofjkpfaaGreatDoorJBldA34
import Derived.Test.YtnjlganofjkpfaaGreatDoorJBldA12
import Derived.Test.YtnjlganofjkpfaaGreatDoorJBldA03
/-
  Layer 10: Put.
-/
namespace Go.Proofs.YtnjlganofjkpfaaGreatDoor
open Go.RowKit
set_option linter.unusedVariables false
set_option linter.unusedSimpArgs false

/-- what the program's Put answers -/
def SlPut (l : List Slt) (w : World) (e : Ending) (w' : World) : Prop :=
  (okS10 l = true → ∃ g, e = .returned (.tuple #[.slice (some ⟨g, 0, none⟩) 244 244, .int .i64 0]) ∧ Own8 w' w.heap.size g (encS10 l)) ∧ (okS10 l = false → e = .returned (.tuple #[.slice none 0 0, .int .i64 1])) ∧ Below w.heap.size w w'
theorem SlPut.bad {l : List Slt} {w w' : World} (h : okS10 l = false) (hb : Below w.heap.size w w') : SlPut l w (.returned (.tuple #[.slice none 0 0, .int .i64 1])) w' :=
  ⟨fun e => (by rw [h] at e; cases e), fun _ => rfl, hb⟩
theorem SlPut.good {l : List Slt} {w w' : World} {g : Nat} (h : okS10 l = true) (hO : Own8 w' w.heap.size g (encS10 l)) (hb : Below w.heap.size w w') : SlPut l w (.returned (.tuple #[.slice (some ⟨g, 0, none⟩) 244 244, .int .i64 0])) w' :=
  ⟨fun _ => ⟨g, rfl, hO⟩, fun e => (by rw [h] at e; cases e), hb⟩
end Go.Proofs.YtnjlganofjkpfaaGreatDoor

/-
  Layer 17: the reference's Right.
-/
namespace Go.Proofs.YtnjlganofjkpfaaGreatDoor
open Go.RowKit
set_option linter.unusedVariables false
set_option linter.unusedSimpArgs false

set_option maxRecDepth 100000 in
set_option maxHeartbeats 6400000 in
theorem refRight_any17 (tree : Int) {A : Option Addr} {n c : Nat} {l : List Ent17} (w : World) (h : Ens w A n c l) (hB : EntB l) (ht : i64b tree) :
    Calls Tryz.prog 33 #[.int .i64 tree, .slice A n c] w fun e w' => e = .returned (.bool (rightB17 tree l)) ∧ Below w.heap.size w w' := by
  obtain rfl : n = l.length := h.len.symm
  have hcap := h.cap
  have hmost := h.most
  have MX := Lib.hid (fun W => refMax_any tree true W (capN (widN tree true)) rfl ht)
  have W0 := Lib.hid (fun W => refWidth_any tree true W (widN tree true) rfl ht)
  by_cases hz1 : capN (widN tree true) = 0
  · have hR : rightB17 tree l = false := by
      cases e : rightB17 tree l with
      | false => rfl
      | true =>
        simp only [rightB17, Bool.and_eq_true, decide_eq_true_eq] at e
        exact absurd hz1 e.1.1
    rw [hR]
    have hne : (((capN (widN tree true) : Nat) : Int) == 0) = true := by simp [hz1]
    generalize capN (widN tree true) = cp at *
    have HZ1 := Lib.hid hz1
    clear hR hz1
    go_enter Tryz.func33, Tryz.ntmps33
    go_wp2_with (go_at_call 35; (with_reducible refine (MX.out _).mono ?_); rintro e w1 ⟨rfl, hb1⟩)
    go_ret
    exact ⟨rfl, hb1⟩
  · have hne : (((capN (widN tree true) : Nat) : Int) == 0) = false := by simp; omega
    by_cases hz2 : l.length ≤ 32768
    · have hd : decide ((32768 : Int) < (l.length : Int)) = false := decide_eq_false (by omega)
      have hd2 : decide (32768 < l.length) = false := decide_eq_false (by omega)
      have NOT := Lib.hid (fun k (hk : k < l.length) (ha : at17 (widN tree true) l k = false) => rightB17_no (tree := tree) hk ha)
      have YES := Lib.hid (fun (ha : ∀ i, i < l.length → at17 (widN tree true) l i = true) => rightB17_of hz1 hz2 ha)
      have HE := Lib.hid h
      have HBB := Lib.hid hB
      have hwb : widN tree true ≤ 24 := by rcases widN_cases tree true with ⟨h1, _⟩ | ⟨h1, _⟩ | ⟨h1, _⟩ | ⟨h1, _⟩ | ⟨h1, _⟩ <;> omega
      clear h hB hz1
      generalize rightB17 tree l = R at *
      generalize widN tree true = wd at *
      generalize capN wd = cp at *
      have HEK : Hid (∀ W, Below w.heap.size w W → ∀ k, k < l.length → ∃ b off, A = some ⟨b, off, none⟩ ∧ W.cell? ⟨b, off + k * 3, none⟩ = some (.int .i64 (key17 l k)) ∧ W.cell? ⟨b, off + k * 3 + 1, none⟩ = some (.string ⟨(val17 l k).toArray⟩)) := fun W hW k hk => by
        obtain ⟨b, off, h1, h2, h3, _⟩ := (HE.out.below hW).at_ hk
        rw [← Nat.add_assoc] at h3
        exact ⟨b, off, h1, by rw [key17_at hk]; exact h2, by rw [val17_at hk]; exact h3⟩
      have HBK : Hid (∀ k, k < l.length → (-9223372036854775808 ≤ key17 l k ∧ key17 l k ≤ 9223372036854775807) ∧ (val17 l k).length ≤ 9223372036854775807) := fun k hk => by
        rw [key17_at hk, val17_at hk]
        exact HBB.out _ (List.getElem_mem hk)
      clear HE HBB
      generalize hN : l.length = N at *
      clear hN
      go_enter Tryz.func33, Tryz.ntmps33
      go_wp2_with (go_at_call 35; (with_reducible refine (MX.out _).mono ?_); rintro e w1 ⟨rfl, hb1⟩)
      have HB1 := Lib.hid hb1
      clear hb1 MX hne hd hd2
      go_loopw [5] (fun i wr => ∃ k : Nat, k ≤ N ∧ i = .int .i64 k ∧ Hid (∀ j, j < k → at17 wd l j = true) ∧ Hid (Below w.heap.size w wr)) (fun i _ => N - (intOf i).toNat)
      case atStart => exact ⟨0, by omega, rfl, fun j hj => by omega, HB1⟩
      case round =>
        clear HB1
        obtain ⟨k, hk, rfl, hat, hb⟩ := hrel
        by_cases hlt : k < N
        · have hlti : (k : Int) < (N : Int) := by omega
          obtain ⟨b, off, hA, c0, c1⟩ := HEK.out wr hb.out k hlt
          obtain ⟨⟨b1, b2⟩, b3⟩ := HBK.out k hlt
          have HAT := Lib.hid (at17_yes (wd := wd) (l := l) (i := k))
          have HP : Hid (∀ k', k = k' + 1 → wr.cell? ⟨b, off + k' * 3, none⟩ = some (.int .i64 (key17 l (k - 1)))) := fun k' e => by
            obtain ⟨b', off', hA', c0', _⟩ := HEK.out wr hb.out k' (by omega)
            rw [hA] at hA'
            injection hA' with hA'
            injection hA' with e1 e2
            subst e1 e2
            rw [show k - 1 = k' by omega]
            exact c0'
          subst hA
          generalize key17 l (k - 1) = P at *
          generalize key17 l k = key at *
          generalize val17 l k = vl at *
          have hsz : (⟨vl.toArray⟩ : ByteArray).size = vl.length := by simp [ByteArray.size]
          obtain ⟨y, hy⟩ : ∃ y : ByteArray, y = ⟨vl.toArray⟩ := ⟨_, rfl⟩
          rw [← hy] at c1 hsz
          clear hy
          have C0 : Hid (∀ W, Below wr.heap.size wr W → W.cell? ⟨b, off + k * 3, none⟩ = some (.int .i64 key) ∧ W.cell? ⟨b, off + k * 3 + 1, none⟩ = some (.string y)) := fun W hW => ⟨(hW.cell (p := ⟨b, off + k * 3, none⟩) (cell_lt c0)).trans c0, (hW.cell (p := ⟨b, off + k * 3 + 1, none⟩) (cell_lt c1)).trans c1⟩
          have hbd : Below wr.heap.size wr wr.drew := (Below.refl _ _).drew
          by_cases g1 : key < 0
          · have hn : Hid (at17 wd l k = false) := by
              show _ = _
              rw [Bool.eq_false_iff]
              intro h
              have := (HAT.out.1 h).1
              omega
            have hd1 : decide (key < 0) = true := decide_eq_true g1
            clear HAT HP C0 hsz
            go_wp2
            go_quiet (fail)
            go_wp2
            go_ret
            exact ⟨by rw [NOT.out k hlt hn.out]; rfl, below_drewN hb.out _⟩
          · have hd1 : decide (key < 0) = false := decide_eq_false g1
            by_cases g2 : 281474976710655 < key
            · have hn : Hid (at17 wd l k = false) := by
                show _ = _
                rw [Bool.eq_false_iff]
                intro h
                have := (HAT.out.1 h).2.1
                have e : maxK = 281474976710655 := rfl
                omega
              have hd3 : decide ((281474976710655 : Int) < key) = true := decide_eq_true g2
              clear HAT HP C0 hsz
              go_wp2
              go_quiet (fail)
              go_wp2
              go_ret
              exact ⟨by rw [NOT.out k hlt hn.out]; rfl, below_drewN hb.out _⟩
            · have hd3 : decide ((281474976710655 : Int) < key) = false := decide_eq_false g2
              have cd := C0.out _ hbd
              have cw := C0.out _ (Below.refl _ _)
              by_cases hk0 : k = 0
              · have hd4 : decide ((0 : Int) < (k : Int)) = false := decide_eq_false (by omega)
                have hd5 : decide (0 < k) = false := decide_eq_false (by omega)
                have HK0 := Lib.hid hk0
                clear hk0
                by_cases g4 : y.size = wd
                · have hne3 : ((y.size : Int) != (wd : Int)) = false := by rw [g4]; simp
                  have hn : Hid (at17 wd l k = true) := HAT.out.2 ⟨by omega, by have e : maxK = 281474976710655 := rfl; omega, .inl HK0.out, by omega⟩
                  have HG4 := Lib.hid g4
                  clear HAT HP hsz c0 c1 cw g4
                  go_wp2
                  refine wp_region_held_drew (S := (fun W => W.cell? ⟨b, off + k * 3, none⟩ = some (.int .i64 key) ∧ W.cell? ⟨b, off + k * 3 + 1, none⟩ = some (.string y))) (by kernel_rfl) (by assumption) (fun hHeld => ?_)
                  refine wpAnyH_takeD (i := 0) (d := some 20) (v := ?vd0) rfl (by rfl) (by kernel_rfl) (by kernel_rfl) (by kernel_rfl) (fun _ _ _ h => h) (Or.inl ⟨by rfl, ?hyd0⟩) (by assumption) ?restd0
                  case hyd0 => (intro w hSw; (try dsimp only at hSw); go_simp; try (with_reducible rfl))
                  try simp only [Act.put, List.setIfInBounds_toArray, List.set_cons_zero, List.set_cons_succ]
                  refine wpAnyH_takeD (i := 1) (d := some 21) (v := ?vd1) rfl (by rfl) (by kernel_rfl) (by kernel_rfl) (by kernel_rfl) (fun _ _ _ h => h) (Or.inl ⟨by rfl, ?hyd1⟩) (by assumption) ?restd1
                  case hyd1 => (intro w hSw; (try dsimp only at hSw); go_simp; try (with_reducible rfl))
                  try simp only [Act.put, List.setIfInBounds_toArray, List.set_cons_zero, List.set_cons_succ]
                  refine wpAnyH_takeD (i := 2) (d := some 22) (v := ?vd2) rfl (by rfl) (by kernel_rfl) (by kernel_rfl) (by kernel_rfl) (fun _ _ _ h => h) (Or.inl ⟨by rfl, ?hyd2⟩) (by assumption) ?restd2
                  case hyd2 => (intro w hSw; (try dsimp only at hSw); go_simp; try (with_reducible rfl))
                  try simp only [Act.put, List.setIfInBounds_toArray, List.set_cons_zero, List.set_cons_succ]
                  refine wpAnyH_takeD (i := 3) (d := some 23) (v := ?vd3) rfl (by rfl) (by kernel_rfl) (by kernel_rfl) (by kernel_rfl) (fun _ _ _ h => h) (Or.inl ⟨by rfl, ?hyd3⟩) (by assumption) ?restd3
                  case hyd3 => (intro w hSw; (try dsimp only at hSw); go_simp; try (with_reducible rfl))
                  try simp only [Act.put, List.setIfInBounds_toArray, List.set_cons_zero, List.set_cons_succ]
                  refine wpAnyH_takeD (i := 4) (d := some 24) (v := ?vd4) rfl (by rfl) (by kernel_rfl) (by kernel_rfl) (by kernel_rfl) (fun _ _ _ h => h) (Or.inl ⟨by rfl, ?hyd4⟩) (by assumption) ?restd4
                  case hyd4 => (intro w hSw; (try dsimp only at hSw); go_simp; try (with_reducible rfl))
                  try simp only [Act.put, List.setIfInBounds_toArray, List.set_cons_zero, List.set_cons_succ]
                  refine wpAnyH_takeD (i := 5) (d := some 25) (v := ?vd5) rfl (by rfl) (by kernel_rfl) (by kernel_rfl) (by kernel_rfl) (fun _ _ _ h => h) (Or.inl ⟨by rfl, ?hyd5⟩) (by assumption) ?restd5
                  case hyd5 => (intro w hSw; (try dsimp only at hSw); go_simp; try (with_reducible rfl))
                  try simp only [Act.put, List.setIfInBounds_toArray, List.set_cons_zero, List.set_cons_succ]
                  refine wpAnyH_takeD (i := 6) (d := some 26) (v := ?vd6) rfl (by rfl) (by kernel_rfl) (by kernel_rfl) (by kernel_rfl) (fun _ _ _ h => h) (Or.inl ⟨by rfl, ?hyd6⟩) (by assumption) ?restd6
                  case hyd6 => (intro w hSw; (try dsimp only at hSw); go_simp; try (with_reducible rfl))
                  try simp only [Act.put, List.setIfInBounds_toArray, List.set_cons_zero, List.set_cons_succ]
                  refine wpAnyH_takeD (i := 7) (d := some 27) (v := ?vd7) rfl (by rfl) (by kernel_rfl) (by kernel_rfl) (by kernel_rfl) (fun _ _ _ h => h) (Or.inl ⟨by rfl, ?hyd7⟩) (by assumption) ?restd7
                  case hyd7 => (intro w hSw; (try dsimp only at hSw); go_simp; try (with_reducible rfl))
                  try simp only [Act.put, List.setIfInBounds_toArray, List.set_cons_zero, List.set_cons_succ]
                  refine wpAnyH_takeD (i := 8) (d := some 28) (v := ?vd8) rfl (by rfl) (by kernel_rfl) (by kernel_rfl) (by kernel_rfl) (fun _ _ _ h => h) (Or.inl ⟨by rfl, ?hyd8⟩) (by assumption) ?restd8
                  case hyd8 => (intro w hSw; (try dsimp only at hSw); go_simp; try (with_reducible rfl))
                  try simp only [Act.put, List.setIfInBounds_toArray, List.set_cons_zero, List.set_cons_succ]
                  refine wpAnyH_takeD (i := 9) (d := some 29) (v := ?vd9) rfl (by rfl) (by kernel_rfl) (by kernel_rfl) (by kernel_rfl) (fun _ _ _ h => h) (Or.inl ⟨by rfl, ?hyd9⟩) (by assumption) ?restd9
                  case hyd9 => (intro w hSw; (try dsimp only at hSw); go_simp; try (with_reducible rfl))
                  try simp only [Act.put, List.setIfInBounds_toArray, List.set_cons_zero, List.set_cons_succ]
                  refine wpAnyH_takeD (i := 10) (d := some 30) (v := ?vd10) rfl (by rfl) (by kernel_rfl) (by kernel_rfl) (by kernel_rfl) (fun _ _ _ h => h) (Or.inl ⟨by rfl, ?hyd10⟩) (by assumption) ?restd10
                  case hyd10 => (intro w hSw; (try dsimp only at hSw); go_simp; try (with_reducible rfl))
                  try simp only [Act.put, List.setIfInBounds_toArray, List.set_cons_zero, List.set_cons_succ]
                  refine wpAnyH_takeD (i := 11) (d := some 31) (v := ?vd11) rfl (by rfl) (by kernel_rfl) (by kernel_rfl) (by kernel_rfl) (fun _ _ _ h => h) (Or.inl ⟨by rfl, ?hyd11⟩) (by assumption) ?restd11
                  case hyd11 => (intro w hSw; (try dsimp only at hSw); go_simp; try (with_reducible rfl))
                  try simp only [Act.put, List.setIfInBounds_toArray, List.set_cons_zero, List.set_cons_succ]
                  refine wpAnyH_takeD (i := 12) (d := some 32) (v := ?vd12) rfl (by rfl) (by kernel_rfl) (by kernel_rfl) (by kernel_rfl) (fun _ _ _ h => h) (Or.inl ⟨by rfl, ?hyd12⟩) (by assumption) ?restd12
                  case hyd12 => (intro w hSw; (try dsimp only at hSw); go_simp; try (with_reducible rfl))
                  try simp only [Act.put, List.setIfInBounds_toArray, List.set_cons_zero, List.set_cons_succ]
                  refine wpAnyH_takeD (i := 13) (d := some 33) (v := ?vd13) rfl (by rfl) (by kernel_rfl) (by kernel_rfl) (by kernel_rfl) (fun _ _ _ h => h) (Or.inl ⟨by rfl, ?hyd13⟩) (by assumption) ?restd13
                  case hyd13 => (intro w hSw; (try dsimp only at hSw); go_simp; try (with_reducible rfl))
                  try simp only [Act.put, List.setIfInBounds_toArray, List.set_cons_zero, List.set_cons_succ]
                  refine wpAnyH_takeD (i := 14) (d := some 34) (v := ?vd14) rfl (by rfl) (by kernel_rfl) (by kernel_rfl) (by kernel_rfl) (fun _ _ _ h => h) (Or.inl ⟨by rfl, ?hyd14⟩) (by assumption) ?restd14
                  case hyd14 => (intro w hSw; (try dsimp only at hSw); go_simp; try (with_reducible rfl))
                  try simp only [Act.put, List.setIfInBounds_toArray, List.set_cons_zero, List.set_cons_succ]
                  refine wpAnyH_takeD (i := 15) (d := some 35) (v := ?vd15) rfl (by rfl) (by kernel_rfl) (by kernel_rfl) (by kernel_rfl) (fun _ _ _ h => h) (Or.inl ⟨by rfl, ?hyd15⟩) (by assumption) ?restd15
                  case hyd15 => (intro w hSw; (try dsimp only at hSw); go_simp; try (with_reducible rfl))
                  try simp only [Act.put, List.setIfInBounds_toArray, List.set_cons_zero, List.set_cons_succ]
                  refine wpAnyH_takeD (i := 16) (d := some 36) (v := ?vd16) rfl (by rfl) (by kernel_rfl) (by kernel_rfl) (by kernel_rfl) (fun _ _ _ h => h) (Or.inl ⟨by rfl, ?hyd16⟩) (by assumption) ?restd16
                  case hyd16 => (intro w hSw; (try dsimp only at hSw); go_simp; try (with_reducible rfl))
                  try simp only [Act.put, List.setIfInBounds_toArray, List.set_cons_zero, List.set_cons_succ]
                  refine wpAnyH_takeD (i := 17) (d := some 37) (v := ?vd17) rfl (by rfl) (by kernel_rfl) (by kernel_rfl) (by kernel_rfl) (fun _ _ _ h => h) (Or.inl ⟨by rfl, ?hyd17⟩) (by assumption) ?restd17
                  case hyd17 => (intro w hSw; (try dsimp only at hSw); go_simp; try (with_reducible rfl))
                  try simp only [Act.put, List.setIfInBounds_toArray, List.set_cons_zero, List.set_cons_succ]
                  refine wpAnyH_strikesD [(18, 38), (19, 39), (20, 40), (21, 41), (22, 42), (23, 43), (24, 44), (25, 45), (26, 46), (27, 47), (28, 48), (29, 49)] (by kernel_rfl) (fun _ _ _ _ h => h) (n := 12) (by assumption) rfl (by kernel_rfl) (by kernel_rfl) ?_
                  try simp only [List.foldl, Act.put, List.setIfInBounds_toArray, List.set_cons_zero, List.set_cons_succ]
                  refine wpAnyH_takeD (i := 30) (d := some 50) (v := ?vd19) rfl (by rfl) (by kernel_rfl) (by kernel_rfl) (by kernel_rfl) (fun _ _ _ h => h) (Or.inl ⟨by rfl, ?hyd19⟩) (by assumption) ?restd19
                  case hyd19 => (intro w hSw; (try dsimp only at hSw); go_simp; try (with_reducible rfl))
                  try simp only [Act.put, List.setIfInBounds_toArray, List.set_cons_zero, List.set_cons_succ]
                  refine wpAnyH_takeD (i := 31) (d := some 51) (v := ?vd20) rfl (by rfl) (by kernel_rfl) (by kernel_rfl) (by kernel_rfl) (fun _ _ _ h => h) (Or.inl ⟨by rfl, ?hyd20⟩) (by assumption) ?restd20
                  case hyd20 => (intro w hSw; (try dsimp only at hSw); go_simp; try (with_reducible rfl))
                  try simp only [Act.put, List.setIfInBounds_toArray, List.set_cons_zero, List.set_cons_succ]
                  refine wpAnyH_takeD (i := 32) (d := some 52) (v := ?vd21) rfl (by rfl) (by kernel_rfl) (by kernel_rfl) (by kernel_rfl) (fun _ _ _ h => h) (Or.inl ⟨by rfl, ?hyd21⟩) (by assumption) ?restd21
                  case hyd21 => (intro w hSw; (try dsimp only at hSw); go_simp; try (with_reducible rfl))
                  try simp only [Act.put, List.setIfInBounds_toArray, List.set_cons_zero, List.set_cons_succ]
                  refine wpAnyH_takeD (i := 33) (d := some 53) (v := ?vd22) rfl (by rfl) (by kernel_rfl) (by kernel_rfl) (by kernel_rfl) (fun _ _ _ h => h) (Or.inl ⟨by rfl, ?hyd22⟩) (by assumption) ?restd22
                  case hyd22 => (intro w hSw; (try dsimp only at hSw); go_simp; try (with_reducible rfl))
                  try simp only [Act.put, List.setIfInBounds_toArray, List.set_cons_zero, List.set_cons_succ]
                  refine wpAnyH_takeD (i := 34) (d := some 54) (v := ?vd23) rfl (by rfl) (by kernel_rfl) (by kernel_rfl) (by kernel_rfl) (fun _ _ _ h => h) (Or.inl ⟨by rfl, ?hyd23⟩) (by assumption) ?restd23
                  case hyd23 => (intro w hSw; (try dsimp only at hSw); go_simp; try (with_reducible rfl))
                  try simp only [Act.put, List.setIfInBounds_toArray, List.set_cons_zero, List.set_cons_succ]
                  refine wpAnyH_takeD (i := 35) (d := some 55) (v := ?vd24) rfl (by rfl) (by kernel_rfl) (by kernel_rfl) (by kernel_rfl) (fun _ _ _ h => h) (Or.inl ⟨by rfl, ?hyd24⟩) (by assumption) ?restd24
                  case hyd24 => (intro w hSw; (try dsimp only at hSw); go_simp; try (with_reducible rfl))
                  try simp only [Act.put, List.setIfInBounds_toArray, List.set_cons_zero, List.set_cons_succ]
                  refine wpAnyH_takeD (i := 36) (d := some 56) (v := ?vd25) rfl (by rfl) (by kernel_rfl) (by kernel_rfl) (by kernel_rfl) (fun _ _ _ h => h) (Or.inl ⟨by rfl, ?hyd25⟩) (by assumption) ?restd25
                  case hyd25 => (intro w hSw; (try dsimp only at hSw); go_simp; try (with_reducible rfl))
                  try simp only [Act.put, List.setIfInBounds_toArray, List.set_cons_zero, List.set_cons_succ]
                  refine wpAnyH_takeD (i := 37) (d := some 57) (v := ?vd26) rfl (by rfl) (by kernel_rfl) (by kernel_rfl) (by kernel_rfl) (fun _ _ _ h => h) (Or.inl ⟨by rfl, ?hyd26⟩) (by assumption) ?restd26
                  case hyd26 => (intro w hSw; (try dsimp only at hSw); go_simp; try (with_reducible rfl))
                  try simp only [Act.put, List.setIfInBounds_toArray, List.set_cons_zero, List.set_cons_succ]
                  refine wpAnyH_takeD (i := 38) (d := some 58) (v := ?vd27) rfl (by rfl) (by kernel_rfl) (by kernel_rfl) (by kernel_rfl) (fun _ _ _ h => h) (Or.inl ⟨by rfl, ?hyd27⟩) (by assumption) ?restd27
                  case hyd27 => (intro w hSw; (try dsimp only at hSw); go_simp; try (with_reducible rfl))
                  try simp only [Act.put, List.setIfInBounds_toArray, List.set_cons_zero, List.set_cons_succ]
                  refine wpAnyH_takeD (i := 39) (d := some 59) (v := ?vd28) rfl (by rfl) (by kernel_rfl) (by kernel_rfl) (by kernel_rfl) (fun _ _ _ h => h) (Or.inl ⟨by rfl, ?hyd28⟩) (by assumption) ?restd28
                  case hyd28 => (intro w hSw; (try dsimp only at hSw); go_simp; try (with_reducible rfl))
                  try simp only [Act.put, List.setIfInBounds_toArray, List.set_cons_zero, List.set_cons_succ]
                  refine wpAnyH_ready (rs := [40]) (by kernel_rfl) (by simp) ?_
                  refine AllReadyH.cons rfl (fun K hK => ?_) AllReadyH.nil
                  go_simp
                  go_at_call 61
                  (with_reducible refine (W0.out _).mono ?_)
                  rintro e w7 ⟨rfl, hb7⟩
                  have hfd29 := C0.out _ (hbd.trans (hb7.mono hbd.size))
                  refine hK.out _ _ hfd29 (fun hHeldd29 => ?_)
                  clear hK K
                  try simp only [Act.put, List.setIfInBounds_toArray, List.set_cons_zero, List.set_cons_succ]
                  refine wpAnyH_takeD (i := 41) (d := some 61) (v := ?vd30) rfl (by rfl) (by kernel_rfl) (by kernel_rfl) (by kernel_rfl) (fun _ _ _ h => h) (Or.inl ⟨by rfl, ?hyd30⟩) (by assumption) ?restd30
                  case hyd30 => (intro w hSw; (try dsimp only at hSw); go_simp; try (with_reducible rfl))
                  try simp only [Act.put, List.setIfInBounds_toArray, List.set_cons_zero, List.set_cons_succ]
                  refine wpAnyH_takeD (i := 42) (d := some 62) (v := ?vd31) rfl (by rfl) (by kernel_rfl) (by kernel_rfl) (by kernel_rfl) (fun _ _ _ h => h) (Or.inl ⟨by rfl, ?hyd31⟩) (by assumption) ?restd31
                  case hyd31 => (intro w hSw; (try dsimp only at hSw); go_simp; try (with_reducible rfl))
                  try simp only [Act.put, List.setIfInBounds_toArray, List.set_cons_zero, List.set_cons_succ]
                  refine wpAnyH_done (by kernel_rfl) ?_ _
                  go_wp2
                  go_roundw
                  case rel => exact ⟨k + 1, by omega, by go_num, at17_more hat.out hn.out, (hb.out.trans (hbd.mono hb.out.size)).trans (hb7.mono (Nat.le_trans hb.out.size hbd.size))⟩
                  case measure => simp [intOf]; omega
                · have hne3 : ((y.size : Int) != (wd : Int)) = true := by simp; omega
                  have hn : Hid (at17 wd l k = false) := by
                    show _ = _
                    rw [Bool.eq_false_iff]
                    exact fun h => g4 (hsz.trans (HAT.out.1 h).2.2.2)
                  clear HAT HP hsz c0 c1 cw g4
                  go_wp2
                  refine wp_region_held_drew (S := (fun W => W.cell? ⟨b, off + k * 3, none⟩ = some (.int .i64 key) ∧ W.cell? ⟨b, off + k * 3 + 1, none⟩ = some (.string y))) (by kernel_rfl) (by assumption) (fun hHeld => ?_)
                  refine wpAnyH_takeD (i := 0) (d := some 20) (v := ?ve0) rfl (by rfl) (by kernel_rfl) (by kernel_rfl) (by kernel_rfl) (fun _ _ _ h => h) (Or.inl ⟨by rfl, ?hye0⟩) (by assumption) ?reste0
                  case hye0 => (intro w hSw; (try dsimp only at hSw); go_simp; try (with_reducible rfl))
                  try simp only [Act.put, List.setIfInBounds_toArray, List.set_cons_zero, List.set_cons_succ]
                  refine wpAnyH_takeD (i := 1) (d := some 21) (v := ?ve1) rfl (by rfl) (by kernel_rfl) (by kernel_rfl) (by kernel_rfl) (fun _ _ _ h => h) (Or.inl ⟨by rfl, ?hye1⟩) (by assumption) ?reste1
                  case hye1 => (intro w hSw; (try dsimp only at hSw); go_simp; try (with_reducible rfl))
                  try simp only [Act.put, List.setIfInBounds_toArray, List.set_cons_zero, List.set_cons_succ]
                  refine wpAnyH_takeD (i := 2) (d := some 22) (v := ?ve2) rfl (by rfl) (by kernel_rfl) (by kernel_rfl) (by kernel_rfl) (fun _ _ _ h => h) (Or.inl ⟨by rfl, ?hye2⟩) (by assumption) ?reste2
                  case hye2 => (intro w hSw; (try dsimp only at hSw); go_simp; try (with_reducible rfl))
                  try simp only [Act.put, List.setIfInBounds_toArray, List.set_cons_zero, List.set_cons_succ]
                  refine wpAnyH_takeD (i := 3) (d := some 23) (v := ?ve3) rfl (by rfl) (by kernel_rfl) (by kernel_rfl) (by kernel_rfl) (fun _ _ _ h => h) (Or.inl ⟨by rfl, ?hye3⟩) (by assumption) ?reste3
                  case hye3 => (intro w hSw; (try dsimp only at hSw); go_simp; try (with_reducible rfl))
                  try simp only [Act.put, List.setIfInBounds_toArray, List.set_cons_zero, List.set_cons_succ]
                  refine wpAnyH_takeD (i := 4) (d := some 24) (v := ?ve4) rfl (by rfl) (by kernel_rfl) (by kernel_rfl) (by kernel_rfl) (fun _ _ _ h => h) (Or.inl ⟨by rfl, ?hye4⟩) (by assumption) ?reste4
                  case hye4 => (intro w hSw; (try dsimp only at hSw); go_simp; try (with_reducible rfl))
                  try simp only [Act.put, List.setIfInBounds_toArray, List.set_cons_zero, List.set_cons_succ]
                  refine wpAnyH_takeD (i := 5) (d := some 25) (v := ?ve5) rfl (by rfl) (by kernel_rfl) (by kernel_rfl) (by kernel_rfl) (fun _ _ _ h => h) (Or.inl ⟨by rfl, ?hye5⟩) (by assumption) ?reste5
                  case hye5 => (intro w hSw; (try dsimp only at hSw); go_simp; try (with_reducible rfl))
                  try simp only [Act.put, List.setIfInBounds_toArray, List.set_cons_zero, List.set_cons_succ]
                  refine wpAnyH_takeD (i := 6) (d := some 26) (v := ?ve6) rfl (by rfl) (by kernel_rfl) (by kernel_rfl) (by kernel_rfl) (fun _ _ _ h => h) (Or.inl ⟨by rfl, ?hye6⟩) (by assumption) ?reste6
                  case hye6 => (intro w hSw; (try dsimp only at hSw); go_simp; try (with_reducible rfl))
                  try simp only [Act.put, List.setIfInBounds_toArray, List.set_cons_zero, List.set_cons_succ]
                  refine wpAnyH_takeD (i := 7) (d := some 27) (v := ?ve7) rfl (by rfl) (by kernel_rfl) (by kernel_rfl) (by kernel_rfl) (fun _ _ _ h => h) (Or.inl ⟨by rfl, ?hye7⟩) (by assumption) ?reste7
                  case hye7 => (intro w hSw; (try dsimp only at hSw); go_simp; try (with_reducible rfl))
                  try simp only [Act.put, List.setIfInBounds_toArray, List.set_cons_zero, List.set_cons_succ]
                  refine wpAnyH_takeD (i := 8) (d := some 28) (v := ?ve8) rfl (by rfl) (by kernel_rfl) (by kernel_rfl) (by kernel_rfl) (fun _ _ _ h => h) (Or.inl ⟨by rfl, ?hye8⟩) (by assumption) ?reste8
                  case hye8 => (intro w hSw; (try dsimp only at hSw); go_simp; try (with_reducible rfl))
                  try simp only [Act.put, List.setIfInBounds_toArray, List.set_cons_zero, List.set_cons_succ]
                  refine wpAnyH_takeD (i := 9) (d := some 29) (v := ?ve9) rfl (by rfl) (by kernel_rfl) (by kernel_rfl) (by kernel_rfl) (fun _ _ _ h => h) (Or.inl ⟨by rfl, ?hye9⟩) (by assumption) ?reste9
                  case hye9 => (intro w hSw; (try dsimp only at hSw); go_simp; try (with_reducible rfl))
                  try simp only [Act.put, List.setIfInBounds_toArray, List.set_cons_zero, List.set_cons_succ]
                  refine wpAnyH_takeD (i := 10) (d := some 30) (v := ?ve10) rfl (by rfl) (by kernel_rfl) (by kernel_rfl) (by kernel_rfl) (fun _ _ _ h => h) (Or.inl ⟨by rfl, ?hye10⟩) (by assumption) ?reste10
                  case hye10 => (intro w hSw; (try dsimp only at hSw); go_simp; try (with_reducible rfl))
                  try simp only [Act.put, List.setIfInBounds_toArray, List.set_cons_zero, List.set_cons_succ]
                  refine wpAnyH_takeD (i := 11) (d := some 31) (v := ?ve11) rfl (by rfl) (by kernel_rfl) (by kernel_rfl) (by kernel_rfl) (fun _ _ _ h => h) (Or.inl ⟨by rfl, ?hye11⟩) (by assumption) ?reste11
                  case hye11 => (intro w hSw; (try dsimp only at hSw); go_simp; try (with_reducible rfl))
                  try simp only [Act.put, List.setIfInBounds_toArray, List.set_cons_zero, List.set_cons_succ]
                  refine wpAnyH_takeD (i := 12) (d := some 32) (v := ?ve12) rfl (by rfl) (by kernel_rfl) (by kernel_rfl) (by kernel_rfl) (fun _ _ _ h => h) (Or.inl ⟨by rfl, ?hye12⟩) (by assumption) ?reste12
                  case hye12 => (intro w hSw; (try dsimp only at hSw); go_simp; try (with_reducible rfl))
                  try simp only [Act.put, List.setIfInBounds_toArray, List.set_cons_zero, List.set_cons_succ]
                  refine wpAnyH_takeD (i := 13) (d := some 33) (v := ?ve13) rfl (by rfl) (by kernel_rfl) (by kernel_rfl) (by kernel_rfl) (fun _ _ _ h => h) (Or.inl ⟨by rfl, ?hye13⟩) (by assumption) ?reste13
                  case hye13 => (intro w hSw; (try dsimp only at hSw); go_simp; try (with_reducible rfl))
                  try simp only [Act.put, List.setIfInBounds_toArray, List.set_cons_zero, List.set_cons_succ]
                  refine wpAnyH_takeD (i := 14) (d := some 34) (v := ?ve14) rfl (by rfl) (by kernel_rfl) (by kernel_rfl) (by kernel_rfl) (fun _ _ _ h => h) (Or.inl ⟨by rfl, ?hye14⟩) (by assumption) ?reste14
                  case hye14 => (intro w hSw; (try dsimp only at hSw); go_simp; try (with_reducible rfl))
                  try simp only [Act.put, List.setIfInBounds_toArray, List.set_cons_zero, List.set_cons_succ]
                  refine wpAnyH_takeD (i := 15) (d := some 35) (v := ?ve15) rfl (by rfl) (by kernel_rfl) (by kernel_rfl) (by kernel_rfl) (fun _ _ _ h => h) (Or.inl ⟨by rfl, ?hye15⟩) (by assumption) ?reste15
                  case hye15 => (intro w hSw; (try dsimp only at hSw); go_simp; try (with_reducible rfl))
                  try simp only [Act.put, List.setIfInBounds_toArray, List.set_cons_zero, List.set_cons_succ]
                  refine wpAnyH_takeD (i := 16) (d := some 36) (v := ?ve16) rfl (by rfl) (by kernel_rfl) (by kernel_rfl) (by kernel_rfl) (fun _ _ _ h => h) (Or.inl ⟨by rfl, ?hye16⟩) (by assumption) ?reste16
                  case hye16 => (intro w hSw; (try dsimp only at hSw); go_simp; try (with_reducible rfl))
                  try simp only [Act.put, List.setIfInBounds_toArray, List.set_cons_zero, List.set_cons_succ]
                  refine wpAnyH_takeD (i := 17) (d := some 37) (v := ?ve17) rfl (by rfl) (by kernel_rfl) (by kernel_rfl) (by kernel_rfl) (fun _ _ _ h => h) (Or.inl ⟨by rfl, ?hye17⟩) (by assumption) ?reste17
                  case hye17 => (intro w hSw; (try dsimp only at hSw); go_simp; try (with_reducible rfl))
                  try simp only [Act.put, List.setIfInBounds_toArray, List.set_cons_zero, List.set_cons_succ]
                  refine wpAnyH_strikesD [(18, 38), (19, 39), (20, 40), (21, 41), (22, 42), (23, 43), (24, 44), (25, 45), (26, 46), (27, 47), (28, 48), (29, 49)] (by kernel_rfl) (fun _ _ _ _ h => h) (n := 12) (by assumption) rfl (by kernel_rfl) (by kernel_rfl) ?_
                  try simp only [List.foldl, Act.put, List.setIfInBounds_toArray, List.set_cons_zero, List.set_cons_succ]
                  refine wpAnyH_takeD (i := 30) (d := some 50) (v := ?ve19) rfl (by rfl) (by kernel_rfl) (by kernel_rfl) (by kernel_rfl) (fun _ _ _ h => h) (Or.inl ⟨by rfl, ?hye19⟩) (by assumption) ?reste19
                  case hye19 => (intro w hSw; (try dsimp only at hSw); go_simp; try (with_reducible rfl))
                  try simp only [Act.put, List.setIfInBounds_toArray, List.set_cons_zero, List.set_cons_succ]
                  refine wpAnyH_takeD (i := 31) (d := some 51) (v := ?ve20) rfl (by rfl) (by kernel_rfl) (by kernel_rfl) (by kernel_rfl) (fun _ _ _ h => h) (Or.inl ⟨by rfl, ?hye20⟩) (by assumption) ?reste20
                  case hye20 => (intro w hSw; (try dsimp only at hSw); go_simp; try (with_reducible rfl))
                  try simp only [Act.put, List.setIfInBounds_toArray, List.set_cons_zero, List.set_cons_succ]
                  refine wpAnyH_takeD (i := 32) (d := some 52) (v := ?ve21) rfl (by rfl) (by kernel_rfl) (by kernel_rfl) (by kernel_rfl) (fun _ _ _ h => h) (Or.inl ⟨by rfl, ?hye21⟩) (by assumption) ?reste21
                  case hye21 => (intro w hSw; (try dsimp only at hSw); go_simp; try (with_reducible rfl))
                  try simp only [Act.put, List.setIfInBounds_toArray, List.set_cons_zero, List.set_cons_succ]
                  refine wpAnyH_takeD (i := 33) (d := some 53) (v := ?ve22) rfl (by rfl) (by kernel_rfl) (by kernel_rfl) (by kernel_rfl) (fun _ _ _ h => h) (Or.inl ⟨by rfl, ?hye22⟩) (by assumption) ?reste22
                  case hye22 => (intro w hSw; (try dsimp only at hSw); go_simp; try (with_reducible rfl))
                  try simp only [Act.put, List.setIfInBounds_toArray, List.set_cons_zero, List.set_cons_succ]
                  refine wpAnyH_takeD (i := 34) (d := some 54) (v := ?ve23) rfl (by rfl) (by kernel_rfl) (by kernel_rfl) (by kernel_rfl) (fun _ _ _ h => h) (Or.inl ⟨by rfl, ?hye23⟩) (by assumption) ?reste23
                  case hye23 => (intro w hSw; (try dsimp only at hSw); go_simp; try (with_reducible rfl))
                  try simp only [Act.put, List.setIfInBounds_toArray, List.set_cons_zero, List.set_cons_succ]
                  refine wpAnyH_takeD (i := 35) (d := some 55) (v := ?ve24) rfl (by rfl) (by kernel_rfl) (by kernel_rfl) (by kernel_rfl) (fun _ _ _ h => h) (Or.inl ⟨by rfl, ?hye24⟩) (by assumption) ?reste24
                  case hye24 => (intro w hSw; (try dsimp only at hSw); go_simp; try (with_reducible rfl))
                  try simp only [Act.put, List.setIfInBounds_toArray, List.set_cons_zero, List.set_cons_succ]
                  refine wpAnyH_takeD (i := 36) (d := some 56) (v := ?ve25) rfl (by rfl) (by kernel_rfl) (by kernel_rfl) (by kernel_rfl) (fun _ _ _ h => h) (Or.inl ⟨by rfl, ?hye25⟩) (by assumption) ?reste25
                  case hye25 => (intro w hSw; (try dsimp only at hSw); go_simp; try (with_reducible rfl))
                  try simp only [Act.put, List.setIfInBounds_toArray, List.set_cons_zero, List.set_cons_succ]
                  refine wpAnyH_takeD (i := 37) (d := some 57) (v := ?ve26) rfl (by rfl) (by kernel_rfl) (by kernel_rfl) (by kernel_rfl) (fun _ _ _ h => h) (Or.inl ⟨by rfl, ?hye26⟩) (by assumption) ?reste26
                  case hye26 => (intro w hSw; (try dsimp only at hSw); go_simp; try (with_reducible rfl))
                  try simp only [Act.put, List.setIfInBounds_toArray, List.set_cons_zero, List.set_cons_succ]
                  refine wpAnyH_takeD (i := 38) (d := some 58) (v := ?ve27) rfl (by rfl) (by kernel_rfl) (by kernel_rfl) (by kernel_rfl) (fun _ _ _ h => h) (Or.inl ⟨by rfl, ?hye27⟩) (by assumption) ?reste27
                  case hye27 => (intro w hSw; (try dsimp only at hSw); go_simp; try (with_reducible rfl))
                  try simp only [Act.put, List.setIfInBounds_toArray, List.set_cons_zero, List.set_cons_succ]
                  refine wpAnyH_takeD (i := 39) (d := some 59) (v := ?ve28) rfl (by rfl) (by kernel_rfl) (by kernel_rfl) (by kernel_rfl) (fun _ _ _ h => h) (Or.inl ⟨by rfl, ?hye28⟩) (by assumption) ?reste28
                  case hye28 => (intro w hSw; (try dsimp only at hSw); go_simp; try (with_reducible rfl))
                  try simp only [Act.put, List.setIfInBounds_toArray, List.set_cons_zero, List.set_cons_succ]
                  refine wpAnyH_ready (rs := [40]) (by kernel_rfl) (by simp) ?_
                  refine AllReadyH.cons rfl (fun K hK => ?_) AllReadyH.nil
                  go_simp
                  go_at_call 61
                  (with_reducible refine (W0.out _).mono ?_)
                  rintro e w7 ⟨rfl, hb7⟩
                  have hfe29 := C0.out _ (hbd.trans (hb7.mono hbd.size))
                  refine hK.out _ _ hfe29 (fun hHelde29 => ?_)
                  clear hK K
                  try simp only [Act.put, List.setIfInBounds_toArray, List.set_cons_zero, List.set_cons_succ]
                  refine wpAnyH_takeD (i := 41) (d := some 61) (v := ?ve30) rfl (by rfl) (by kernel_rfl) (by kernel_rfl) (by kernel_rfl) (fun _ _ _ h => h) (Or.inl ⟨by rfl, ?hye30⟩) (by assumption) ?reste30
                  case hye30 => (intro w hSw; (try dsimp only at hSw); go_simp; try (with_reducible rfl))
                  try simp only [Act.put, List.setIfInBounds_toArray, List.set_cons_zero, List.set_cons_succ]
                  refine wpAnyH_takeD (i := 42) (d := some 62) (v := ?ve31) rfl (by rfl) (by kernel_rfl) (by kernel_rfl) (by kernel_rfl) (fun _ _ _ h => h) (Or.inl ⟨by rfl, ?hye31⟩) (by assumption) ?reste31
                  case hye31 => (intro w hSw; (try dsimp only at hSw); go_simp; try (with_reducible rfl))
                  try simp only [Act.put, List.setIfInBounds_toArray, List.set_cons_zero, List.set_cons_succ]
                  refine wpAnyH_done (by kernel_rfl) ?_ _
                  go_wp2
                  go_ret
                  exact ⟨by rw [NOT.out k hlt hn.out]; rfl, (hb.out.trans (hbd.mono hb.out.size)).trans (hb7.mono (Nat.le_trans hb.out.size hbd.size))⟩
              · obtain ⟨k', hkk'⟩ : ∃ k', k = k' + 1 := ⟨k - 1, by omega⟩
                have hp1 := HP.out k' hkk'
                have C1 : Hid (∀ W, Below wr.heap.size wr W → W.cell? ⟨b, off + k * 3, none⟩ = some (.int .i64 key) ∧ W.cell? ⟨b, off + k * 3 + 1, none⟩ = some (.string y) ∧ W.cell? ⟨b, off + k' * 3, none⟩ = some (.int .i64 P)) := fun W hW => ⟨(hW.cell (p := ⟨b, off + k * 3, none⟩) (cell_lt c0)).trans c0, (hW.cell (p := ⟨b, off + k * 3 + 1, none⟩) (cell_lt c1)).trans c1, (hW.cell (p := ⟨b, off + k' * 3, none⟩) (cell_lt hp1)).trans hp1⟩
                have e11 : IntKind.i64.wrap ((k : Int) - 1) = (k' : Int) := by rw [IntKind.wrap_i64]; omega
                have e12 : IntKind.i64.wrap (k' : Int) = (k' : Int) := by rw [IntKind.wrap_i64]; omega
                have e13 : (k' : Int) < (N : Int) := by omega
                have e9 : decide ((0 : Int) < (k : Int)) = true := decide_eq_true (by omega)
                have e9b : decide (0 < k) = true := decide_eq_true (by omega)
                have e10 : k' < N := by omega
                have cd1 := C1.out _ hbd
                by_cases g3 : key ≤ P
                · have hn : Hid (at17 wd l k = false) := by
                    show _ = _
                    rw [Bool.eq_false_iff]
                    intro h
                    rcases (HAT.out.1 h).2.2.1 with h | h <;> omega
                  have hdl : decide (key ≤ P) = true := decide_eq_true g3
                  clear HAT HP C0 C1 hsz hkk'
                  go_wp2
                  go_quiet (fail)
                  go_wp2
                  go_ret
                  exact ⟨by rw [NOT.out k hlt hn.out]; rfl, below_drewN hb.out _⟩
                · have hdl : decide (key ≤ P) = false := decide_eq_false g3
                  by_cases g4 : y.size = wd
                  · have hne3 : ((y.size : Int) != (wd : Int)) = false := by rw [g4]; simp
                    have hn : Hid (at17 wd l k = true) := HAT.out.2 ⟨by omega, by have e : maxK = 281474976710655 := rfl; omega, .inr (by omega), by omega⟩
                    have HG4 := Lib.hid g4
                    clear HAT HP hsz c0 c1 cw cd hp1 hkk' g4 hk0 C0
                    go_wp2
                    go_region_held3 (fun W => W.cell? ⟨b, off + k * 3, none⟩ = some (.int .i64 key) ∧ W.cell? ⟨b, off + k * 3 + 1, none⟩ = some (.string y) ∧ W.cell? ⟨b, off + k' * 3, none⟩ = some (.int .i64 P))
                      (first | assumption | exact C1.out _ (Below.refl _ _) | go_keep)
                      (first | (go_at_call 61; (with_reducible refine (W0.out _).mono ?_); rintro e w7 ⟨rfl, hb7⟩; have hf7 := C1.out _ (hbd.trans (hb7.mono hbd.size))))
                    go_wp2
                    go_roundw
                    case rel => exact ⟨k + 1, by omega, by go_num, at17_more hat.out hn.out, (hb.out.trans (hbd.mono hb.out.size)).trans (hb7.mono (Nat.le_trans hb.out.size hbd.size))⟩
                    case measure => simp [intOf]; omega
                  · have hne3 : ((y.size : Int) != (wd : Int)) = true := by simp; omega
                    have hn : Hid (at17 wd l k = false) := by
                      show _ = _
                      rw [Bool.eq_false_iff]
                      exact fun h => g4 (hsz.trans (HAT.out.1 h).2.2.2)
                    clear HAT HP hsz c0 c1 cw cd hp1 hkk' g4 hk0 C0
                    go_wp2
                    go_region_held3 (fun W => W.cell? ⟨b, off + k * 3, none⟩ = some (.int .i64 key) ∧ W.cell? ⟨b, off + k * 3 + 1, none⟩ = some (.string y) ∧ W.cell? ⟨b, off + k' * 3, none⟩ = some (.int .i64 P))
                      (first | assumption | exact C1.out _ (Below.refl _ _) | go_keep)
                      (first | (go_at_call 61; (with_reducible refine (W0.out _).mono ?_); rintro e w7 ⟨rfl, hb7⟩; have hf7 := C1.out _ (hbd.trans (hb7.mono hbd.size))))
                    go_wp2
                    go_ret
                    exact ⟨by rw [NOT.out k hlt hn.out]; rfl, (hb.out.trans (hbd.mono hb.out.size)).trans (hb7.mono (Nat.le_trans hb.out.size hbd.size))⟩
        · obtain rfl : k = N := by omega
          go_wp2
          go_ret
          exact ⟨by rw [YES.out hat.out]; rfl, hb.out⟩
    · have hR : rightB17 tree l = false := by
        cases e : rightB17 tree l with
        | false => rfl
        | true =>
          simp only [rightB17, Bool.and_eq_true, decide_eq_true_eq] at e
          exact absurd e.1.2 hz2
      rw [hR]
      have hd : decide ((32768 : Int) < (l.length : Int)) = true := decide_eq_true (by omega)
      have hd2 : decide (32768 < l.length) = true := decide_eq_true (by omega)
      generalize capN (widN tree true) = cp at *
      clear hR h hB
      generalize l.length = N at *
      go_enter Tryz.func33, Tryz.ntmps33
      go_wp2_with (go_at_call 35; (with_reducible refine (MX.out _).mono ?_); rintro e w1 ⟨rfl, hb1⟩)
      go_ret
      exact ⟨rfl, hb1⟩
end Go.Proofs.YtnjlganofjkpfaaGreatDoor

/-
  Layer 10: decode, and the function literal that takes from the input.
-/
namespace Go.Proofs.YtnjlganofjkpfaaGreatDoor
open Go.RowKit
set_option linter.unusedVariables false
set_option linter.unusedSimpArgs false

/-- the bytes from s on -/
theorem Bytes8.rest {w : World} {b off m c : Nat} {l : List UInt8} (h : Bytes8 w (some ⟨b, off, none⟩) m c l) {s : Nat} (hs : s ≤ m) : Bytes8 w (if c = s then some ⟨b, off, none⟩ else some ⟨b, off + s, none⟩) (m - s) (c - s) (l.drop s) := by
  have hc := h.cap
  have hm := h.most
  refine ⟨by rw [List.length_drop, h.len], by omega, by omega, ?_⟩
  have := h.row.cut_lit (m := s) (c := c) (by rw [u8s_length, h.len]; exact hc)
  rwa [u8s_drop] at this
theorem Bytes8.first {w : World} {A : Option Addr} {m c : Nat} {l : List UInt8} (h : Bytes8 w A m c l) {s : Nat} (hs : s ≤ m) : Bytes8 w A s c (l.take s) := by
  have hc := h.cap
  refine ⟨by rw [List.length_take, h.len]; omega, by omega, h.most, ?_⟩
  have := h.row.take s
  rwa [u8s_take] at this

/-- a variable that holds a slice of bytes -/
def RestAt (w : World) (q : Nat) (A : Option Addr) (m c : Nat) : Prop := w.heap[q]? = some (.cells #[.slice A m c] 29 (0, 0))

/-! ### decode -/
end Go.Proofs.YtnjlganofjkpfaaGreatDoor

/-
  Layer 10: Read.
-/
namespace Go.Proofs.YtnjlganofjkpfaaGreatDoor
open Go.RowKit
set_option linter.unusedVariables false
set_option linter.unusedSimpArgs false

theorem readSE10_bad {b : List UInt8} (h : formS b = false) : readSE10 b = 7 ∧ readSL10 b = [] := by
  have e : readSE10 b = 7 := by rw [readSE10, h]; rfl
  exact ⟨e, by rw [readSL10, if_neg (by rw [e]; decide)]⟩
/-- what Read answers -/
def SlRd (b : List UInt8) (w : World) (e : Ending) (w' : World) : Prop := ∃ A m c, e = .returned (.tuple #[.slice A m c, .int .i64 (readSE10 b)]) ∧ Trs w' A m c (readSL10 b) ∧ Below w.heap.size w w'
theorem SlRd.bad {b : List UInt8} {w w' : World} (h : formS b = false) (hb : Below w.heap.size w w') : SlRd b w (.returned (.tuple #[.slice none 0 0, .int .i64 7])) w' := by
  obtain ⟨e1, e2⟩ := readSE10_bad h
  exact ⟨none, 0, 0, by rw [e1], by rw [e2]; exact Trs.nil _, hb⟩

/-- the texts as they are taken -/
def tookP (l : List UInt8) (N k : Nat) : List (List UInt8) := (List.range k).map (sltAt10 l) ++ List.replicate (N - k) []
theorem tookP_length (l : List UInt8) {N k : Nat} (h : k ≤ N) : (tookP l N k).length = N := by simp [tookP]; omega
theorem tookP_step (l : List UInt8) {N k : Nat} (hk : k < N) : (tookP l N k).set k (sltAt10 l k) = tookP l N (k + 1) := by
  rw [tookP, List.set_append_right _ _ (by simp), tookP, List.range_succ, List.map_append, show N - k = (N - (k + 1)) + 1 by omega, List.replicate_succ]
  simp

/-- what Read keeps: its variable, the texts, all below as it was -/
structure TookAt (w W : World) (q g : Nat) (l : List UInt8) (N k : Nat) : Prop where
  bel : Below w.heap.size w W
  low : w.heap.size ≤ q
  apart : g ≠ q
  txt : OwnT W w.heap.size g (tookP l N k)
  rest : ∃ A m c, RestAt W q A m c ∧ Bytes8 w A m c (l.drop (4 + 16 * k))

theorem TookAt.step {w W : World} {q g : Nat} {l : List UInt8} {N k : Nat} (h : TookAt w W q g l N k) (hk : k < N) (hl : l.length = 244) (hN : N ≤ 15) : ∃ A m c, 16 ≤ m ∧ Bytes8 w A m c (l.drop (4 + 16 * k)) ∧ RestAt W q A m c ∧
    ∀ A2, Bytes8 w A2 (m - 16) (c - 16) ((l.drop (4 + 16 * k)).drop 16) → (convert 29 9 (.slice A 16 c)).run Tryz.prog (W.setCell ⟨q, 0, none⟩ (.slice A2 (m - 16) (c - 16))) = .ok (.string ⟨(sltAt10 l k).toArray⟩) (W.setCell ⟨q, 0, none⟩ (.slice A2 (m - 16) (c - 16))) ∧
      (∃ z, (W.setCell ⟨q, 0, none⟩ (.slice A2 (m - 16) (c - 16))).cell? ⟨g, k, none⟩ = some (.string z)) ∧ (W.setCell ⟨q, 0, none⟩ (.slice A2 (m - 16) (c - 16))).frozen? ⟨g, k, none⟩ = false ∧
      TookAt w ((W.setCell ⟨q, 0, none⟩ (.slice A2 (m - 16) (c - 16))).setCell ⟨g, k, none⟩ (.string ⟨(sltAt10 l k).toArray⟩)) q g l N (k + 1) := by
  obtain ⟨A, m, c, hr, hB⟩ := h.rest
  have hm : m = 244 - (4 + 16 * k) := by rw [← hB.len, List.length_drop, hl]
  have hm2 : 16 ≤ m := by omega
  refine ⟨A, m, c, hm2, hB, hr, fun A2 hB2 => ?_⟩
  have hb2 : Below w.heap.size w (W.setCell ⟨q, 0, none⟩ (.slice A2 (m - 16) (c - 16))) := h.bel.setCell (p := ⟨q, 0, none⟩) h.low _
  have hT2 : OwnT (W.setCell ⟨q, 0, none⟩ (.slice A2 (m - 16) (c - 16))) w.heap.size g (tookP l N k) := h.txt.other _ _ h.apart
  have hr2 : RestAt (W.setCell ⟨q, 0, none⟩ (.slice A2 (m - 16) (c - 16))) q A2 (m - 16) (c - 16) := by
    unfold RestAt
    rw [heap_setCell_same _ q 0 _ _ _ hr]
    rfl
  refine ⟨run_str ((hB.first hm2).below hb2), ⟨_, hT2.cell (by rw [tookP_length l (by omega)]; exact hk)⟩, hT2.free k, ?_⟩
  refine ⟨hb2.setCell (p := ⟨g, k, none⟩) h.txt.low _, h.low, h.apart, ?_, ⟨A2, m - 16, c - 16, ?_, ?_⟩⟩
  · have := hT2.set k (sltAt10 l k)
    rw [tookP_step l hk] at this
    exact this
  · unfold RestAt
    rw [heap_setCell_other _ _ q _ (fun e => h.apart e.symm)]
    exact hr2
  · rw [List.drop_drop] at hB2
    exact hB2

end Go.Proofs.YtnjlganofjkpfaaGreatDoor

/-
  Layer 10: the reference's Read.
-/
namespace Go.Proofs.YtnjlganofjkpfaaGreatDoor
open Go.RowKit
set_option linter.unusedVariables false
set_option linter.unusedSimpArgs false

/-- what Read answers, and what it hands back is newer than all that stood -/
def SlRdF (b : List UInt8) (w : World) (e : Ending) (w' : World) : Prop := ∃ A m c, e = .returned (.tuple #[.slice A m c, .int .i64 (readSE10 b)]) ∧ Trs w' A m c (readSL10 b) ∧ Below w.heap.size w w' ∧ Newer w.heap.size A
theorem SlRdF.bad {b : List UInt8} {w w' : World} (h : formS b = false) (hb : Below w.heap.size w w') : SlRdF b w (.returned (.tuple #[.slice none 0 0, .int .i64 7])) w' := by
  obtain ⟨h1, h2⟩ := readSE10_bad h
  exact ⟨none, 0, 0, by rw [h1], by rw [h2]; exact Trs.nil _, hb, Newer.nil _⟩

end Go.Proofs.YtnjlganofjkpfaaGreatDoor
