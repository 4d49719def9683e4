/-
  Layer 10: lives; the reference's Same over equal lists.
-/
import Derived.Test.YtolapeocdaknjaaSlotC
import Derived.Deep.OwnRows
import Derived.Test.YtolapeocdaknjaaRegS
import Derived.Deep.QuietTactic
import Derived.BigQuiet
namespace Go.Proofs.Ytolapeocdaknjaa
open Go.RowKit
set_option linter.unusedVariables false
set_option linter.unusedSimpArgs false

/-! ### the document's example, and one slot -/
abbrev sltZ : List UInt8 := List.replicate 244 0
abbrev sltZB : Obj := .cells (u8s sltZ).toArray 5
theorem slot_make (W : World) : (Instr.makeSlice 24 (.int .i64 244) (.int .i64 244)).run Try.prog W = .ok (.slice (some ⟨W.heap.size, 0, none⟩) 244 244) (W.alloc (.cells (u8s sltZ).toArray 5)) := by
  have e : madeCells #[Value.int .u8 0] 244 = (u8s sltZ).toArray := by
    apply Array.ext'
    rw [zeros_u8]
  rw [← e]
  exact run_make_row' 24 5 (.int .u8 0) 1 Try.underlying24 info_u8 rfl .i64 .i64 244 (by omega) (by omega) W
theorem enc_none : encS10 [] = sltZ := by rfl
theorem slot_one : okS10 [(7, 1, 2)] = true := by decide

theorem slives_region {w : World} {g : Nat} {B : Nat} (h : Own8 w B g (encS10 [])) {z : ByteArray} (hz : z = ⟨sltZ.toArray⟩) :
    (convert 24 9 (.slice (some ⟨g, 0, none⟩) 244 244)).run Try.prog w.drew = .ok (.string z) w.drew ∧
    (convert 24 9 (.slice (some ⟨g, 0, none⟩) 244 244)).run Try.prog (w.alloc sltZB).drew = .ok (.string z) (w.alloc sltZB).drew ∧
    (convert 24 9 (.slice (some ⟨w.heap.size, 0, none⟩) 244 244)).run Try.prog (w.alloc sltZB).drew = .ok (.string z) (w.alloc sltZB).drew := by
  rw [enc_none] at h
  have b1 : Below w.heap.size w (w.alloc sltZB) := (Below.refl _ _).alloc (Nat.le_refl _) _
  have B0 : Bytes8 w.drew (some ⟨g, 0, none⟩) 244 244 sltZ := (show Own8 w.drew B g sltZ from ⟨h.low, h.blk⟩).bytes (n := 244) List.length_replicate (by omega)
  have B1 : Bytes8 (w.alloc sltZB).drew (some ⟨g, 0, none⟩) 244 244 sltZ := (show Own8 (w.alloc sltZB).drew B g sltZ from ⟨h.low, (h.later b1).blk⟩).bytes (n := 244) List.length_replicate (by omega)
  have B2 : Bytes8 (w.alloc sltZB).drew (some ⟨w.heap.size, 0, none⟩) 244 244 sltZ := ⟨List.length_replicate, Nat.le_refl _, by omega, Row.of_block (t := 5) (fr := (0, 0)) (heap_alloc_new w sltZB)⟩
  rw [hz]
  exact ⟨run_str B0, run_str B1, run_str B2⟩

set_option maxRecDepth 100000 in
set_option maxHeartbeats 1600000 in
theorem lives10_any (w : World) : Calls Try.prog 6 #[] w fun e w' => e = .returned (.bool true) ∧ Below w.heap.size w w' := by
  have P0 : Hid (Calls Try.prog 7 #[.slice none 0 0] w fun e w' => ∃ g, e = .returned (.tuple #[.slice (some ⟨g, 0, none⟩) 244 244, .int .i64 0]) ∧ Own8 w' w.heap.size g (encS10 []) ∧ Below w.heap.size w w') :=
    (SlPut_any none 0 0 [] w (Trs.nil w) (fun q hq => by cases hq)).mono fun e w' ⟨h1, _, h3⟩ => by
      obtain ⟨g, he, hO⟩ := h1 rfl
      exact ⟨g, he, hO, h3⟩
  have P1 : Hid (∀ W, Calls Try.prog 7 #[.slice (some ⟨W.heap.size, 0, none⟩) 1 1] (W.alloc (.cells #[.int .i64 7, .int .i64 1, .int .i64 2] 38)) fun e w' => ∃ g, e = .returned (.tuple #[.slice (some ⟨g, 0, none⟩) 244 244, .int .i64 0]) ∧ Own8 w' W.heap.size g (encS10 [(7, 1, 2)]) ∧ Below W.heap.size W w') := fun W => by
    have hO : OwnR (W.alloc (.cells #[.int .i64 7, .int .i64 1, .int .i64 2] 38)) 38 0 W.heap.size [(7, 1, 2)] := ⟨Nat.zero_le _, heap_alloc_new W _⟩
    have hb : Below W.heap.size W (W.alloc (.cells #[.int .i64 7, .int .i64 1, .int .i64 2] 38)) := (Below.refl _ _).alloc (Nat.le_refl _) _
    refine (SlPut_any _ 1 1 [(7, 1, 2)] _ (hO.trs rfl (by omega)) (fun q hq => by rw [List.mem_singleton] at hq; subst hq; simp [sltBd, i64b])).mono ?_
    rintro e w' ⟨h1, _, h3⟩
    obtain ⟨g, he, hO⟩ := h1 slot_one
    exact ⟨g, he, hO.down hb.size, hb.trans (h3.mono hb.size)⟩
  have P2 : Hid (∀ W B g, Own8 W B g (encS10 [(7, 1, 2)]) → Calls Try.prog 9 #[.slice (some ⟨g, 0, none⟩) 244 244] W fun e w' => ∃ b off c, e = .returned (.tuple #[.slice (some ⟨b, off, none⟩) 1 c, .int .i64 0]) ∧ w'.cell? ⟨b, off, none⟩ = some (.int .i64 7) ∧ b < w'.heap.size ∧ Below W.heap.size W w') := fun W B g hO => by
    refine (SlRead_any _ 244 244 _ W (hO.bytes (n := 244) (encS10_length (by decide)) (by omega))).mono ?_
    rintro e w' ⟨A, m, c, rfl, hT, hb⟩
    obtain ⟨e1, e2⟩ := slots_read slot_one
    rw [readSL10, if_pos e1, e2] at hT
    obtain rfl := hT.len
    obtain ⟨b, off, rfl, hlt, hc⟩ := hT.lit (by decide)
    exact ⟨b, off, c, by rw [e1]; rfl, (hc 0 (by decide)).1, hlt, hb⟩
  go_enter Try.func6, Try.ntmps6
  go_wp2_with (first
    | ((with_reducible refine (P2.out _ _ g2 hO2.out).mono ?_); rintro e w3 ⟨b3, o3, c3, rfl, hc3, hlt3, hb3⟩)
    | ((with_reducible refine (P1.out _).mono ?_); rintro e w2 ⟨g2, rfl, hO2', hb2⟩; have hO2 := Lib.hid hO2'; clear hO2')
    | ((with_reducible refine (P0.out).mono ?_); rintro e w1 ⟨g1, rfl, hO1', hb1⟩; have hO1 := Lib.hid hO1'; clear hO1'))
  obtain ⟨z, hz⟩ : ∃ z : ByteArray, z = ⟨sltZ.toArray⟩ := ⟨_, rfl⟩
  obtain ⟨cv1, cv2, cv3⟩ := slives_region ((hO1.out.later hb2).later hb3) hz
  have HB : Hid (Below w.heap.size w (w3.alloc sltZB).drew) := (((hb1.trans (hb2.mono hb1.size)).trans (hb3.mono (Nat.le_trans hb1.size hb2.size))).alloc (by have := hb1.size; have := hb2.size; have := hb3.size; omega) _).drew
  have ha3 : (w3.alloc sltZB).cell? ⟨b3, o3, none⟩ = some (.int .i64 7) := (((Below.refl w3.heap.size w3).alloc (Nat.le_refl _) sltZB).cell (p := ⟨b3, o3, none⟩) hlt3).trans hc3
  have mk := slot_make w3.drew
  clear hz hb1 hb2 hb3 hO1 hO2 P0 P1 P2
  have f1 : w3.drew.cell? ⟨b3, o3, none⟩ = some (.int .i64 7) ∧ (convert 24 9 (.slice (some ⟨g1, 0, none⟩) 244 244)).run Try.prog w3.drew = .ok (.string z) w3.drew := ⟨hc3, cv1⟩
  have f2 : (w3.alloc sltZB).drew.cell? ⟨b3, o3, none⟩ = some (.int .i64 7) ∧ (convert 24 9 (.slice (some ⟨g1, 0, none⟩) 244 244)).run Try.prog (w3.alloc sltZB).drew = .ok (.string z) (w3.alloc sltZB).drew := ⟨ha3, cv2⟩
  have f3 : (w3.alloc sltZB).drew.cell? ⟨b3, o3, none⟩ = some (.int .i64 7) ∧ (convert 24 9 (.slice (some ⟨w3.heap.size, 0, none⟩) 244 244)).run Try.prog (w3.alloc sltZB).drew = .ok (.string z) (w3.alloc sltZB).drew := ⟨ha3, cv3⟩
  clear hc3 ha3 cv1 cv2 cv3
  refine wp_region_held_drew (S := (fun W => W.cell? ⟨b3, o3, none⟩ = some (.int .i64 7) ∧ (convert 24 9 (.slice (some ⟨g1, 0, none⟩) 244 244)).run Try.prog W = .ok (.string z) W)) (by kernel_rfl) (by assumption) (fun hHeld => ?_)
  refine wpAnyH_takeD (i := 0) (d := some 22) (v := ?va0) rfl (by rfl) (by kernel_rfl) (by kernel_rfl) (by kernel_rfl) (fun _ _ _ h => h) (Or.inl ⟨by rfl, ?hya0⟩) (by assumption) ?resta0
  case hya0 => (intro w hSw; (try dsimp only at hSw); go_simp; try (with_reducible rfl))
  try simp only [Act.put, List.setIfInBounds_toArray, List.set_cons_zero, List.set_cons_succ]
  refine wpAnyH_takeD (i := 1) (d := some 23) (v := ?va1) rfl (by rfl) (by kernel_rfl) (by kernel_rfl) (by kernel_rfl) (fun _ _ _ h => h) (Or.inl ⟨by rfl, ?hya1⟩) (by assumption) ?resta1
  case hya1 => (intro w hSw; (try dsimp only at hSw); go_simp; try (with_reducible rfl))
  try simp only [Act.put, List.setIfInBounds_toArray, List.set_cons_zero, List.set_cons_succ]
  refine wpAnyH_ready (rs := [2]) (by kernel_rfl) (by simp) ?_
  refine AllReadyH.cons rfl (fun K hK => ?_) AllReadyH.nil
  go_simp
  refine hK.out _ _ f2 (fun hHeld2 => ?_)
  clear hK K
  try simp only [Act.put, List.setIfInBounds_toArray, List.set_cons_zero, List.set_cons_succ]
  refine wpAnyH_sub (S2 := fun W => (W.cell? ⟨b3, o3, none⟩ = some (.int .i64 7) ∧ (convert 24 9 (.slice (some ⟨g1, 0, none⟩) 244 244)).run Try.prog W = .ok (.string z) W) ∧ (convert 24 9 (.slice (some ⟨w3.heap.size, 0, none⟩) 244 244)).run Try.prog W = .ok (.string z) W) (fun _ h => h.1) _ _ _ _ ?_
  have f4 : ((w3.alloc sltZB).drew.cell? ⟨b3, o3, none⟩ = some (.int .i64 7) ∧ (convert 24 9 (.slice (some ⟨g1, 0, none⟩) 244 244)).run Try.prog (w3.alloc sltZB).drew = .ok (.string z) (w3.alloc sltZB).drew) ∧ (convert 24 9 (.slice (some ⟨w3.heap.size, 0, none⟩) 244 244)).run Try.prog (w3.alloc sltZB).drew = .ok (.string z) (w3.alloc sltZB).drew := ⟨f2, f3.2⟩
  refine wpAnyH_takeD (i := 3) (d := some 25) (v := ?vb0) rfl (by rfl) (by kernel_rfl) (by kernel_rfl) (by kernel_rfl) (fun _ _ _ h => h) (Or.inl ⟨by rfl, ?hyb0⟩) f4 ?restb0
  case hyb0 => (intro w hSw; (try dsimp only at hSw); go_simp; try (with_reducible rfl))
  try simp only [Act.put, List.setIfInBounds_toArray, List.set_cons_zero, List.set_cons_succ]
  refine wpAnyH_takeD (i := 4) (d := some 26) (v := ?vb1) rfl (by rfl) (by kernel_rfl) (by kernel_rfl) (by kernel_rfl) (fun _ _ _ h => h) (Or.inl ⟨by rfl, ?hyb1⟩) f4 ?restb1
  case hyb1 => (intro w hSw; (try dsimp only at hSw); go_simp; try (with_reducible rfl))
  try simp only [Act.put, List.setIfInBounds_toArray, List.set_cons_zero, List.set_cons_succ]
  refine wpAnyH_takeD (i := 5) (d := some 27) (v := ?vb2) rfl (by rfl) (by kernel_rfl) (by kernel_rfl) (by kernel_rfl) (fun _ _ _ h => h) (Or.inl ⟨by rfl, ?hyb2⟩) f4 ?restb2
  case hyb2 => (intro w hSw; (try dsimp only at hSw); go_simp; try (with_reducible rfl))
  try simp only [Act.put, List.setIfInBounds_toArray, List.set_cons_zero, List.set_cons_succ]
  refine wpAnyH_takeD (i := 6) (d := some 28) (v := ?vb3) rfl (by rfl) (by kernel_rfl) (by kernel_rfl) (by kernel_rfl) (fun _ _ _ h => h) (Or.inl ⟨by rfl, ?hyb3⟩) f4 ?restb3
  case hyb3 => (intro w hSw; (try dsimp only at hSw); go_simp; try (with_reducible rfl))
  try simp only [Act.put, List.setIfInBounds_toArray, List.set_cons_zero, List.set_cons_succ]
  refine wpAnyH_takeD (i := 7) (d := some 29) (v := ?vb4) rfl (by rfl) (by kernel_rfl) (by kernel_rfl) (by kernel_rfl) (fun _ _ _ h => h) (Or.inl ⟨by rfl, ?hyb4⟩) f4 ?restb4
  case hyb4 => (intro w hSw; (try dsimp only at hSw); go_simp; try (with_reducible rfl))
  try simp only [Act.put, List.setIfInBounds_toArray, List.set_cons_zero, List.set_cons_succ]
  refine wpAnyH_takeD (i := 8) (d := some 30) (v := ?vb5) rfl (by rfl) (by kernel_rfl) (by kernel_rfl) (by kernel_rfl) (fun _ _ _ h => h) (Or.inl ⟨by rfl, ?hyb5⟩) f4 ?restb5
  case hyb5 => (intro w hSw; (try dsimp only at hSw); go_simp; try (with_reducible rfl))
  try simp only [Act.put, List.setIfInBounds_toArray, List.set_cons_zero, List.set_cons_succ]
  refine wpAnyH_takeD (i := 9) (d := some 31) (v := ?vb6) rfl (by rfl) (by kernel_rfl) (by kernel_rfl) (by kernel_rfl) (fun _ _ _ h => h) (Or.inl ⟨by rfl, ?hyb6⟩) f4 ?restb6
  case hyb6 => (intro w hSw; (try dsimp only at hSw); go_simp; try (with_reducible rfl))
  try simp only [Act.put, List.setIfInBounds_toArray, List.set_cons_zero, List.set_cons_succ]
  refine wpAnyH_takeD (i := 10) (d := some 32) (v := ?vb7) rfl (by rfl) (by kernel_rfl) (by kernel_rfl) (by kernel_rfl) (fun _ _ _ h => h) (Or.inl ⟨by rfl, ?hyb7⟩) f4 ?restb7
  case hyb7 => (intro w hSw; (try dsimp only at hSw); go_simp; try (with_reducible rfl))
  try simp only [Act.put, List.setIfInBounds_toArray, List.set_cons_zero, List.set_cons_succ]
  refine wpAnyH_takeD (i := 11) (d := some 33) (v := ?vb8) rfl (by rfl) (by kernel_rfl) (by kernel_rfl) (by kernel_rfl) (fun _ _ _ h => h) (Or.inl ⟨by rfl, ?hyb8⟩) f4 ?restb8
  case hyb8 => (intro w hSw; (try dsimp only at hSw); go_simp; try (with_reducible rfl))
  try simp only [Act.put, List.setIfInBounds_toArray, List.set_cons_zero, List.set_cons_succ]
  refine wpAnyH_takeD (i := 12) (d := some 34) (v := ?vb9) rfl (by rfl) (by kernel_rfl) (by kernel_rfl) (by kernel_rfl) (fun _ _ _ h => h) (Or.inl ⟨by rfl, ?hyb9⟩) f4 ?restb9
  case hyb9 => (intro w hSw; (try dsimp only at hSw); go_simp; try (with_reducible rfl))
  try simp only [Act.put, List.setIfInBounds_toArray, List.set_cons_zero, List.set_cons_succ]
  refine wpAnyH_takeD (i := 13) (d := some 35) (v := ?vb10) rfl (by rfl) (by kernel_rfl) (by kernel_rfl) (by kernel_rfl) (fun _ _ _ h => h) (Or.inl ⟨by rfl, ?hyb10⟩) f4 ?restb10
  case hyb10 => (intro w hSw; (try dsimp only at hSw); go_simp; try (with_reducible rfl))
  try simp only [Act.put, List.setIfInBounds_toArray, List.set_cons_zero, List.set_cons_succ]
  refine wpAnyH_takeD (i := 14) (d := some 36) (v := ?vb11) rfl (by rfl) (by kernel_rfl) (by kernel_rfl) (by kernel_rfl) (fun _ _ _ h => h) (Or.inl ⟨by rfl, ?hyb11⟩) f4 ?restb11
  case hyb11 => (intro w hSw; (try dsimp only at hSw); go_simp; try (with_reducible rfl))
  try simp only [Act.put, List.setIfInBounds_toArray, List.set_cons_zero, List.set_cons_succ]
  refine wpAnyH_takeD (i := 15) (d := some 37) (v := ?vb12) rfl (by rfl) (by kernel_rfl) (by kernel_rfl) (by kernel_rfl) (fun _ _ _ h => h) (Or.inl ⟨by rfl, ?hyb12⟩) f4 ?restb12
  case hyb12 => (intro w hSw; (try dsimp only at hSw); go_simp; try (with_reducible rfl))
  try simp only [Act.put, List.setIfInBounds_toArray, List.set_cons_zero, List.set_cons_succ]
  refine wpAnyH_takeD (i := 16) (d := some 38) (v := ?vb13) rfl (by rfl) (by kernel_rfl) (by kernel_rfl) (by kernel_rfl) (fun _ _ _ h => h) (Or.inl ⟨by rfl, ?hyb13⟩) f4 ?restb13
  case hyb13 => (intro w hSw; (try dsimp only at hSw); go_simp; try (with_reducible rfl))
  try simp only [Act.put, List.setIfInBounds_toArray, List.set_cons_zero, List.set_cons_succ]
  refine wpAnyH_takeD (i := 17) (d := some 39) (v := ?vb14) rfl (by rfl) (by kernel_rfl) (by kernel_rfl) (by kernel_rfl) (fun _ _ _ h => h) (Or.inl ⟨by rfl, ?hyb14⟩) f4 ?restb14
  case hyb14 => (intro w hSw; (try dsimp only at hSw); go_simp; try (with_reducible rfl))
  try simp only [Act.put, List.setIfInBounds_toArray, List.set_cons_zero, List.set_cons_succ]
  refine wpAnyH_takeD (i := 18) (d := some 40) (v := ?vb15) rfl (by rfl) (by kernel_rfl) (by kernel_rfl) (by kernel_rfl) (fun _ _ _ h => h) (Or.inl ⟨by rfl, ?hyb15⟩) f4 ?restb15
  case hyb15 => (intro w hSw; (try dsimp only at hSw); go_simp; try (with_reducible rfl))
  try simp only [Act.put, List.setIfInBounds_toArray, List.set_cons_zero, List.set_cons_succ]
  refine wpAnyH_takeD (i := 19) (d := some 41) (v := ?vb16) rfl (by rfl) (by kernel_rfl) (by kernel_rfl) (by kernel_rfl) (fun _ _ _ h => h) (Or.inl ⟨by rfl, ?hyb16⟩) f4 ?restb16
  case hyb16 => (intro w hSw; (try dsimp only at hSw); go_simp; try (with_reducible rfl))
  try simp only [Act.put, List.setIfInBounds_toArray, List.set_cons_zero, List.set_cons_succ]
  refine wpAnyH_takeD (i := 20) (d := some 42) (v := ?vb17) rfl (by rfl) (by kernel_rfl) (by kernel_rfl) (by kernel_rfl) (fun _ _ _ h => h) (Or.inl ⟨by rfl, ?hyb17⟩) f4 ?restb17
  case hyb17 => (intro w hSw; (try dsimp only at hSw); go_simp; try (with_reducible rfl))
  try simp only [Act.put, List.setIfInBounds_toArray, List.set_cons_zero, List.set_cons_succ]
  refine wpAnyH_takeD (i := 21) (d := some 43) (v := ?vb18) rfl (by rfl) (by kernel_rfl) (by kernel_rfl) (by kernel_rfl) (fun _ _ _ h => h) (Or.inl ⟨by rfl, ?hyb18⟩) f4 ?restb18
  case hyb18 => (intro w hSw; (try dsimp only at hSw); go_simp; try (with_reducible rfl))
  try simp only [Act.put, List.setIfInBounds_toArray, List.set_cons_zero, List.set_cons_succ]
  refine wpAnyH_takeD (i := 22) (d := some 44) (v := ?vb19) rfl (by rfl) (by kernel_rfl) (by kernel_rfl) (by kernel_rfl) (fun _ _ _ h => h) (Or.inl ⟨by rfl, ?hyb19⟩) f4 ?restb19
  case hyb19 => (intro w hSw; (try dsimp only at hSw); go_simp; try (with_reducible rfl))
  try simp only [Act.put, List.setIfInBounds_toArray, List.set_cons_zero, List.set_cons_succ]
  refine wpAnyH_takeD (i := 23) (d := some 45) (v := ?vb20) rfl (by rfl) (by kernel_rfl) (by kernel_rfl) (by kernel_rfl) (fun _ _ _ h => h) (Or.inl ⟨by rfl, ?hyb20⟩) f4 ?restb20
  case hyb20 => (intro w hSw; (try dsimp only at hSw); go_simp; try (with_reducible rfl))
  try simp only [Act.put, List.setIfInBounds_toArray, List.set_cons_zero, List.set_cons_succ]
  refine wpAnyH_takeD (i := 24) (d := some 46) (v := ?vb21) rfl (by rfl) (by kernel_rfl) (by kernel_rfl) (by kernel_rfl) (fun _ _ _ h => h) (Or.inl ⟨by rfl, ?hyb21⟩) f4 ?restb21
  case hyb21 => (intro w hSw; (try dsimp only at hSw); go_simp; try (with_reducible rfl))
  try simp only [Act.put, List.setIfInBounds_toArray, List.set_cons_zero, List.set_cons_succ]
  refine wpAnyH_takeD (i := 25) (d := some 47) (v := ?vb22) rfl (by rfl) (by kernel_rfl) (by kernel_rfl) (by kernel_rfl) (fun _ _ _ h => h) (Or.inl ⟨by rfl, ?hyb22⟩) f4 ?restb22
  case hyb22 => (intro w hSw; (try dsimp only at hSw); go_simp; try (with_reducible rfl))
  try simp only [Act.put, List.setIfInBounds_toArray, List.set_cons_zero, List.set_cons_succ]
  refine wpAnyH_takeD (i := 26) (d := some 48) (v := ?vb23) rfl (by rfl) (by kernel_rfl) (by kernel_rfl) (by kernel_rfl) (fun _ _ _ h => h) (Or.inl ⟨by rfl, ?hyb23⟩) f4 ?restb23
  case hyb23 => (intro w hSw; (try dsimp only at hSw); go_simp; try (with_reducible rfl))
  try simp only [Act.put, List.setIfInBounds_toArray, List.set_cons_zero, List.set_cons_succ]
  refine wpAnyH_takeD (i := 27) (d := some 49) (v := ?vb24) rfl (by rfl) (by kernel_rfl) (by kernel_rfl) (by kernel_rfl) (fun _ _ _ h => h) (Or.inl ⟨by rfl, ?hyb24⟩) f4 ?restb24
  case hyb24 => (intro w hSw; (try dsimp only at hSw); go_simp; try (with_reducible rfl))
  try simp only [Act.put, List.setIfInBounds_toArray, List.set_cons_zero, List.set_cons_succ]
  refine wpAnyH_takeD (i := 28) (d := some 50) (v := ?vb25) rfl (by rfl) (by kernel_rfl) (by kernel_rfl) (by kernel_rfl) (fun _ _ _ h => h) (Or.inl ⟨by rfl, ?hyb25⟩) f4 ?restb25
  case hyb25 => (intro w hSw; (try dsimp only at hSw); go_simp; try (with_reducible rfl))
  try simp only [Act.put, List.setIfInBounds_toArray, List.set_cons_zero, List.set_cons_succ]
  refine wpAnyH_takeD (i := 29) (d := some 0) (v := ?vb26) rfl (by rfl) (by kernel_rfl) (by kernel_rfl) (by kernel_rfl) (fun _ _ _ h => h) (Or.inl ⟨by rfl, ?hyb26⟩) f4 ?restb26
  case hyb26 => (intro w hSw; (try dsimp only at hSw); go_simp; try (with_reducible rfl))
  try simp only [Act.put, List.setIfInBounds_toArray, List.set_cons_zero, List.set_cons_succ]
  refine wpAnyH_done (by kernel_rfl) ?_ _
  go_wp2
  go_ret
  exact ⟨rfl, HB.out⟩

end Go.Proofs.Ytolapeocdaknjaa
