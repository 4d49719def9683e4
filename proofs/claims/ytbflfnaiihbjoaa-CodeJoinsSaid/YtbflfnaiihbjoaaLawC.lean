/-
  The walk of CodePacks.
-/
import Derived.Test.YtbflfnaiihbjoaaCodeI
import Derived.Test.YtbflfnaiihbjoaaCodeK
import Derived.Test.YtbflfnaiihbjoaaMemC
namespace Go.Proofs.Ytbflfnaiihbjoaa
open Go.RowKit
set_option linter.unusedVariables false
set_option linter.unusedSimpArgs false

theorem info_field : (Try.prog.info? 39).map (fun i => (i.zero, i.size, i.bytes)) = some (some (.agg #[.int .i64 0, .int .i64 0]), 2, 16) := by kernel_rfl

theorem flds_take (l : List (Int × Int)) (k : Nat) (h : k < l.length) : flds (l.take (k + 1)) = flds (l.take k) ++ [.int .i64 l[k].1, .int .i64 l[k].2] := by
  simp only [flds]
  rw [List.take_succ_eq_append_getElem h, List.flatMap_append]
  simp only [List.flatMap_cons, List.flatMap_nil, List.append_nil]

theorem flds_one (l : List (Int × Int)) : ∀ u ∈ flds l, u.oneCell' = true := by
  intro u hu
  simp only [flds, List.mem_flatMap] at hu
  obtain ⟨p, _, hp⟩ := hu
  simp only [List.mem_cons, List.not_mem_nil, or_false] at hp
  rcases hp with rfl | rfl <;> rfl

theorem Flds.of_own {w : World} {base : Nat} {e : TypeId} {n : Nat} {v : Value} {l : List (Int × Int)} (h : w.ownsRow base e 2 v n (flds l)) (hb : ∀ p ∈ l, i64b p.1 ∧ i64b p.2) : ∃ A c, v = .slice A n c ∧ Flds w A n c l := by
  obtain ⟨A, c, rfl, h1, h2⟩ := ownsRow_form h
  exact ⟨A, c, rfl, ⟨by have := h.1; rw [flds_length] at this; omega, h1, by simpa [maxLen] using h2, Row.of_own h, hb⟩⟩

set_option maxHeartbeats 1600000 in
theorem packs_good (A : Option Addr) (n c : Nat) (l : List (Int × Int)) (A1 : Option Addr) (n1 c1 : Nat) (b : List UInt8) (A2 : Option Addr) (n2 c2 : Nat) (ws : List Int) (w : World)
    (h : Flds w A n c l) (h1 : Bytes8 w A1 n1 c1 b) (h2 : Ints w A2 n2 c2 ws) (hbs : ∀ x ∈ ws, i64b' x) (hn : n ≤ 500) (hn1 : n1 ≤ 3000) (hn2 : n2 ≤ 500) :
    Calls Try.prog 4 #[.slice A n c, .slice A1 n1 c1, .slice A2 n2 c2] w fun e w' => e = .returned (.bool true) ∧ Below w.heap.size w w' := by
  have PK : Hid (∀ (W : World) (v : Value), W.ownsRow w.heap.size 39 2 v n (flds l) → ∃ A' c', v = .slice A' n c' ∧ Calls Try.prog 14 #[.slice A' n c'] W fun e w' => ∃ A' m c', e = .returned (.tuple #[.slice A' m c', .int .i64 (packE l)]) ∧ Bytes8 w' A' m c' (packB l) ∧ Below W.heap.size W w') := fun W v ho => by
    obtain ⟨A', c', hv, hF⟩ := Flds.of_own ho h.bds
    exact ⟨A', c', hv, Pack_any A' n c' l W hF (by omega)⟩
  have RP := Lib.hid (fun (W : World) (hb : Below w.heap.size w W) => refPack_any A n c l W (h.below hb) (by omega))
  have U := Lib.hid (fun (W : World) (hb : Below w.heap.size w W) => Unpack_any A1 n1 c1 b A2 n2 c2 ws W (h1.below hb) (h2.below hb) hbs (by omega) (by omega))
  have RU := Lib.hid (fun (W : World) (hb : Below w.heap.size w W) => refUnpack_any A1 n1 c1 b A2 n2 c2 ws W (h1.below hb) (h2.below hb) hbs (by omega) (by omega))
  generalize packE l = pe at *
  generalize packB l = pb at *
  generalize unpE b 0 ws = ue at *
  generalize unpN b ws = un at *
  have HF := Lib.hid h
  have HL := Lib.hid h.len
  have hA : n = 0 ∨ ∃ b0 off, A = some ⟨b0, off, none⟩ ∧ b0 < w.heap.size ∧ ∀ k v, (flds l)[k]? = some v → w.cell? ⟨b0, off + k, none⟩ = some v := by
    by_cases hp : 0 < n
    · exact .inr (h.row.lit (by rw [flds_length, h.len]; omega))
    · exact .inl (by omega)
  clear h h1 h2 hbs
  rcases hA with rfl | ⟨b0, off, rfl, hb0, hcell⟩
  · obtain rfl : l = [] := List.eq_nil_of_length_eq_zero HL.out
    obtain ⟨A', c', hv, hP⟩ := PK.out w (.slice none 0 0) (World.ownsRow_nil _ _ _ _)
    injection hv with hv1 hv2 hv3
    subst hv1; subst hv3
    have HP := Lib.hid hP
    have hbel : Below w.heap.size w w := Below.refl _ _
    have hs : w.heap.size ≤ w.heap.size := Nat.le_refl _
    clear hP hv2
    go_enter Try.func4, Try.ntmps4
    go_wp2
    refine wp_loop_rounds 1 ?_
    rw [rounds_succ]
    go_wp2_with (first
      | (go_at_call 14; refine (HP.out).mono ?_; rintro e w1 ⟨A3, m3, c3, rfl, hB3, hb3⟩; have hw1 := hbel.trans (hb3.mono hs))
      | (go_at_call 15; refine (RP.out _ hw1).mono ?_; rintro e w2 ⟨A4, m4, c4, rfl, hB4, hb4⟩; have hw2 := hw1.trans (hb4.mono hw1.size))
      | (go_at_call 16; refine (U.out _ hw2).mono ?_; rintro e w3 ⟨A5, m5, c5, rfl, hB5, hb5⟩; have hw3 := hw2.trans (hb5.mono hw2.size))
      | (go_at_call 17; refine (RU.out _ hw3).mono ?_; rintro e w4 ⟨A6, m6, c6, rfl, hB6, hb6⟩; have hw4 := hw3.trans (hb6.mono hw3.size); have hB45 := (hB4.below hb5).below hb6; have hB35 := ((hB3.below hb4).below hb5).below hb6; have cv3 := run_str hB35; have cv4 := run_str hB45; have hB56 := hB5.below hb6)
      | (go_at_call 18; obtain rfl : m5 = m6 := hB5.len.symm.trans hB6.len; refine (Same_same _ _ _ _ _ _ _ hB56 hB6).mono ?_; rintro e w5 ⟨rfl, hb7⟩; have hw5 := hw4.trans (hb7.mono hw4.size))
      | (go_at_call 7; refine (lives_any _).mono ?_; rintro e w6 ⟨rfl, hb8⟩))
    go_ret
    exact ⟨rfl, hw5.trans (hb8.mono hw5.size)⟩
  · have HC := Lib.hid hcell
    clear hcell
    go_enter Try.func4, Try.ntmps4
    go_wp2
    go_loopw [7, 8] (fun v i wr => ∃ k : Nat, k ≤ n ∧ i = .int .i64 k ∧ Hid (wr.ownsRow w.heap.size 39 2 v k (flds (l.take k))) ∧ w.heap.size ≤ wr.heap.size ∧ Below w.heap.size w wr) (fun _ i _ => n - (intOf i).toNat)
    case atStart => exact ⟨0, by omega, rfl, World.ownsRow_nil _ _ _ _, Nat.le_refl _, Below.refl _ _⟩
    case round =>
      obtain ⟨k, hk, rfl, hown, hs, hbel⟩ := hrel
      by_cases hlt : k < n
      · have hkl : k < l.length := by have := HL.out; omega
        have h0 := flds_at l k hkl
        have hc0 : wr.cell? ⟨b0, off + k * 2, none⟩ = some (.int .i64 l[k].1) := (hbel.cell (p := ⟨b0, off + k * 2, none⟩) hb0).trans (HC.out _ _ h0.1)
        have hc1 : wr.cell? ⟨b0, off + k * 2 + 1, none⟩ = some (.int .i64 l[k].2) := (hbel.cell (p := ⟨b0, off + k * 2 + 1, none⟩) hb0).trans (HC.out _ _ h0.2)
        have hft := Lib.hid (flds_take l k hkl)
        clear h0
        generalize l[k].1 = a at *
        generalize l[k].2 = x at *
        go_wp2_with (at_builtin; refine wpList_append_newS wr rfl (.tmp 37) (.tmp 42) _ rfl w.heap.size 39 _ 2 _ 16 Try.underlying37 info_field rfl (by omega) u7 _ _ rfl hown hs [_, _] 1 1 rfl rfl (by simp [Value.oneCell']) (by omega) (by omega) ?_; intro v1 w1 ho1 hs1 hb1)
        go_roundw
        case rel => exact ⟨k + 1, by omega, by go_num, by rw [hft.out]; exact ho1, hs1, hbel.trans hb1⟩
        case measure => simp [intOf]; omega
      · obtain rfl : k = n := by omega
        have hown' : wr.ownsRow w.heap.size 39 2 u7 k (flds l) := by
          have := hown.out
          rwa [List.take_of_length_le (by have := HL.out; omega)] at this
        obtain ⟨A', c', rfl, hP⟩ := PK.out wr u7 hown'
        have HP := Lib.hid hP
        clear hP hown hown'
        go_wp2_with (first
          | (go_at_call 14; refine (HP.out).mono ?_; rintro e w1 ⟨A3, m3, c3, rfl, hB3, hb3⟩; have hw1 := hbel.trans (hb3.mono hs))
          | (go_at_call 15; refine (RP.out _ hw1).mono ?_; rintro e w2 ⟨A4, m4, c4, rfl, hB4, hb4⟩; have hw2 := hw1.trans (hb4.mono hw1.size))
          | (go_at_call 16; refine (U.out _ hw2).mono ?_; rintro e w3 ⟨A5, m5, c5, rfl, hB5, hb5⟩; have hw3 := hw2.trans (hb5.mono hw2.size))
          | (go_at_call 17; refine (RU.out _ hw3).mono ?_; rintro e w4 ⟨A6, m6, c6, rfl, hB6, hb6⟩; have hw4 := hw3.trans (hb6.mono hw3.size); have hB45 := (hB4.below hb5).below hb6; have hB35 := ((hB3.below hb4).below hb5).below hb6; have cv3 := run_str hB35; have cv4 := run_str hB45; have hB56 := hB5.below hb6)
          | (go_at_call 18; obtain rfl : m5 = m6 := hB5.len.symm.trans hB6.len; refine (Same_same _ _ _ _ _ _ _ hB56 hB6).mono ?_; rintro e w5 ⟨rfl, hb7⟩; have hw5 := hw4.trans (hb7.mono hw4.size))
          | (go_at_call 7; refine (lives_any _).mono ?_; rintro e w6 ⟨rfl, hb8⟩))
        go_ret
        exact ⟨rfl, hw5.trans (hb8.mono hw5.size)⟩

theorem packs_walk (A : Option Addr) (n c : Nat) (l : List (Int × Int)) (A1 : Option Addr) (n1 c1 : Nat) (b : List UInt8) (A2 : Option Addr) (n2 c2 : Nat) (ws : List Int) (w : World)
    (h : Flds w A n c l) (h1 : Bytes8 w A1 n1 c1 b) (h2 : Ints w A2 n2 c2 ws) (hbs : ∀ x ∈ ws, i64b' x) :
    Calls Try.prog 4 #[.slice A n c, .slice A1 n1 c1, .slice A2 n2 c2] w fun e w' => e = .returned (.bool true) ∧ Below w.heap.size w w' := by
  have hm := Nat.le_trans h.cap h.most
  have hm1 := h1.le
  have hm2 := h2.le
  by_cases hn : n ≤ 500
  · by_cases hn1 : n1 ≤ 3000
    · by_cases hn2 : n2 ≤ 500
      · exact packs_good A n c l A1 n1 c1 b A2 n2 c2 ws w h h1 h2 hbs hn hn1 hn2
      · clear h h1 h2 hbs
        go_enter Try.func4, Try.ntmps4
        go_wp2_with (go_at_call 7; refine (lives_any _).mono ?_; rintro e w1 ⟨rfl, hb1⟩)
        go_ret
        exact ⟨rfl, hb1⟩
    · clear h h1 h2 hbs
      go_enter Try.func4, Try.ntmps4
      go_wp2_with (go_at_call 7; refine (lives_any _).mono ?_; rintro e w1 ⟨rfl, hb1⟩)
      go_ret
      exact ⟨rfl, hb1⟩
  · clear h h1 h2 hbs
    go_enter Try.func4, Try.ntmps4
    go_wp2_with (go_at_call 7; refine (lives_any _).mono ?_; rintro e w1 ⟨rfl, hb1⟩)
    go_ret
    exact ⟨rfl, hb1⟩

end Go.Proofs.Ytbflfnaiihbjoaa
