/-
  The walk of CodeJoins where both lists are packed.
-/
import Derived.Test.YtbflfnaiihbjoaaLawD
import Derived.Deep.QuietTactic
import Derived.BigQuiet
namespace Go.Proofs.Ytbflfnaiihbjoaa
open Go.RowKit
set_option linter.unusedVariables false
set_option linter.unusedSimpArgs false

theorem i64s_take (l : List Int) (k : Nat) (h : k < l.length) : i64s (l.take (k + 1)) = i64s (l.take k) ++ [.int .i64 l[k]] := by
  simp only [i64s]
  rw [List.take_succ_eq_append_getElem h, List.map_append]
  rfl

theorem str_append (a b : List UInt8) : ((⟨a.toArray⟩ : ByteArray) ++ ⟨b.toArray⟩).toList = a ++ b := by
  rw [ByteArray.toList_eq]
  simp

set_option maxHeartbeats 1600000 in
theorem joins_good (A : Option Addr) (n c : Nat) (l : List (Int × Int)) (A1 : Option Addr) (n1 c1 : Nat) (l1 : List (Int × Int)) (A2 : Option Addr) (n2 c2 : Nat) (m : List UInt8) (w : World)
    (h : Flds w A n c l) (h1 : Flds w A1 n1 c1 l1) (h2 : Bytes8 w A2 n2 c2 m) (hn : n + n1 ≤ 500) (hn2 : n2 ≤ 1000) (he1 : packE l = 0) (he2 : packE l1 = 0) :
    Calls Try.prog 6 #[.slice A n c, .slice A1 n1 c1, .slice A2 n2 c2] w fun e w' => e = .returned (.bool true) ∧ Below w.heap.size w w' := by
  have hez : packE (l ++ l1) = 0 := by rw [packE_append, if_pos he1]; exact he2
  have P1 : Hid (∀ (W : World), Below w.heap.size w W → Calls Try.prog 14 #[.slice A n c] W fun e w' => ∃ A' m c', e = .returned (.tuple #[.slice A' m c', .int .i64 0]) ∧ Bytes8 w' A' m c' (encs l) ∧ Below W.heap.size W w') := fun W hb => by
    have := Pack_any A n c l W (h.below hb) (by omega)
    simpa only [packB, he1, if_true] using this
  have P2 : Hid (∀ (W : World), Below w.heap.size w W → Calls Try.prog 14 #[.slice A1 n1 c1] W fun e w' => ∃ A' m c', e = .returned (.tuple #[.slice A' m c', .int .i64 0]) ∧ Bytes8 w' A' m c' (encs l1) ∧ Below W.heap.size W w') := fun W hb => by
    have := Pack_any A1 n1 c1 l1 W (h1.below hb) (by omega)
    simpa only [packB, he2, if_true] using this
  have PZ : Hid (∀ (W : World) (v : Value) (base : Nat), W.ownsRow base 39 2 v (0 + n + n1) ([] ++ flds l ++ flds l1) → Calls Try.prog 14 #[v] W fun e w' => ∃ A' m c', e = .returned (.tuple #[.slice A' m c', .int .i64 0]) ∧ Bytes8 w' A' m c' (encs l ++ encs l1) ∧ Below W.heap.size W w') := fun W v base ho => by
    rw [List.nil_append, ← flds_append] at ho
    obtain ⟨A', c', rfl, hF⟩ := Flds.of_own ho (fun p hp => by rcases List.mem_append.1 hp with hp | hp; exact h.bds p hp; exact h1.bds p hp)
    have := Pack_any A' (0 + n + n1) c' (l ++ l1) W hF (by omega)
    simpa only [packB, hez, if_true, encs_append] using this
  have hel := encs_le he1
  have UN : Hid (∀ (W : World) (v u : Value) (base base2 k : Nat), W.ownsRow base 5 1 v k (u8s (encs l) ++ u8s m) → W.ownsRow base2 3 1 u n (i64s (l.map (·.1))) →
      Calls Try.prog 16 #[v, u] W fun e w' => ∃ A' c', e = .returned (.tuple #[.slice A' n c', .int .i64 0]) ∧ Ints w' A' n c' (l.map (·.2)) ∧ Below W.heap.size W w') := fun W v u base base2 k ho ho2 => by
    rw [← u8s_append] at ho
    obtain ⟨A', c', rfl, hB⟩ := Bytes8.of_own ho
    obtain ⟨A3, c3, rfl, hI⟩ := Ints.of_own ho2
    have hk : k = (encs l).length + m.length := by have := hB.len; rw [List.length_append] at this; exact this.symm
    have hln := h.len
    have hlm := h2.len
    obtain ⟨u1, u2⟩ := unp_pack0 l m he1 h.bds
    have := Unpack_any A' k c' (encs l ++ m) A3 n c3 (l.map (·.1)) W hB hI (fun x hx => by obtain ⟨p, hp, rfl⟩ := List.mem_map.1 hx; exact (h.bds p hp).1) (by omega) (by omega)
    rw [u1, u2] at this
    refine this.mono ?_
    rintro e w' ⟨A4, m4, c4, he, hI4, hb4⟩
    obtain rfl : n = m4 := by have h5 := hI4.len; rw [List.length_map] at h5; omega
    exact ⟨A4, c4, he, hI4, hb4⟩
  have hF := Lib.hid h
  have hF1 := Lib.hid h1
  have hB2 := Lib.hid h2
  have hEL := Lib.hid hel
  have hEL1 := Lib.hid (encs_le he2)
  have hL1 := Lib.hid h1.len
  have hcap := Nat.le_trans h.cap h.most
  clear h h1 h2 hez he1 he2 hel
  go_enter Try.func6, Try.ntmps6
  go_wp2_with fail
  refine (P1.out _ (Below.refl _ _)).mono ?_
  rintro e w1 ⟨A3, m3, c3, rfl, hB3, hb3⟩
  go_wp2_with fail
  refine (P2.out _ hb3).mono ?_
  rintro e w2 ⟨A4, m4, c4, rfl, hB4, hb4⟩
  have hw2 := hb3.trans (hb4.mono hb3.size)
  go_wp2_with (first
    | (at_builtin; refine wpList_append_rowS _ rfl (.tmp 41) (.tmp 42) _ rfl w2.heap.size 39 2 _ 16 Try.underlying37 info_field rfl (by omega) _ 0 [] rfl (own_emptyS w2 _ _) (by simp) _ (flds l) n c rfl (by rw [flds_length, hF.out.len]) (hF.out.row.below (hw2.alloc hw2.size _)) (flds_one _) (by omega) (by omega) ?_; intro v5 w5 ho5 hs5 hb5; have hb5' := ((Below.refl w2.heap.size w2).alloc (Nat.le_refl _) (.cells #[] 39)).trans hb5; have hw5 := hw2.trans (hb5'.mono hw2.size))
    | (at_builtin; refine wpList_append_rowS _ rfl (.tmp 43) (.tmp 44) _ rfl w2.heap.size 39 2 _ 16 Try.underlying37 info_field rfl (by omega) v5 _ _ rfl ho5 hs5 _ (flds l1) n1 c1 rfl (by rw [flds_length, hF1.out.len]) (hF1.out.row.below hw5) (flds_one _) (by omega) (by omega) ?_; intro v6 w6 ho6 hs6 hb6; have hw6 := hw5.trans (hb6.mono hw2.size)))
  refine (PZ.out _ _ _ ho6.out).mono ?_
  rintro e w7 ⟨A7, m7, c7, rfl, hB7, hb7⟩
  have hw7 := hw6.trans (hb7.mono hw6.size)
  have hw27 := (hb5'.trans hb6).trans (hb7.mono hs6)
  have hB3' := Lib.hid ((hB3.below hb4).below hw27)
  have hB4' := Lib.hid (hB4.below hw27)
  have hB7' := Lib.hid hB7
  clear hB3 hB4 hB7 P1 P2 PZ hF1 ho5 ho6 hb5 hb6 hb7 hb5' hw5 hw6 hb3 hb4 hw27 hs5 hs6 hw2
  go_wp2
  go_loopw [13, 14] (fun v i wr => ∃ k : Nat, k ≤ n ∧ i = .int .i64 k ∧ Hid (wr.ownsRow w7.heap.size 3 1 v k (i64s ((l.map (·.1)).take k))) ∧ w7.heap.size ≤ wr.heap.size ∧ Below w7.heap.size w7 wr) (fun _ i _ => n - (intOf i).toNat)
  case atStart => exact ⟨0, by omega, rfl, World.ownsRow_nil _ _ _ _, Nat.le_refl _, Below.refl _ _⟩
  case round =>
    obtain ⟨k, hk, rfl, hown, hs, hbel⟩ := hrel
    by_cases hlt : k < n
    · have hkl : k < l.length := by have := hF.out.len; omega
      obtain ⟨b0, off, rfl, hb0, hcell⟩ := hF.out.row.lit (by rw [flds_length]; omega)
      have hc0 : wr.cell? ⟨b0, off + k * 2, none⟩ = some (.int .i64 l[k].1) := (hbel.cell (p := ⟨b0, off + k * 2, none⟩) (by have := hw7.size; show b0 < _; omega)).trans ((hw7.cell (p := ⟨b0, off + k * 2, none⟩) hb0).trans (hcell _ _ (flds_at l k hkl).1))
      have hft : Hid (i64s ((l.map (·.1)).take (k + 1)) = i64s ((l.map (·.1)).take k) ++ [.int .i64 l[k].1]) := by
        have := i64s_take (l.map (·.1)) k (by simpa using hkl)
        simpa [Hid] using this
      clear hcell
      generalize l[k].1 = a at *
      go_wp2_with (at_builtin; refine wpList_append_new wr rfl (.tmp 71) (.tmp 77) _ rfl w7.heap.size 3 _ _ 8 Try.underlying36 info_i64s rfl u13 _ _ rfl hown hs [_] 1 1 rfl rfl (by simp [Value.oneCell']) (by omega) (by omega) ?_; intro v1 w8 ho1 hs1 hb1)
      go_roundw
      case rel => exact ⟨k + 1, by omega, by go_num, by rw [hft.out]; exact ho1, hs1, hbel.trans hb1⟩
      case measure => simp [intOf]; omega
    · obtain rfl : k = n := by omega
      have hown' : Hid (wr.ownsRow w7.heap.size 3 1 u13 k (i64s (l.map (·.1)))) := by
        have := hown.out
        rwa [List.take_of_length_le (by have := hF.out.len; rw [List.length_map]; omega)] at this
      clear hown
      have hwr := hw7.trans (hbel.mono hw7.size)
      have hx3 := Lib.hid (hB3'.out.below hbel)
      go_wp2_with (first
        | (at_builtin; refine wpList_append_row _ rfl (.tmp 80) (.tmp 81) _ rfl wr.heap.size 5 _ 1 Try.underlying22 info_u8 rfl _ 0 [] rfl (own_empty wr _) (by simp) _ (u8s (encs l)) m3 c3 rfl (by rw [u8s_length, hx3.out.len]) (hx3.out.row.below ((Below.refl _ _).alloc (Nat.le_refl _) _)) (u8s_one _) (by have := hEL.out; have := hF.out.len; have := hx3.out.len; omega) (by omega) ?_; intro v8 w8 ho8 hs8 hb8; have hb8' := ((Below.refl wr.heap.size wr).alloc (Nat.le_refl _) (.cells #[] 5)).trans hb8; have hw8 := hwr.trans (hb8'.mono hwr.size))
        | (at_builtin; refine wpList_append_row _ rfl (.tmp 82) (.tmp 83) _ rfl wr.heap.size 5 _ 1 Try.underlying22 info_u8 rfl v8 _ _ rfl ho8 hs8 _ (u8s m) n2 c2 rfl (by rw [u8s_length, hB2.out.len]) (hB2.out.row.below hw8) (u8s_one _) (by have := hEL.out; have := hF.out.len; have := hx3.out.len; omega) (by omega) ?_; intro v9 w9 ho9 hs9 hb9; have hb9' := hb8'.trans hb9; have ho13 := own_below hown' hb9'))
      refine (UN.out _ _ _ _ _ _ (by have := ho9.out; rw [List.nil_append] at this; exact this) ho13.out).mono ?_
      rintro e w10 ⟨A9, c9, rfl, hI9, hb10⟩
      have hb7x := (hbel.trans (hb9'.mono hs)).trans (hb10.mono (Nat.le_trans hs hs9))
      have hw10 := hw7.trans (hb7x.mono hw7.size)
      have hI := Lib.hid hI9
      clear hI9 ho8 ho9 ho13 hb8 hb9 hb8' hb9' hb10 hw8 hwr hown' hx3 hs8 hs9 UN hB2 hbel hs
      go_wp2
      go_loopw [17] (fun v wx => ∃ j : Nat, j ≤ k ∧ v = .int .i64 j ∧ Below w10.heap.size w10 wx) (fun v _ => k - (intOf v).toNat)
      case atStart => exact ⟨0, by omega, rfl, Below.refl _ _⟩
      case round =>
        obtain ⟨j, hj, rfl, hbx⟩ := hrel
        by_cases hjk : j < k
        · have hjl : j < l.length := by have := hF.out.len; omega
          have hjm : j < (l.map (·.2)).length := by rw [List.length_map]; exact hjl
          obtain ⟨b0, off, rfl, hb0, hcell⟩ := hF.out.row.lit (by rw [flds_length]; omega)
          obtain ⟨b9, off9, rfl, hb9, hcell9⟩ := hI.out.row.lit (by rw [i64s_length, List.length_map]; omega)
          have hc0 : wr.cell? ⟨b0, off + j * 2 + 1, none⟩ = some (.int .i64 l[j].2) := (hbx.cell (p := ⟨b0, off + j * 2 + 1, none⟩) (by have := hw10.size; show b0 < _; omega)).trans ((hw10.cell (p := ⟨b0, off + j * 2 + 1, none⟩) hb0).trans (hcell _ _ (flds_at l j hjl).2))
          have hc9 : wr.cell? ⟨b9, off9 + j, none⟩ = some (.int .i64 l[j].2) := by
            have h3 := hcell9 j _ (i64s_at _ j hjm)
            rw [List.getElem_map] at h3
            exact (hbx.cell (p := ⟨b9, off9 + j, none⟩) hb9).trans h3
          clear hcell hcell9
          generalize l[j].2 = a at *
          go_wp2
          go_quiet (fail)
          go_wp2
          go_roundw
          case rel => exact ⟨j + 1, by omega, by go_num, below_drewN hbx _⟩
          case measure => simp [intOf]; omega
        · have hbz := hb7x.trans (hbx.mono hb7x.size)
          have hsum : (encs l).length + (encs l1).length ≤ 9223372036854775807 := by have := hEL.out; have := hEL1.out; have := hF.out.len; have := hL1.out; omega
          have hstr : ((⟨(encs l).toArray⟩ : ByteArray) ++ ⟨(encs l1).toArray⟩).toList = encs l ++ encs l1 := str_append _ _
          have cv3 := run_str (hB3'.out.below hbz)
          have cv4 := run_str (hB4'.out.below hbz)
          have cv7 := run_str (hB7'.out.below hbz)
          have hwx := hw10.trans (hbx.mono hw10.size)
          go_wp2_with (go_at_call 7; refine (lives_any _).mono ?_; rintro e w11 ⟨rfl, hb11⟩)
          go_ret
          exact ⟨rfl, hwx.trans (hb11.mono hwx.size)⟩

theorem joins_walk (A : Option Addr) (n c : Nat) (l : List (Int × Int)) (A1 : Option Addr) (n1 c1 : Nat) (l1 : List (Int × Int)) (A2 : Option Addr) (n2 c2 : Nat) (m : List UInt8) (w : World)
    (h : Flds w A n c l) (h1 : Flds w A1 n1 c1 l1) (h2 : Bytes8 w A2 n2 c2 m) (hz0 : n * 16 ≤ 140737488351232) (hz1 : n1 * 16 ≤ 140737488351232) :
    Calls Try.prog 6 #[.slice A n c, .slice A1 n1 c1, .slice A2 n2 c2] w fun e w' => e = .returned (.bool true) ∧ Below w.heap.size w w' := by
  have hm : n ≤ 8796093021952 := by omega
  have hm1 : n1 ≤ 8796093021952 := by omega
  have hm2 := h2.le
  by_cases hn : n + n1 ≤ 500
  · by_cases hn2 : n2 ≤ 1000
    · by_cases he1 : packE l = 0
      · by_cases he2 : packE l1 = 0
        · exact joins_good A n c l A1 n1 c1 l1 A2 n2 c2 m w h h1 h2 hn hn2 he1 he2
        · exact joins_bad A n c l A1 n1 c1 l1 A2 n2 c2 m w h h1 h2 hn hn2 (.inr he2)
      · exact joins_bad A n c l A1 n1 c1 l1 A2 n2 c2 m w h h1 h2 hn hn2 (.inl he1)
    · clear h h1 h2 hz0 hz1
      go_enter Try.func6, Try.ntmps6
      go_wp2_with (go_at_call 7; refine (lives_any _).mono ?_; rintro e w1 ⟨rfl, hb1⟩)
      go_ret
      exact ⟨rfl, hb1⟩
  · clear h h1 h2 hz0 hz1
    go_enter Try.func6, Try.ntmps6
    go_wp2_with (go_at_call 7; refine (lives_any _).mono ?_; rintro e w1 ⟨rfl, hb1⟩)
    go_ret
    exact ⟨rfl, hb1⟩

end Go.Proofs.Ytbflfnaiihbjoaa
