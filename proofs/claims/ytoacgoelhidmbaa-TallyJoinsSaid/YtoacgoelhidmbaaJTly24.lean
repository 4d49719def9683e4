/-
  Joined: TlyPA, TlyPB, TlyP, TlyLv, TlyLawA, TlyLawB.
-/
import Derived.Laws.Small
import Derived.Test.YtoacgoelhidmbaaJTly22
import Derived.Test.YtoacgoelhidmbaaJTly23
import Derived.Test.YtoacgoelhidmbaaJTly10
import Derived.Test.YtoacgoelhidmbaaJTly17
import Derived.BigQuiet
import Derived.Deep.RegionHeld3
import Derived.Test.YtoacgoelhidmbaaJTly09
/-
  Layer 21: the program's within and Split.
-/
namespace Go.Proofs.Ytoacgoelhidmbaa
open Go.RowKit
set_option linter.unusedVariables false
set_option linter.unusedSimpArgs false

/-- are all numbers from 0 to m -/
def in21 (m : Int) (l : List Int) : Bool := decide (∀ k, k < l.length → 0 ≤ l.getD k 0 ∧ l.getD k 0 ≤ m)

set_option maxRecDepth 100000 in
theorem Within_any21 (A : Option Addr) (n c : Nat) (l : List Int) (m : Int) (w : World) (h : Ints w A n c l) (r : Bool) (hr : in21 m l = r) :
    Calls Try.prog 16 #[.slice A n c, .int .i64 m] w fun e w' => e = .returned (.bool r) ∧ w = w' := by
  have hle : n ≤ 9223372036854775807 := Nat.le_trans h.cap h.most
  have hl := h.len
  have HC := Lib.hid (fun (k : Nat) (hk : k < n) => ints_at21 h hk)
  have BAD : Hid (∀ k x, k < n → l.getD k 0 = x → ¬ (0 ≤ x ∧ x ≤ m) → r = false) := fun k x hk hx hn => by
    rw [← hr]
    exact decide_eq_false fun h => hn (by have := h k (by omega); rwa [hx] at this)
  have YES : Hid ((∀ k, k < n → 0 ≤ l.getD k 0 ∧ l.getD k 0 ≤ m) → r = true) := fun hk => by
    rw [← hr]
    exact decide_eq_true fun k h => hk k (by omega)
  clear h hl hr
  go_enter Try.func16, Try.ntmps16
  go_wp2
  go_loopw [9] (fun i wr => ∃ k : Nat, k ≤ n ∧ i = .int .i64 k ∧ Hid (∀ j, j < k → 0 ≤ l.getD j 0 ∧ l.getD j 0 ≤ m) ∧ w = wr) (fun i _ => n - (intOf i).toNat)
  case atStart => exact ⟨0, by omega, rfl, fun j hj => absurd hj (Nat.not_lt_zero _), rfl⟩
  case round =>
    obtain ⟨k, hk, rfl, HK, rfl⟩ := hrel
    by_cases hlt : k < n
    · obtain ⟨b, off, x, rfl, hb, hx, _, d0⟩ := HC.out k hlt
      have BADk := Lib.hid (BAD.out k x hlt hx)
      have HX := Lib.hid hx
      clear hx
      by_cases hx0 : x < 0
      · obtain rfl := BADk.out (by omega)
        clear BAD BADk YES HK HC HX
        go_wp2
        go_ret
        exact ⟨rfl, rfl⟩
      · by_cases hxm : m < x
        · obtain rfl := BADk.out (by omega)
          clear BAD BADk YES HK HC HX
          go_wp2
          go_ret
          exact ⟨rfl, rfl⟩
        · have HK2 : Hid (∀ j, j < k + 1 → 0 ≤ l.getD j 0 ∧ l.getD j 0 ≤ m) := fun j hj => by
            by_cases hjk : j < k
            · exact HK.out j hjk
            · obtain rfl : j = k := by omega
              rw [HX.out]
              omega
          clear HK HX BAD BADk YES
          go_wp2
          go_roundw
          case rel => exact ⟨k + 1, by omega, by push_cast; rfl, HK2, trivial⟩
          case measure => simp [intOf]; omega
    · obtain rfl : k = n := by omega
      obtain rfl := YES.out HK.out
      clear HK BAD YES HC
      go_wp2
      go_ret
      exact ⟨rfl, rfl⟩

theorem in21_count {l : List Int} : in21 2147483647 l = true ↔ ∀ k, k < l.length → okC21 (l.getD k 0) := by
  unfold in21
  rw [decide_eq_true_iff]
  exact Iff.rfl
-- Split
set_option maxRecDepth 100000 in
set_option maxHeartbeats 3200000 in
theorem Split_any21F (A : Option Addr) (n c : Nat) (l : List Int) (w : World) (h : Ints w A n c l) (hbd : ∀ x ∈ l, -9223372036854775808 ≤ x ∧ x ≤ 9223372036854775807) :
    Calls Try.prog 7 #[.slice A n c] w fun e w' => ∃ A1 c1 A2 c2, e = .returned (.tuple #[.slice A1 (splB21 l).length c1, .slice A2 (splO21 l).length c2, .int .i64 (splE21 l)]) ∧ MatN w' w.heap.size A1 (splB21 l).length c1 (splB21 l) ∧ EnsN w' w.heap.size A2 (splO21 l).length c2 (entL21 (splO21 l)) ∧ Below w.heap.size w w' := by
  have hle : n ≤ 9223372036854775807 := Nat.le_trans h.cap h.most
  have hl := h.len
  have HLL : Hid (∀ {k : Nat}, k < n → k < l.length) := fun hk => by omega
  obtain ⟨E, hE⟩ : ∃ E, splE21 l = E := ⟨_, rfl⟩
  obtain ⟨BB, hBB⟩ : ∃ BB, splB21 l = BB := ⟨_, rfl⟩
  obtain ⟨OO, hOO⟩ : ∃ OO, splO21 l = OO := ⟨_, rfl⟩
  rw [hE, hBB, hOO]
  have HNIL : Hid (E ≠ 0 → BB = [] ∧ OO = []) := fun hv => by rw [← hBB, ← hOO]; rw [← hE] at hv; exact ⟨if_neg hv, if_neg hv⟩
  have HYES : Hid (E = 0 → BB = bits21 l ∧ OO = over21 l) := fun hv => by rw [← hBB, ← hOO]; rw [← hE] at hv; exact ⟨if_pos hv, if_pos hv⟩
  obtain ⟨mb, hmb⟩ : ∃ mb, BB.length = mb := ⟨_, rfl⟩
  obtain ⟨mc, hmc⟩ : ∃ mc, OO.length = mc := ⟨_, rfl⟩
  rw [hmb, hmc]
  have HMB := Lib.hid hmb
  have HMC := Lib.hid hmc
  clear hBB hOO hmb hmc
  by_cases hmany : n ≤ 65536
  · obtain ⟨r, hr⟩ : ∃ r, in21 2147483647 l = r := ⟨_, rfl⟩
    have WI := Lib.hid (Within_any21 A n c l 2147483647 w h r hr)
    cases r with
    | false =>
      obtain rfl : E = 2 := by
        rw [← hE]
        unfold splE21
        rw [if_neg (by omega), if_neg]
        intro ha
        have := in21_count.2 (fun k hk => by rw [getD21 hk]; exact ha _ (List.getElem_mem hk))
        rw [hr] at this
        cases this
      obtain ⟨rfl, rfl⟩ := HNIL.out (by decide)
      obtain rfl : 0 = mb := HMB.out
      obtain rfl : 0 = mc := HMC.out
      clear h hl hE HYES HNIL hr hbd
      go_enter Try.func7, Try.ntmps7
      go_wp2_with (go_at_call 16; (with_reducible refine (WI.out).mono ?_); rintro e w1 ⟨rfl, rfl⟩)
      go_ret3
      exact ⟨none, 0, none, 0, rfl, MatN.nil _ _, EnsN.nil _ _, Below.refl _ _⟩
    | true =>
      have hgd := in21_count.1 hr
      obtain rfl : E = 0 := by rw [← hE]; exact splE21_good (by omega) hgd
      obtain ⟨rfl, rfl⟩ := HYES.out rfl
      have OK : Hid (∀ k x, k < n → l.getD k 0 = x → 0 ≤ x ∧ x ≤ 2147483647) := fun k x hk hx => by rw [← hx]; exact hgd k (by omega)
      clear hE hr hgd HYES HNIL
      have S0 : Hid (([] : List RowM).map (·.2.2) = bits21 (l.take 0)) := by rw [List.take_zero]; exact Lib.hid rfl
      have HC := Lib.hid (fun (k : Nat) (hk : k < n) => ints_at21 h hk)
      have ALL : Hid (l.take n = l) := List.take_of_length_le (by omega)
      have CN := fun (x : Int) (W : World) (hx : i64b x) => Lib.hid (Count_any W x hx)
      have OT : Hid (∀ k, k < n → over21 (l.take (k + 1)) = over21 (l.take k) ++ one21 (k : Int) (l.getD k 0)) := fun k hk => over21_take (by omega)
      have OL : Hid (∀ k, k < n → (over21 (l.take k)).length ≤ k) := fun k hk => by
        have := over21_few (l.take k)
        rw [List.length_take] at this
        omega
      clear h hl hbd
      go_enter Try.func7, Try.ntmps7
      go_wp2_with (go_at_call 16; (with_reducible refine (WI.out).mono ?_); rintro e w1 ⟨rfl, rfl⟩)
      go_loopw [5, 6, 18] (fun vb vo i wr => ∃ (k : Nat) (L : List RowM) (mo : Nat), k ≤ n ∧ i = .int .i64 k ∧ Hid (OwnM wr w.heap.size vb L.length L) ∧ Hid (L.map (·.2.2) = bits21 (l.take k)) ∧ mo = (over21 (l.take k)).length ∧ Hid (wr.ownsRow w.heap.size 41 3 vo mo (entC (entL21 (over21 (l.take k))))) ∧ Hid (Below w.heap.size w wr)) (fun _ _ i _ => n - (intOf i).toNat)
      case atStart => exact ⟨0, [], 0, by omega, rfl, OwnM.nil _ _, S0, rfl, World.ownsRow_nil _ _ _ _, Below.refl _ _⟩
      case round =>
        obtain ⟨k, L, mo, hk, rfl, hM, hL, hmo, hO, hbel⟩ := hrel
        by_cases hlt : k < n
        · obtain ⟨b, off, x, rfl, hb, hx, _, d0⟩ := HC.out k hlt
          have g0 := (hbel.out.cell (p := ⟨b, off + k, none⟩) hb).trans d0
          obtain ⟨hx0, hx1⟩ := OK.out k x hlt hx
          have hs : w.heap.size ≤ wr.heap.size := hbel.out.size
          obtain ⟨q, hq_⟩ : ∃ q, q = k / 960 := ⟨_, rfl⟩
          have HQ := Lib.hid hq_
          have hot := OT.out k hlt
          have hol := OL.out k hlt
          rw [hx] at hot
          have HOT := Lib.hid hot
          have hq9 : q ≤ 100 := by omega
          have HX := Lib.hid hx
          have hxi : i64b x := ⟨by omega, by omega⟩
          clear hot hq_ hx d0 OK OT OL
          by_cases hz : k % 960 = 0
          · have hzd : ((k : Int)).tmod 960 = 0 := (show ((k : Int)).tmod 960 = ((k % 960 : Nat) : Int) from rfl).trans (by omega)
            have hze : (k : Int) % 960 = 0 := by omega
            by_cases h3 : 3 ≤ x
            · obtain ⟨z, hzz⟩ : ∃ z, z = (3 : Int) := ⟨_, rfl⟩
              have hmin : min x 3 = z := by omega
              have HZ : Hid (lim21 x = z) := by rw [hzz]; exact Lib.hid (if_pos h3)
              clear hzz
              obtain ⟨hLq, hBN⟩ := bits21_new (HLL.out hlt) hz hL.out
              have HBN := Lib.hid hBN
              obtain ⟨L', hLL⟩ : ∃ L', L' = L := ⟨_, rfl⟩
              subst hLL
              have hq : L'.length = q := by rw [hLq]; exact HQ.out.symm
              have hM2 := hM.out
              rw [hq] at hM2
              have hqw : wrap64 (((q + 1 : Nat) : Int) - 1) = (q : Int) := by unfold wrap64; omega
              obtain ⟨y, hy⟩ : ∃ y : RowM, y = (none, 0, []) := ⟨_, rfl⟩
              have HN0 := Lib.hid (Row.of_block (heap_alloc_new wr (.cells #[.slice none 0 0] 22)))
              have hba := (Below.refl wr.heap.size wr).alloc (Nat.le_refl _) (.cells #[.slice none 0 0] 22)
              have HMA := Lib.hid (hM2.later hba)
              have HOA := Lib.hid (own_keptS hO.out fun p _ hp => hba.block p hp)
              have HBA := Lib.hid (hbel.out.alloc hs (.cells #[.slice none 0 0] 22))
              have hyl : y.2.2.length ≤ 65536 := by rw [hy]; simp
              have HY := Lib.hid hy
              clear hy
              clear hba hBN hLq hM2
              clear hL hM hO hbel
              go_wp2_with (first
                | (at_builtin; refine wpList_append_liesG _ rfl _ _ 24 rfl w.heap.size 22 1 _ 24 Try.underlying24 info_ints21 rfl (by omega) _ q (L'.map rowMV) rfl (Lib.hid HMA.out.row) (by simp; omega) ⟨wr.heap.size, 0, none⟩ [.slice none 0 0] 1 1 rfl rfl HN0.out (by simp [Value.oneCell']) (by omega) (by omega) (by omega) ?_; intro g3 c3 w3 ho3 hg3 hv3; have HM3' := HMA.out.snoc ho3.out hg3.out; rw [← HY.out] at HM3'; have HM3 := Lib.hid HM3'; have HO3 := Lib.hid (rowR_grown HOA.out HMA.out.row (by decide) hg3.out); have HB3 : Hid (Below w.heap.size w w3) := HBA.out.grown hg3.out (by simp; omega) (fun p e => (own_apartS HMA.out.row p e).1); have hs3 := HB3.out.size; clear HM3' ho3 hg3 hv3; have HM6 := HM3; have HO6 := HO3; have HB6 := HB3; have hs6 := HB6.out.size; have HC6 := Lib.hid (rowR_at HM6.out.row (j := q) (u := rowMV y) (by rw [List.map_append, List.getElem?_append_right (by rw [List.length_map]; omega), List.length_map, hq]; simp)); have d6 := HC6.out; unfold rowMV at d6; have hb7 := (Below.refl w3.heap.size w3).alloc (Nat.le_refl _) (.cells #[.int .i64 z] 3); have HM7 := Lib.hid (HM6.out.later hb7); have HO7 := Lib.hid (own_keptS HO6.out fun p _ hp => hb7.block p hp); have HB7 := Lib.hid (HB6.out.alloc HB6.out.size (.cells #[.int .i64 z] 3)); have HN7 := Lib.hid (Row.of_block (heap_alloc_new w3 (.cells #[.int .i64 z] 3))); have HE7' := HM7.out.each q (by simp; omega); have hge : (L' ++ [y])[q]'(by simp; omega) = y := (by simp [← hq]); rw [hge] at HE7'; have HE7 := Lib.hid HE7'; clear hb7 HE7' hge; clear HC6)
                | (at_builtin; (refine wpList_append_liesG _ rfl _ _ 22 rfl w.heap.size 3 1 _ 8 Try.underlying22 info_i64 rfl (by omega) _ y.2.2.length (i64s y.2.2) rfl HE7 (by simp; omega) ⟨w3.heap.size, 0, none⟩ [.int .i64 z] 1 1 rfl rfl HN7.out (by simp [Value.oneCell']) (by omega) (by omega) (by omega) ?_; intro g8 c8 w8 ho8 hg8 hv8); have HM8 := Lib.hid (HM7.out.push ho8.out hg8.out hv8.out); have HO8 := Lib.hid (rowR_grown HO7.out HE7.out (by decide) hg8.out); have HB8 : Hid (Below w.heap.size w w8) := HB7.out.grown hg8.out (by simp; omega) (fun p e => (own_apartS HE7.out p e).1); have HR8 := Lib.hid (rowR_grown HM7.out.row HE7.out (by decide) hg8.out); have f8 := rowR_free HR8.out q; have d8 := rowR_at HR8.out (j := q) (u := rowMV y) (by rw [List.map_append, List.getElem?_append_right (by rw [List.length_map]; omega), List.length_map, hq]; simp); unfold rowMV at d8; rw [hq] at HM8; have HO9 := Lib.hid (ownsRow_setCell_other (a := ⟨g3, q, none⟩) HO8.out (fun e => rowR_ne HO8.out HR8.out (by decide) e rfl) (.slice (some ⟨g8, 0, none⟩) (y.2.2.length + 1) c8)); have HB9 := Lib.hid (HB8.out.setCell (p := ⟨g3, q, none⟩) (own_apartS HR8.out g3 rfl).1 (.slice (some ⟨g8, 0, none⟩) (y.2.2.length + 1) c8)); clear ho8 hg8 hv8 HO8 HB8)
                | (go_at_call 15; (with_reducible refine (CN _ _ (by assumption)).out.mono ?_); rintro e w4 ⟨rfl, hb4⟩; have HM4 := Lib.hid (HM8.out.later hb4); have HO4 := Lib.hid (own_keptS HO9.out fun p _ hp => hb4.block p hp); have HB4 := Lib.hid (HB9.out.trans (hb4.mono HB9.out.size)); have hs4 := HB4.out.size; have hba4 := (Below.refl w4.heap.size w4).alloc (Nat.le_refl _) (.cells #[.int .i64 (k : Int), .string ⟨(countB x).toArray⟩, .int .i64 0] 41); have HM5 := Lib.hid (HM4.out.later hba4); have HO5 := Lib.hid (own_keptS HO4.out fun p _ hp => hba4.block p hp); have HB5 := Lib.hid (HB4.out.alloc HB4.out.size (.cells #[.int .i64 (k : Int), .string ⟨(countB x).toArray⟩, .int .i64 0] 41)); have HN5 := Lib.hid (Row.of_block (heap_alloc_new w4 (.cells #[.int .i64 (k : Int), .string ⟨(countB x).toArray⟩, .int .i64 0] 41))); clear hba4 hb4)
                | (at_builtin; refine wpList_append_liesG _ rfl _ _ 25 rfl w.heap.size 41 3 _ 32 Try.underlying25 info_ents21 rfl (by omega) _ mo _ rfl HO5 (by simp; omega) ⟨w4.heap.size, 0, none⟩ [.int .i64 (k : Int), .string ⟨(countB x).toArray⟩, .int .i64 0] 1 1 rfl rfl HN5.out (by simp [Value.oneCell']) (by omega) (by omega) (by omega) ?_; intro g6 c6 w6 ho6 hg6 hv6; have HM6 := Lib.hid (HM5.out.grown HO5.out (by decide) (by decide) hg6.out); have HO6 := Lib.hid ho6.out; have HB6 : Hid (Below w.heap.size w w6) := HB5.out.grown hg6.out (by simp; omega) (fun p e => (own_apartS HO5.out p e).1); clear ho6 hg6 hv6))
              go_roundw
              case rel =>
                refine ⟨k + 1, L' ++ [(some ⟨g8, 0, none⟩, c8, y.2.2 ++ [z])], _, by omega, by push_cast; rfl, ?_, ?_, rfl, ?_, ?_⟩
                · rw [show (L' ++ [((some ⟨g8, 0, none⟩, c8, y.2.2 ++ [z]) : RowM)]).length = q + 1 from by simp [hq]]
                  exact HM6
                · have hb9 := HBN.out (some ⟨g8, 0, none⟩) c8
                  rw [HX.out, HZ.out] at hb9
                  rw [HY.out]
                  exact hb9
                · have e1 : over21 (l.take (k + 1)) = over21 (l.take k) ++ [((k : Int), countB x)] := by rw [HOT.out, one21, if_pos h3]; rfl
                  rw [e1, List.length_append, entL21, List.map_append, entC_snoc, ← hmo]
                  exact HO6
                · exact HB6
              case measure => simp [intOf]; omega
            · obtain ⟨z, hzz⟩ : ∃ z, z = x := ⟨_, rfl⟩
              have hmin : min x 3 = z := by omega
              have HZ : Hid (lim21 x = z) := by rw [hzz]; exact Lib.hid (if_neg h3)
              clear hzz
              obtain ⟨hLq, hBN⟩ := bits21_new (HLL.out hlt) hz hL.out
              have HBN := Lib.hid hBN
              obtain ⟨L', hLL⟩ : ∃ L', L' = L := ⟨_, rfl⟩
              subst hLL
              have hq : L'.length = q := by rw [hLq]; exact HQ.out.symm
              have hM2 := hM.out
              rw [hq] at hM2
              have hqw : wrap64 (((q + 1 : Nat) : Int) - 1) = (q : Int) := by unfold wrap64; omega
              obtain ⟨y, hy⟩ : ∃ y : RowM, y = (none, 0, []) := ⟨_, rfl⟩
              have HN0 := Lib.hid (Row.of_block (heap_alloc_new wr (.cells #[.slice none 0 0] 22)))
              have hba := (Below.refl wr.heap.size wr).alloc (Nat.le_refl _) (.cells #[.slice none 0 0] 22)
              have HMA := Lib.hid (hM2.later hba)
              have HOA := Lib.hid (own_keptS hO.out fun p _ hp => hba.block p hp)
              have HBA := Lib.hid (hbel.out.alloc hs (.cells #[.slice none 0 0] 22))
              have hyl : y.2.2.length ≤ 65536 := by rw [hy]; simp
              have HY := Lib.hid hy
              clear hy
              clear hba hBN hLq hM2
              clear hL hM hO hbel
              go_wp2_with (first
                | (at_builtin; refine wpList_append_liesG _ rfl _ _ 24 rfl w.heap.size 22 1 _ 24 Try.underlying24 info_ints21 rfl (by omega) _ q (L'.map rowMV) rfl (Lib.hid HMA.out.row) (by simp; omega) ⟨wr.heap.size, 0, none⟩ [.slice none 0 0] 1 1 rfl rfl HN0.out (by simp [Value.oneCell']) (by omega) (by omega) (by omega) ?_; intro g3 c3 w3 ho3 hg3 hv3; have HM3' := HMA.out.snoc ho3.out hg3.out; rw [← HY.out] at HM3'; have HM3 := Lib.hid HM3'; have HO3 := Lib.hid (rowR_grown HOA.out HMA.out.row (by decide) hg3.out); have HB3 : Hid (Below w.heap.size w w3) := HBA.out.grown hg3.out (by simp; omega) (fun p e => (own_apartS HMA.out.row p e).1); have hs3 := HB3.out.size; clear HM3' ho3 hg3 hv3; have HM6 := HM3; have HO6 := HO3; have HB6 := HB3; have hs6 := HB6.out.size; have HC6 := Lib.hid (rowR_at HM6.out.row (j := q) (u := rowMV y) (by rw [List.map_append, List.getElem?_append_right (by rw [List.length_map]; omega), List.length_map, hq]; simp)); have d6 := HC6.out; unfold rowMV at d6; have hb7 := (Below.refl w3.heap.size w3).alloc (Nat.le_refl _) (.cells #[.int .i64 z] 3); have HM7 := Lib.hid (HM6.out.later hb7); have HO7 := Lib.hid (own_keptS HO6.out fun p _ hp => hb7.block p hp); have HB7 := Lib.hid (HB6.out.alloc HB6.out.size (.cells #[.int .i64 z] 3)); have HN7 := Lib.hid (Row.of_block (heap_alloc_new w3 (.cells #[.int .i64 z] 3))); have HE7' := HM7.out.each q (by simp; omega); have hge : (L' ++ [y])[q]'(by simp; omega) = y := (by simp [← hq]); rw [hge] at HE7'; have HE7 := Lib.hid HE7'; clear hb7 HE7' hge; clear HC6)
                | (at_builtin; (refine wpList_append_liesG _ rfl _ _ 22 rfl w.heap.size 3 1 _ 8 Try.underlying22 info_i64 rfl (by omega) _ y.2.2.length (i64s y.2.2) rfl HE7 (by simp; omega) ⟨w3.heap.size, 0, none⟩ [.int .i64 z] 1 1 rfl rfl HN7.out (by simp [Value.oneCell']) (by omega) (by omega) (by omega) ?_; intro g8 c8 w8 ho8 hg8 hv8); have HM8 := Lib.hid (HM7.out.push ho8.out hg8.out hv8.out); have HO8 := Lib.hid (rowR_grown HO7.out HE7.out (by decide) hg8.out); have HB8 : Hid (Below w.heap.size w w8) := HB7.out.grown hg8.out (by simp; omega) (fun p e => (own_apartS HE7.out p e).1); have HR8 := Lib.hid (rowR_grown HM7.out.row HE7.out (by decide) hg8.out); have f8 := rowR_free HR8.out q; have d8 := rowR_at HR8.out (j := q) (u := rowMV y) (by rw [List.map_append, List.getElem?_append_right (by rw [List.length_map]; omega), List.length_map, hq]; simp); unfold rowMV at d8; rw [hq] at HM8; have HO9 := Lib.hid (ownsRow_setCell_other (a := ⟨g3, q, none⟩) HO8.out (fun e => rowR_ne HO8.out HR8.out (by decide) e rfl) (.slice (some ⟨g8, 0, none⟩) (y.2.2.length + 1) c8)); have HB9 := Lib.hid (HB8.out.setCell (p := ⟨g3, q, none⟩) (own_apartS HR8.out g3 rfl).1 (.slice (some ⟨g8, 0, none⟩) (y.2.2.length + 1) c8)); clear ho8 hg8 hv8 HO8 HB8))
              go_roundw
              case rel =>
                refine ⟨k + 1, L' ++ [(some ⟨g8, 0, none⟩, c8, y.2.2 ++ [z])], _, by omega, by push_cast; rfl, ?_, ?_, rfl, ?_, HB9⟩
                · rw [show (L' ++ [((some ⟨g8, 0, none⟩, c8, y.2.2 ++ [z]) : RowM)]).length = q + 1 from by simp [hq]]
                  exact HM8
                · have hb9 := HBN.out (some ⟨g8, 0, none⟩) c8
                  rw [HX.out, HZ.out] at hb9
                  rw [HY.out]
                  exact hb9
                · have e1 : over21 (l.take (k + 1)) = over21 (l.take k) := by rw [HOT.out, one21, if_neg h3, List.append_nil]
                  rw [e1, ← hmo]
                  exact HO9
              case measure => simp [intOf]; omega
          · have hzd : ¬ ((k : Int)).tmod 960 = 0 := fun e => by have := (show ((k : Int)).tmod 960 = ((k % 960 : Nat) : Int) from rfl); omega
            by_cases h3 : 3 ≤ x
            · obtain ⟨z, hzz⟩ : ∃ z, z = (3 : Int) := ⟨_, rfl⟩
              have hmin : min x 3 = z := by omega
              have HZ : Hid (lim21 x = z) := by rw [hzz]; exact Lib.hid (if_pos h3)
              clear hzz
              obtain ⟨L', y, hLy, hq0, hyl0, hBN⟩ := bits21_more (HLL.out hlt) hz hL.out
              have HBN := Lib.hid hBN
              have hq : L'.length = q := by rw [hq0]; exact HQ.out.symm
              have hyl : y.2.2.length ≤ 65536 := by omega
              have hM3 := hM.out
              rw [hLy] at hM3
              have hln : (L' ++ [y]).length = q + 1 := by simp [hq]
              rw [hln] at hM3
              have hqw : wrap64 (((q + 1 : Nat) : Int) - 1) = (q : Int) := by unfold wrap64; omega
              obtain ⟨A3, c3, rfl, hcm3, hc93⟩ := ownsRow_form hM3.row
              obtain ⟨g3, rfl, hg3, hg3b⟩ := rowR_form hM3.row (by omega)
              have HM3 := Lib.hid hM3
              have HO3 := hO
              have HB3 := hbel
              have hc9 : c3 ≤ 9223372036854775807 := by simpa [maxLen] using hc93
              clear hM3 hBN hLy hln hq0 hyl0 hg3 hg3b hc93
              have HM6 := HM3; have HO6 := HO3; have HB6 := HB3; have hs6 := HB6.out.size; have HC6 := Lib.hid (rowR_at HM6.out.row (j := q) (u := rowMV y) (by rw [List.map_append, List.getElem?_append_right (by rw [List.length_map]; omega), List.length_map, hq]; simp)); have d6 := HC6.out; unfold rowMV at d6; have hb7 := (Below.refl wr.heap.size wr).alloc (Nat.le_refl _) (.cells #[.int .i64 z] 3); have HM7 := Lib.hid (HM6.out.later hb7); have HO7 := Lib.hid (own_keptS HO6.out fun p _ hp => hb7.block p hp); have HB7 := Lib.hid (HB6.out.alloc HB6.out.size (.cells #[.int .i64 z] 3)); have HN7 := Lib.hid (Row.of_block (heap_alloc_new wr (.cells #[.int .i64 z] 3))); have HE7' := HM7.out.each q (by simp; omega); have hge : (L' ++ [y])[q]'(by simp; omega) = y := (by simp [← hq]); rw [hge] at HE7'; have HE7 := Lib.hid HE7'; clear hb7 HE7' hge; clear HC6
              clear hL hM hO hbel
              go_wp2_with (first
                | (at_builtin; (refine wpList_append_liesG _ rfl _ _ 22 rfl w.heap.size 3 1 _ 8 Try.underlying22 info_i64 rfl (by omega) _ y.2.2.length (i64s y.2.2) rfl HE7 (by simp; omega) ⟨wr.heap.size, 0, none⟩ [.int .i64 z] 1 1 rfl rfl HN7.out (by simp [Value.oneCell']) (by omega) (by omega) (by omega) ?_; intro g8 c8 w8 ho8 hg8 hv8); have HM8 := Lib.hid (HM7.out.push ho8.out hg8.out hv8.out); have HO8 := Lib.hid (rowR_grown HO7.out HE7.out (by decide) hg8.out); have HB8 : Hid (Below w.heap.size w w8) := HB7.out.grown hg8.out (by simp; omega) (fun p e => (own_apartS HE7.out p e).1); have HR8 := Lib.hid (rowR_grown HM7.out.row HE7.out (by decide) hg8.out); have f8 := rowR_free HR8.out q; have d8 := rowR_at HR8.out (j := q) (u := rowMV y) (by rw [List.map_append, List.getElem?_append_right (by rw [List.length_map]; omega), List.length_map, hq]; simp); unfold rowMV at d8; rw [hq] at HM8; have HO9 := Lib.hid (ownsRow_setCell_other (a := ⟨g3, q, none⟩) HO8.out (fun e => rowR_ne HO8.out HR8.out (by decide) e rfl) (.slice (some ⟨g8, 0, none⟩) (y.2.2.length + 1) c8)); have HB9 := Lib.hid (HB8.out.setCell (p := ⟨g3, q, none⟩) (own_apartS HR8.out g3 rfl).1 (.slice (some ⟨g8, 0, none⟩) (y.2.2.length + 1) c8)); clear ho8 hg8 hv8 HO8 HB8)
                | (go_at_call 15; (with_reducible refine (CN _ _ (by assumption)).out.mono ?_); rintro e w4 ⟨rfl, hb4⟩; have HM4 := Lib.hid (HM8.out.later hb4); have HO4 := Lib.hid (own_keptS HO9.out fun p _ hp => hb4.block p hp); have HB4 := Lib.hid (HB9.out.trans (hb4.mono HB9.out.size)); have hs4 := HB4.out.size; have hba4 := (Below.refl w4.heap.size w4).alloc (Nat.le_refl _) (.cells #[.int .i64 (k : Int), .string ⟨(countB x).toArray⟩, .int .i64 0] 41); have HM5 := Lib.hid (HM4.out.later hba4); have HO5 := Lib.hid (own_keptS HO4.out fun p _ hp => hba4.block p hp); have HB5 := Lib.hid (HB4.out.alloc HB4.out.size (.cells #[.int .i64 (k : Int), .string ⟨(countB x).toArray⟩, .int .i64 0] 41)); have HN5 := Lib.hid (Row.of_block (heap_alloc_new w4 (.cells #[.int .i64 (k : Int), .string ⟨(countB x).toArray⟩, .int .i64 0] 41))); clear hba4 hb4)
                | (at_builtin; refine wpList_append_liesG _ rfl _ _ 25 rfl w.heap.size 41 3 _ 32 Try.underlying25 info_ents21 rfl (by omega) _ mo _ rfl HO5 (by simp; omega) ⟨w4.heap.size, 0, none⟩ [.int .i64 (k : Int), .string ⟨(countB x).toArray⟩, .int .i64 0] 1 1 rfl rfl HN5.out (by simp [Value.oneCell']) (by omega) (by omega) (by omega) ?_; intro g6 c6 w6 ho6 hg6 hv6; have HM6 := Lib.hid (HM5.out.grown HO5.out (by decide) (by decide) hg6.out); have HO6 := Lib.hid ho6.out; have HB6 : Hid (Below w.heap.size w w6) := HB5.out.grown hg6.out (by simp; omega) (fun p e => (own_apartS HO5.out p e).1); clear ho6 hg6 hv6))
              go_roundw
              case rel =>
                refine ⟨k + 1, L' ++ [(some ⟨g8, 0, none⟩, c8, y.2.2 ++ [z])], _, by omega, by push_cast; rfl, ?_, ?_, rfl, ?_, ?_⟩
                · rw [show (L' ++ [((some ⟨g8, 0, none⟩, c8, y.2.2 ++ [z]) : RowM)]).length = q + 1 from by simp [hq]]
                  exact HM6
                · have hb9 := HBN.out (some ⟨g8, 0, none⟩) c8
                  rw [HX.out, HZ.out] at hb9
                  exact hb9
                · have e1 : over21 (l.take (k + 1)) = over21 (l.take k) ++ [((k : Int), countB x)] := by rw [HOT.out, one21, if_pos h3]; rfl
                  rw [e1, List.length_append, entL21, List.map_append, entC_snoc, ← hmo]
                  exact HO6
                · exact HB6
              case measure => simp [intOf]; omega
            · obtain ⟨z, hzz⟩ : ∃ z, z = x := ⟨_, rfl⟩
              have hmin : min x 3 = z := by omega
              have HZ : Hid (lim21 x = z) := by rw [hzz]; exact Lib.hid (if_neg h3)
              clear hzz
              obtain ⟨L', y, hLy, hq0, hyl0, hBN⟩ := bits21_more (HLL.out hlt) hz hL.out
              have HBN := Lib.hid hBN
              have hq : L'.length = q := by rw [hq0]; exact HQ.out.symm
              have hyl : y.2.2.length ≤ 65536 := by omega
              have hM3 := hM.out
              rw [hLy] at hM3
              have hln : (L' ++ [y]).length = q + 1 := by simp [hq]
              rw [hln] at hM3
              have hqw : wrap64 (((q + 1 : Nat) : Int) - 1) = (q : Int) := by unfold wrap64; omega
              obtain ⟨A3, c3, rfl, hcm3, hc93⟩ := ownsRow_form hM3.row
              obtain ⟨g3, rfl, hg3, hg3b⟩ := rowR_form hM3.row (by omega)
              have HM3 := Lib.hid hM3
              have HO3 := hO
              have HB3 := hbel
              have hc9 : c3 ≤ 9223372036854775807 := by simpa [maxLen] using hc93
              clear hM3 hBN hLy hln hq0 hyl0 hg3 hg3b hc93
              have HM6 := HM3; have HO6 := HO3; have HB6 := HB3; have hs6 := HB6.out.size; have HC6 := Lib.hid (rowR_at HM6.out.row (j := q) (u := rowMV y) (by rw [List.map_append, List.getElem?_append_right (by rw [List.length_map]; omega), List.length_map, hq]; simp)); have d6 := HC6.out; unfold rowMV at d6; have hb7 := (Below.refl wr.heap.size wr).alloc (Nat.le_refl _) (.cells #[.int .i64 z] 3); have HM7 := Lib.hid (HM6.out.later hb7); have HO7 := Lib.hid (own_keptS HO6.out fun p _ hp => hb7.block p hp); have HB7 := Lib.hid (HB6.out.alloc HB6.out.size (.cells #[.int .i64 z] 3)); have HN7 := Lib.hid (Row.of_block (heap_alloc_new wr (.cells #[.int .i64 z] 3))); have HE7' := HM7.out.each q (by simp; omega); have hge : (L' ++ [y])[q]'(by simp; omega) = y := (by simp [← hq]); rw [hge] at HE7'; have HE7 := Lib.hid HE7'; clear hb7 HE7' hge; clear HC6
              clear hL hM hO hbel
              go_wp2_with (first
                | (at_builtin; (refine wpList_append_liesG _ rfl _ _ 22 rfl w.heap.size 3 1 _ 8 Try.underlying22 info_i64 rfl (by omega) _ y.2.2.length (i64s y.2.2) rfl HE7 (by simp; omega) ⟨wr.heap.size, 0, none⟩ [.int .i64 z] 1 1 rfl rfl HN7.out (by simp [Value.oneCell']) (by omega) (by omega) (by omega) ?_; intro g8 c8 w8 ho8 hg8 hv8); have HM8 := Lib.hid (HM7.out.push ho8.out hg8.out hv8.out); have HO8 := Lib.hid (rowR_grown HO7.out HE7.out (by decide) hg8.out); have HB8 : Hid (Below w.heap.size w w8) := HB7.out.grown hg8.out (by simp; omega) (fun p e => (own_apartS HE7.out p e).1); have HR8 := Lib.hid (rowR_grown HM7.out.row HE7.out (by decide) hg8.out); have f8 := rowR_free HR8.out q; have d8 := rowR_at HR8.out (j := q) (u := rowMV y) (by rw [List.map_append, List.getElem?_append_right (by rw [List.length_map]; omega), List.length_map, hq]; simp); unfold rowMV at d8; rw [hq] at HM8; have HO9 := Lib.hid (ownsRow_setCell_other (a := ⟨g3, q, none⟩) HO8.out (fun e => rowR_ne HO8.out HR8.out (by decide) e rfl) (.slice (some ⟨g8, 0, none⟩) (y.2.2.length + 1) c8)); have HB9 := Lib.hid (HB8.out.setCell (p := ⟨g3, q, none⟩) (own_apartS HR8.out g3 rfl).1 (.slice (some ⟨g8, 0, none⟩) (y.2.2.length + 1) c8)); clear ho8 hg8 hv8 HO8 HB8))
              go_roundw
              case rel =>
                refine ⟨k + 1, L' ++ [(some ⟨g8, 0, none⟩, c8, y.2.2 ++ [z])], _, by omega, by push_cast; rfl, ?_, ?_, rfl, ?_, HB9⟩
                · rw [show (L' ++ [((some ⟨g8, 0, none⟩, c8, y.2.2 ++ [z]) : RowM)]).length = q + 1 from by simp [hq]]
                  exact HM8
                · have hb9 := HBN.out (some ⟨g8, 0, none⟩) c8
                  rw [HX.out, HZ.out] at hb9
                  exact hb9
                · have e1 : over21 (l.take (k + 1)) = over21 (l.take k) := by rw [HOT.out, one21, if_neg h3, List.append_nil]
                  rw [e1, ← hmo]
                  exact HO9
              case measure => simp [intOf]; omega
        · obtain rfl : k = n := by omega
          have hM2 := hM.out
          have hO2 := hO.out
          rw [hmo] at hO2
          have hL2 := hL.out
          rw [ALL.out] at hL2 hO2
          obtain ⟨A5, c5, rfl, hmt⟩ := hM2.matN
          rw [hL2] at hmt
          have hll : L.length = (bits21 l).length := by rw [← hL2, List.length_map]
          rw [hll, HMB.out] at hmt
          have hO3 : wr.ownsRow w.heap.size 41 3 u6 (entL21 (over21 l)).length (entC (entL21 (over21 l))) := by rw [entL21_length]; exact hO2
          obtain ⟨A6, c6, rfl, hen⟩ := EnsN.of_own hO3
          rw [entL21_length, HMC.out] at hen
          have hll2 : L.length = (bits21 l).length := hll
          have HMT := Lib.hid hmt
          have HEN := Lib.hid hen
          clear hM2 hO2 hL2 hmt hen hO3 hll hM hL hO hmo OK OT OL
          rw [HMB.out] at hll2
          rw [entL21_length, HMC.out]
          rw [hll2]
          go_wp2
          go_ret3
          exact ⟨_, _, _, _, rfl, HMT.out, HEN.out, hbel.out⟩
  · obtain rfl : E = 1 := by rw [← hE]; exact splE21_many (by omega)
    obtain ⟨rfl, rfl⟩ := HNIL.out (by decide)
    obtain rfl : 0 = mb := HMB.out
    obtain rfl : 0 = mc := HMC.out
    clear h hl hE HYES HNIL hbd
    go_enter Try.func7, Try.ntmps7
    go_wp2
    go_ret3
    exact ⟨none, 0, none, 0, rfl, MatN.nil _ _, EnsN.nil _ _, Below.refl _ _⟩
theorem Split_any21 (A : Option Addr) (n c : Nat) (l : List Int) (w : World) (h : Ints w A n c l) (hbd : ∀ x ∈ l, -9223372036854775808 ≤ x ∧ x ≤ 9223372036854775807) :
    Calls Try.prog 7 #[.slice A n c] w fun e w' => ∃ A1 c1 A2 c2, e = .returned (.tuple #[.slice A1 (splB21 l).length c1, .slice A2 (splO21 l).length c2, .int .i64 (splE21 l)]) ∧ Mat w' A1 (splB21 l).length c1 (splB21 l) ∧ Ens w' A2 (splO21 l).length c2 (entL21 (splO21 l)) ∧ Below w.heap.size w w' :=
  (Split_any21F A n c l w h hbd).mono fun _ _ ⟨A1, c1, A2, c2, h1, h2, h3, h4⟩ => ⟨A1, c1, A2, c2, h1, h2.at_, h3.at_, h4⟩
end Go.Proofs.Ytoacgoelhidmbaa

/-
  Layer 21: the program's row, use and check.
-/
namespace Go.Proofs.Ytoacgoelhidmbaa
open Go.RowKit
set_option linter.unusedVariables false
set_option linter.unusedSimpArgs false

theorem zero_ent21 (w : World) : (zeroValue 41).run Try.prog w = .ok (entV21 zE21) w := by kernel_rfl

/-- is a list of counts formed so (from its length, how many lists there are, and its numbers) -/
theorem len21_iff {b : List (List Int)} {k n m : Nat} (hl : b.length = n) (hm : (b.getD k []).length = m) : len21 b k ↔ 1 ≤ m ∧ m ≤ 960 ∧ (k + 1 < n → 960 ≤ m) := by
  unfold len21
  rw [hm, hl]

set_option maxRecDepth 100000 in
set_option maxHeartbeats 1600000 in
theorem Row_any21 (A : Option Addr) (n c : Nat) (b : List (List Int)) (w : World) (h : Mat w A n c b) (ht : tot21 b ≤ 100000000) :
    Calls Try.prog 18 #[.slice A n c] w fun e w' => (∃ V, e = .returned (.tuple #[V, .int .i64 (if okB21 b then 0 else 7)]) ∧ Hid (okB21 b → w'.ownsRow w.heap.size 3 1 V b.flatten.length (i64s b.flatten)) ∧ Hid (¬ okB21 b → V = .slice none 0 0)) ∧ Below w.heap.size w w' := by
  have hle : n ≤ 9223372036854775807 := Nat.le_trans h.cap h.most
  have hl := h.len
  obtain ⟨E, hE⟩ : ∃ E, (if okB21 b then (0 : Int) else 7) = E := ⟨_, rfl⟩
  rw [hE]
  have NO : Hid (¬ okB21 b → E = 7) := fun hn => by rw [← hE, if_neg hn]
  have YS : Hid (okB21 b → E = 0) := fun hn => by rw [← hE, if_pos hn]
  have NL : Hid (∀ k, k < n → ¬ len21 b k → ¬ okB21 b) := fun k hk hn ho => hn ((okB21_iff.1 ho).1 k (by omega))
  have NT : Hid (∀ k, k < n → in21 3 (b.getD k []) = false → ¬ okB21 b) := fun k hk hn ho => by
    have h2 := (okB21_iff.1 ho).2
    have : in21 3 (b.getD k []) = true := decide_eq_true fun j hj => h2 k j (by omega) hj
    rw [hn] at this
    cases this
  have OKB : Hid ((∀ k, k < n → len21 b k ∧ in21 3 (b.getD k []) = true) → okB21 b) := fun hk => okB21_iff.2 ⟨fun k h2 => (hk k (by omega)).1, fun k j h2 hj => (of_decide_eq_true (hk k (by omega)).2) j hj⟩
  have LN := fun (k m : Nat) (hm : (b.getD k []).length = m) => Lib.hid (len21_iff (k := k) hl hm)
  have TT : Hid (∀ k, k < n → tot21 (b.take (k + 1)) = tot21 (b.take k) + (b.getD k []).length ∧ tot21 (b.take (k + 1)) ≤ 100000000) := fun k hk => by
    refine ⟨tot21_take (by omega), ?_⟩
    have e : tot21 b = tot21 (b.take (k + 1)) + tot21 (b.drop (k + 1)) := by
      rw [← tot21_flat, ← tot21_flat, ← tot21_flat, ← List.length_append, ← List.flatten_append, List.take_append_drop]
    omega
  have FT : Hid (∀ k, k < n → (b.take (k + 1)).flatten = (b.take k).flatten ++ b.getD k []) := fun k hk => flat21_take (by omega)
  have FA : Hid ((b.take n).flatten = b.flatten ∧ tot21 (b.take n) = b.flatten.length) := by
    rw [List.take_of_length_le (by omega), tot21_flat]; exact Lib.hid ⟨rfl, rfl⟩
  have HM := Lib.hid h
  clear h hE ht hl
  go_enter Try.func18, Try.ntmps18
  go_wp2
  go_loopw [4, 10] (fun vo i wr => ∃ (k T : Nat), k ≤ n ∧ i = .int .i64 k ∧ Hid (T = tot21 (b.take k)) ∧ Hid (wr.ownsRow w.heap.size 3 1 vo T (i64s (b.take k).flatten)) ∧ Hid (∀ q, q < k → len21 b q ∧ in21 3 (b.getD q []) = true) ∧ Hid (Below w.heap.size w wr)) (fun _ i _ => n - (intOf i).toNat)
  case atStart => exact ⟨0, 0, by omega, rfl, rfl, World.ownsRow_nil _ _ _ _, fun j hj => absurd hj (Nat.not_lt_zero _), Below.refl _ _⟩
  case round =>
    obtain ⟨k, T, hk, rfl, hT, hO, HK, hbel⟩ := hrel
    by_cases hlt : k < n
    · obtain ⟨bb, off, A', m, c', rfl, hb, hkl, d0, hI⟩ := mat_at HM.out hlt
      have g0 := (hbel.out.cell (p := ⟨bb, off + k, none⟩) hb).trans d0
      have hml := hI.len
      have hme : m ≤ 9223372036854775807 := Nat.le_trans hI.cap hI.most
      have HLN := Lib.hid (LN k m hml).out
      have hs : w.heap.size ≤ wr.heap.size := hbel.out.size
      obtain ⟨r, hr⟩ : ∃ r, in21 3 (b.getD k []) = r := ⟨_, rfl⟩
      have WI := Lib.hid (Within_any21 A' m c' (b.getD k []) 3 wr (hI.below hbel.out) r hr)
      have NTk : Hid (r = false → E = 7 ∧ ¬ okB21 b) := fun e => by have := NT.out k hlt (by rw [hr]; exact e); exact ⟨NO.out this, this⟩
      have NLk : Hid (¬ (1 ≤ m ∧ m ≤ 960 ∧ (k + 1 < n → 960 ≤ m)) → E = 7 ∧ ¬ okB21 b) := fun e => by have := NL.out k hlt (fun hh => e (HLN.out.1 hh)); exact ⟨NO.out this, this⟩
      have HKN : Hid ((1 ≤ m ∧ m ≤ 960 ∧ (k + 1 < n → 960 ≤ m)) → r = true → ∀ q, q < k + 1 → len21 b q ∧ in21 3 (b.getD q []) = true) := fun e1 e2 q hq => by
        by_cases hqk : q < k
        · exact HK.out q hqk
        · obtain rfl : q = k := by omega
          exact ⟨HLN.out.2 e1, by rw [hr]; exact e2⟩
      have HAP : Hid (1 ≤ m → ∃ b4 off4, A' = some ⟨b4, off4, none⟩) := fun hm => by
        obtain ⟨b4, off4, hA4, hb4, hc4⟩ := hI.row.lit (by rw [i64s_length, hml]; omega)
        exact ⟨b4, off4, hA4⟩
      have HRW := Lib.hid ((hI.row).below hbel.out)
      have hcap := hI.cap
      have hmost := hI.most
      obtain ⟨ht1, ht2⟩ := TT.out k hlt
      rw [ht1] at ht2
      rw [hml, ← hT.out] at ht1 ht2
      have HT1 := Lib.hid ht1
      have HFT := Lib.hid (FT.out k hlt)
      have HML := Lib.hid hml
      clear d0 hI hml hr ht1 NL NT LN HLN YS NO OKB TT FT FA HK
      obtain ⟨LS, hls⟩ : ∃ LS : Int, (True ∧ (n : Int) - 1 = (k : Int) ∧ LS = 1) ∨ (((k : Int) == (n : Int) - 1) = false ∧ ¬ (k : Int) = (n : Int) - 1 ∧ LS = 960) := by
        by_cases hk1 : (k : Int) = (n : Int) - 1
        · exact ⟨1, .inl ⟨trivial, hk1.symm, rfl⟩⟩
        · exact ⟨960, .inr ⟨by simp [hk1], hk1, rfl⟩⟩
      have HLS : Hid ((k + 1 = n ∧ LS = 1) ∨ (k + 1 < n ∧ LS = 960)) := by
        rcases hls with ⟨_, e1, e2⟩ | ⟨_, e1, e2⟩
        · exact .inl ⟨by omega, e2⟩
        · exact .inr ⟨by omega, e2⟩
      by_cases c1 : (m : Int) < LS
      · obtain ⟨rfl, hnb⟩ := NLk.out (by have := HLS.out; omega)
        have HNB := Lib.hid hnb
        have c1d : decide ((m : Int) < LS) = true := decide_eq_true c1
        clear NTk NLk HKN HAP hO hT hnb HLS
        rcases hls with ⟨hlb, hli, rfl⟩ | ⟨hlb, hli, rfl⟩ <;>
        · go_wp2
          go_ret2
          exact ⟨⟨_, rfl, Lib.hid (fun ho => absurd ho HNB.out), Lib.hid (fun _ => rfl)⟩, hbel.out⟩
      · have c1d : decide ((m : Int) < LS) = false := decide_eq_false c1
        by_cases c2 : (960 : Int) < (m : Int)
        · obtain ⟨rfl, hnb⟩ := NLk.out (by have := HLS.out; omega)
          have HNB := Lib.hid hnb
          have c2d : decide ((960 : Int) < (m : Int)) = true := decide_eq_true c2
          clear NTk NLk HKN HAP hO hT hnb HLS
          rcases hls with ⟨hlb, hli, rfl⟩ | ⟨hlb, hli, rfl⟩ <;>
          · go_wp2
            go_ret2
            exact ⟨⟨_, rfl, Lib.hid (fun ho => absurd ho HNB.out), Lib.hid (fun _ => rfl)⟩, hbel.out⟩
        · have c2d : decide ((960 : Int) < (m : Int)) = false := decide_eq_false c2
          have hwell : 1 ≤ m ∧ m ≤ 960 ∧ (k + 1 < n → 960 ≤ m) := by have := HLS.out; omega
          cases r with
          | false =>
            obtain ⟨rfl, hnb⟩ := NTk.out rfl
            have HNB := Lib.hid hnb
            clear NTk NLk HKN HAP hO hT hnb HLS hwell
            rcases hls with ⟨hlb, hli, rfl⟩ | ⟨hlb, hli, rfl⟩ <;>
            · go_wp2_with (go_at_call 16; (with_reducible refine (WI.out).mono ?_); rintro e w1 ⟨rfl, rfl⟩)
              go_ret2
              exact ⟨⟨_, rfl, Lib.hid (fun ho => absurd ho HNB.out), Lib.hid (fun _ => rfl)⟩, hbel.out⟩
          | true =>
            have HK2 := Lib.hid (HKN.out hwell rfl)
            have hm1 := hwell.1
            obtain ⟨b4, off4, rfl⟩ := HAP.out hm1
            clear NTk NLk HKN HAP HLS hwell
            rcases hls with ⟨hlb, hli, rfl⟩ | ⟨hlb, hli, rfl⟩ <;>
            · go_wp2_with (first
                | (go_at_call 16; (with_reducible refine (WI.out).mono ?_); rintro e w1 ⟨rfl, rfl⟩)
                | (at_builtin; refine wpList_append_liesG _ rfl _ _ 22 rfl w.heap.size 3 1 _ 8 Try.underlying22 info_i64 rfl (by omega) _ T _ rfl hO hs ⟨b4, off4, none⟩ (i64s (b.getD k [])) m c' rfl (by rw [i64s_length, HML.out]; omega) HRW.out (i64s_one _) (by omega) (by omega) (by omega) ?_; intro g6 c6 w6 ho6 hg6 hv6; have HB6 : Hid (Below w.heap.size w w6) := hbel.out.grown hg6.out hs (fun p e => (own_apartS hO.out p e).1)))
              go_roundw
              case rel => exact ⟨k + 1, T + m, by omega, by push_cast; rfl, HT1.out.symm, by rw [HFT.out, i64s_append]; exact ho6, HK2, HB6⟩
              case measure => simp [intOf]; omega
    · obtain rfl : k = n := by omega
      have HOK := Lib.hid (OKB.out HK.out)
      obtain rfl := YS.out HOK.out
      obtain ⟨fa1, fa2⟩ := FA.out
      have HO : Hid (wr.ownsRow w.heap.size 3 1 u4 b.flatten.length (i64s b.flatten)) := by
        have := hO.out
        rw [fa1, hT.out, fa2] at this
        exact this
      clear NO YS NL NT OKB LN TT FT FA HK hO hT fa1 fa2
      go_wp2
      go_ret2
      exact ⟨⟨_, rfl, Lib.hid (fun _ => HO.out), Lib.hid (fun hn => absurd HOK.out hn)⟩, hbel.out⟩

set_option maxRecDepth 100000 in
set_option maxHeartbeats 1600000 in
/-- the threes take their entries -/
theorem Use_any21 (M B T : Nat) (V : Value) (out : List Int) (o : List Ent21) (w : World) (hM : MapI w M (entF21 (last21 o))) (hO : w.ownsRow B 3 1 V T (i64s out)) (hB : B ≤ M) (hBw : B ≤ w.heap.size) (hbd : ∀ q ∈ o, q.2.1.length ≤ 9223372036854775807) :
    Calls Try.prog 19 #[.map (some M), V] w fun e w' => e = .returned (.bool (cmp21 out o T)) ∧ MapI w' M (entF21 (left21 out o T)) ∧ w'.ownsRow B 3 1 V T (i64s (fillU21 out o)) ∧ Below B w w' := by
  obtain ⟨A, c, rfl, hTc, hc9⟩ := ownsRow_form hO
  have hl : out.length = T := by have := hO.1; rw [i64s_length] at this; omega
  have hc9' : c ≤ 9223372036854775807 := by simpa [maxLen] using hc9
  have hT9 : T ≤ 9223372036854775807 := by omega
  have RC : Hid (∀ (j : Int) W, Calls Try.prog 28 #[.string ⟨(((last21 o j).getD zE21).2.1).toArray⟩] W fun e w' => e = .returned (.tuple #[.int .i64 (rdV ((last21 o j).getD zE21).2.1 countS 0), .int .i64 (rdE ((last21 o j).getD zE21).2.1 countS)]) ∧ Below W.heap.size W w') := fun j W => by
    refine ReadCount_anyL W _ ?_
    cases hj : last21 o j with
    | none => exact Nat.zero_le _
    | some e => exact hbd e (last21_mem hj).1
  have HM0 := Lib.hid hM
  have HO0 := Lib.hid hO
  have HL := Lib.hid hl
  have HBM := Lib.hid hB
  clear hM hO hl hbd hc9
  go_enter Try.func19, Try.ntmps19
  go_wp2
  go_loopw [5, 12] (fun v i wr => ∃ (k : Nat), k ≤ T ∧ i = .int .i64 k ∧ v = .bool (cmp21 out o k) ∧ Hid (MapI wr M (entF21 (left21 out o k))) ∧ Hid (wr.ownsRow B 3 1 (.slice A T c) T (i64s (mixU21 out o k))) ∧ Hid (Below B w wr) ∧ B ≤ wr.heap.size) (fun _ i _ => T - (intOf i).toNat)
  case atStart => exact ⟨0, by omega, rfl, by rw [cmp21_zero], by rw [show left21 out o 0 = last21 o from funext (left21_zero out o)]; exact HM0, by rw [mixU21_zero]; exact HO0, Below.refl _ _, hBw⟩
  case round =>
    obtain ⟨k, hk, rfl, rfl, hM, hO, hbel, hsz⟩ := hrel
    by_cases hlt : k < T
    · have hkl : k < out.length := by have := HL.out; omega
      obtain ⟨g, rfl, hg, hgw⟩ := rowR_form hO.out (by omega)
      obtain ⟨x, hx⟩ : ∃ x, out.getD k 0 = x := ⟨_, rfl⟩
      have d0 := rowR_at hO.out (i64s_at21 (mixU21_at (o := o) hkl))
      rw [hx] at d0
      have HX := Lib.hid hx
      clear hx
      by_cases h3 : x = 3
      · subst h3
        have HC1 := Lib.hid (cmp21_three (o := o) HX.out)
        have HMX := Lib.hid (mixU21_three (o := o) hkl HX.out)
        have HLF := Lib.hid (funext (left21_three (o := o) HX.out))
        obtain ⟨cv, hcv⟩ : ∃ cv, cmp21 out o k = cv := ⟨_, rfl⟩
        obtain ⟨fd, hfd⟩ : ∃ fd, (last21 o (k : Int)).isSome = fd := ⟨_, rfl⟩
        have RCk := Lib.hid (RC.out (k : Int))
        have hLK : Hid ((entF21 (left21 out o k) (k : Int)).getD (entV21 zE21) = entV21 ((last21 o (k : Int)).getD zE21)) := Lib.hid (by rw [entF21_get, left21_self])
        have hLK2 : Hid ((entF21 (left21 out o k) (k : Int)).isSome = fd) := Lib.hid (by rw [entF21_some, left21_self]; exact hfd)
        have HNEW : Hid (cmp21 out o (k + 1) = (cv && fd)) := Lib.hid (by rw [HC1.out, hcv, hfd])
        rw [hcv]
        generalize (last21 o (k : Int)).getD zE21 = q at *
        obtain ⟨qx, qs, qt⟩ := q
        obtain ⟨y, hy⟩ : ∃ y, rdV qs countS 0 = y := ⟨_, rfl⟩
        obtain ⟨y2, hy2⟩ : ∃ y2, rdE qs countS = y2 := ⟨_, rfl⟩
        dsimp only at HMX RCk
        rw [hy] at HMX RCk
        rw [hy2] at RCk
        have hgM : g ≠ M := fun e => hM.out.not_own hO.out (by rw [← e]; rfl)
        have hba := (Below.refl wr.heap.size wr).alloc (Nat.le_refl _) (.cells #[.int .i64 qx, .string ⟨qs.toArray⟩, .int .i64 qt] 41)
        have HMA := Lib.hid (hM.out.later hba)
        have HOA := Lib.hid (own_keptS hO.out fun p _ hp => hba.block p hp)
        have HBA := Lib.hid (hbel.out.alloc hsz (.cells #[.int .i64 qx, .string ⟨qs.toArray⟩, .int .i64 qt] 41))
        have hsA : B ≤ (wr.alloc (.cells #[.int .i64 qx, .string ⟨qs.toArray⟩, .int .i64 qt] 41)).heap.size := Nat.le_trans hsz hba.size
        have HSA := Lib.hid hsA
        clear hba hsA hcv hfd hy hy2 HC1 RC
        cases cv <;>
        · go_wp2_with (first
            | (at_lookup; refine wpList_lookI _ rfl _ _ 46 rfl 3 41 Try.underlying46 Try.underlying3 _ (zero_ent21 _) _ rfl rfl hM _ _ hLK.out hLK2.out ?_; unfold entV21)
            | (go_at_call 28; (with_reducible refine (RCk.out _).mono ?_); rintro e w4 ⟨rfl, hb4⟩; have HM4 := Lib.hid (HMA.out.later hb4); have HO4 := Lib.hid (own_keptS HOA.out fun p _ hp => hb4.block p hp); have HB4 := Lib.hid (HBA.out.trans (hb4.mono HSA.out)); have hs4 := Nat.le_trans HSA.out hb4.size; have f4 := rowR_free HO4.out k; have d4 := rowR_at HO4.out (i64s_at21 (mixU21_at (o := o) hkl)); rw [HX.out] at d4; have hk1 : k < T * 1 := (by omega); have HO5' := rowR_set HO4.out hk1 (.int .i64 y); rw [i64s_set21, HMX.out] at HO5'; have HO5 := Lib.hid HO5'; have HM5 := Lib.hid (HM4.out.setCell (p := ⟨g, k, none⟩) (u := .int .i64 y) hgM); have HB5 := Lib.hid (HB4.out.setCell (p := ⟨g, k, none⟩) hg (.int .i64 y)); clear HO5' hb4)
            | (at_delete; refine wpList_dropI _ rfl _ _ 46 3 rfl 41 Try.underlying46 Try.underlying3 _ rfl rfl HM5 ?_; intro w6 hM6 hg6))
          go_roundw
          case rel =>
            have e : (fun j => if j = (k : Int) then none else entF21 (left21 out o k) j) = entF21 (left21 out o (k + 1)) := by
              rw [HLF.out]
              funext j
              unfold entF21
              dsimp only
              split <;> rfl
            refine ⟨k + 1, by omega, by push_cast; rfl, by rw [HNEW.out]; rfl, by rw [← e]; exact hM6, HO5.out.kept hg6.out (.inr (HM5.out.not_own HO5.out)), HB5.out.grown hg6.out (Nat.le_trans hBw HB5.out.size) (fun p e => by injection e with e; rw [← e]; exact HBM.out), Nat.le_trans (Nat.le_trans hBw HB5.out.size) hg6.out.size⟩
          case measure => simp [intOf]; omega
      · have HLF := Lib.hid (left21_other (o := o) (out := out) (k := k) (by rw [HX.out]; exact h3))
        have HC1 := Lib.hid (cmp21_other (o := o) (out := out) (k := k) (by rw [HX.out]; exact h3))
        have HMX := Lib.hid (mixU21_other (o := o) hkl (by rw [HX.out]; exact h3))
        clear RC
        go_wp2
        go_roundw
        case rel => exact ⟨k + 1, by omega, by push_cast; rfl, by rw [HC1.out], by rw [HLF.out]; exact hM, by rw [HMX.out]; exact hO, hbel, hsz⟩
        case measure => simp [intOf]; omega
    · obtain rfl : k = T := by omega
      have HO2 : Hid (wr.ownsRow B 3 1 (.slice A k c) k (i64s (fillU21 out o))) := by
        have := hO.out
        rw [← HL.out, mixU21_all, HL.out] at this
        exact this
      clear RC
      go_wp2
      go_ret
      exact ⟨rfl, hM.out, HO2.out, hbel.out⟩

set_option maxRecDepth 100000 in
set_option maxHeartbeats 1600000 in
/-- the first thing wrong with the entries, of which some are left -/
theorem Check_any21 (A : Option Addr) (n c M : Nat) (o : List Ent21) (G : Int → Option Ent21) (w : World) (h : Ens w A n c o) (hM : MapI w M (entF21 G)) (hbd : ∀ q ∈ o, (-9223372036854775808 ≤ q.1 ∧ q.1 ≤ 9223372036854775807) ∧ q.2.1.length ≤ 9223372036854775807) :
    Calls Try.prog 20 #[.slice A n c, .map (some M)] w fun e w' => e = .returned (.int .i64 (chkE21 G (-1) o)) ∧ Below w.heap.size w w' := by
  have hle : n ≤ 9223372036854775807 := Nat.le_trans h.cap h.most
  have hl := h.len
  obtain ⟨E, hE⟩ : ∃ E, chkE21 G (-1) o = E := ⟨_, rfl⟩
  rw [hE]
  have RC : Hid (∀ k x s t W, k < n → o.getD k zE21 = (x, s, t) → Calls Try.prog 28 #[.string ⟨s.toArray⟩] W fun e w' => e = .returned (.tuple #[.int .i64 (rdV s countS 0), .int .i64 (rdE s countS)]) ∧ Below W.heap.size W w') := fun k x s t W hk hx => by
    refine ReadCount_anyL W s ?_
    have := (hbd _ (List.getElem_mem (l := o) (n := k) (by omega))).2
    rw [getD21 (by omega)] at hx
    rw [hx] at this
    exact this
  have ST : Hid (∀ k p x s t, k < n → o.getD k zE21 = (x, s, t) → chkE21 G p (o.drop k) = if x ≤ p then 8 else if (G x).isSome = true then 13 else if rdE s countS ≠ 0 then rdE s countS else chkE21 G x (o.drop (k + 1))) := fun k p x s t hk hx => by
    rw [chkE21_at G (by omega), hx]
  have EN : Hid (∀ p, chkE21 G p (o.drop n) = 0) := fun p => chkE21_end G (by omega)
  have S0 : Hid (chkE21 G (-1) (o.drop 0) = E) := by rw [List.drop_zero]; exact Lib.hid hE
  have HN := Lib.hid h
  have HM := Lib.hid hM
  clear h hM hE hbd hl
  go_enter Try.func20, Try.ntmps20
  go_wp2
  go_loopw [5, 14] (fun v i wr => ∃ (k : Nat) (p : Int), k ≤ n ∧ i = .int .i64 k ∧ v = .int .i64 p ∧ Hid (chkE21 G p (o.drop k) = E) ∧ Hid (Below w.heap.size w wr)) (fun _ i _ => n - (intOf i).toNat)
  case atStart => exact ⟨0, -1, by omega, rfl, rfl, S0, Below.refl _ _⟩
  case round =>
    obtain ⟨k, p, hk, rfl, rfl, hJ, hbel⟩ := hrel
    by_cases hlt : k < n
    · obtain ⟨b2, off2, x, s, t, rfl, hb2, hx, d0, d1, d2⟩ := ens21_at HN.out hlt
      have g0 := (hbel.out.cell (p := ⟨b2, off2 + k * 3, none⟩) hb2).trans d0
      have g1 := (hbel.out.cell (p := ⟨b2, off2 + k * 3 + 1, none⟩) hb2).trans d1
      have g2 := (hbel.out.cell (p := ⟨b2, off2 + k * 3 + 2, none⟩) hb2).trans d2
      have hs := hbel.out.size
      have hst := ST.out k p x s t hlt hx
      rw [hJ.out] at hst
      have HST := Lib.hid hst
      have RCk := Lib.hid (fun W => RC.out k x s t W hlt hx)
      clear d0 d1 d2 hx hst hJ RC ST
      by_cases c1 : x ≤ p
      · obtain rfl : E = 8 := HST.out.trans (if_pos c1)
        clear HST EN
        go_wp2
        go_ret
        exact ⟨rfl, (hbel.out.alloc hs _)⟩
      · have h2 := HST.out.trans (if_neg c1)
        have HST2 := Lib.hid h2
        have HB1 := Lib.hid (hbel.out.alloc hs (.cells #[.int .i64 x, .string ⟨s.toArray⟩, .int .i64 t] 41))
        have HM1 := Lib.hid ((HM.out.later (by exact HB1.out)))
        clear h2 HST EN
        obtain ⟨fd, hfd⟩ : ∃ fd, (G x).isSome = fd := ⟨_, rfl⟩
        have hLK : Hid ((entF21 G x).getD (entV21 zE21) = entV21 ((G x).getD zE21)) := Lib.hid (entF21_get _ _)
        have hLK2 : Hid ((entF21 G x).isSome = fd) := Lib.hid ((entF21_some _ _).trans hfd)
        rw [hfd] at HST2
        generalize (G x).getD zE21 = q at *
        obtain ⟨qx, qs, qt⟩ := q
        clear hfd
        cases fd with
        | true =>
          obtain rfl : E = 13 := HST2.out.trans (if_pos rfl)
          clear HST2
          go_wp2_with (at_lookup; refine wpList_lookI _ rfl _ _ 46 rfl 3 41 Try.underlying46 Try.underlying3 _ (zero_ent21 _) _ rfl rfl HM1 _ _ hLK.out hLK2.out ?_; unfold entV21)
          go_ret
          exact ⟨rfl, (HB1.out.alloc HB1.out.size _)⟩
        | false =>
          have h3 := HST2.out.trans (if_neg (by decide))
          have HST3 := Lib.hid h3
          clear h3 HST2
          have HB2 := Lib.hid (HB1.out.alloc HB1.out.size (.cells #[.int .i64 qx, .string ⟨qs.toArray⟩, .int .i64 qt] 41))
          obtain ⟨y, hy⟩ : ∃ y, rdE s countS = y := ⟨_, rfl⟩
          obtain ⟨y2, hy2⟩ : ∃ y2, rdV s countS 0 = y2 := ⟨_, rfl⟩
          rw [hy] at HST3 RCk
          rw [hy2] at RCk
          clear hy hy2
          by_cases hy0 : y = 0
          · subst hy0
            have HST4 : Hid (chkE21 G x (o.drop (k + 1)) = E) := (HST3.out.trans (if_neg (by decide))).symm
            clear HST3
            go_wp2_with (first
              | (at_lookup; refine wpList_lookI _ rfl _ _ 46 rfl 3 41 Try.underlying46 Try.underlying3 _ (zero_ent21 _) _ rfl rfl HM1 _ _ hLK.out hLK2.out ?_; unfold entV21)
              | (go_at_call 28; (with_reducible refine (RCk.out _).mono ?_); rintro e w4 ⟨rfl, hb4⟩; have HB4 := Lib.hid (HB2.out.trans (hb4.mono HB2.out.size)); clear hb4))
            go_roundw
            case rel => exact ⟨k + 1, x, by omega, by push_cast; rfl, rfl, HST4, HB4⟩
            case measure => simp [intOf]; omega
          · obtain rfl : E = y := HST3.out.trans (if_pos hy0)
            have hyb : (E != 0) = true := by simpa using hy0
            clear HST3
            go_wp2_with (first
              | (at_lookup; refine wpList_lookI _ rfl _ _ 46 rfl 3 41 Try.underlying46 Try.underlying3 _ (zero_ent21 _) _ rfl rfl HM1 _ _ hLK.out hLK2.out ?_; unfold entV21)
              | (go_at_call 28; (with_reducible refine (RCk.out _).mono ?_); rintro e w4 ⟨rfl, hb4⟩; have HB4 := Lib.hid (HB2.out.trans (hb4.mono HB2.out.size)); clear hb4))
            go_ret
            exact ⟨rfl, HB4.out⟩
    · obtain rfl : k = n := by omega
      obtain rfl : E = 0 := by have := EN.out p; rw [hJ.out] at this; exact this
      clear EN ST RC hJ
      go_wp2
      go_ret
      exact ⟨rfl, hbel.out⟩
end Go.Proofs.Ytoacgoelhidmbaa

/-
  Layer 21: the program's Join.
-/
namespace Go.Proofs.Ytoacgoelhidmbaa
open Go.RowKit
set_option linter.unusedVariables false
set_option linter.unusedSimpArgs false

theorem ints_nilN21 (w : World) (B : Nat) : IntsN w B none 0 0 [] := ⟨fun h => absurd h (Nat.lt_irrefl _), fun _ _ => Ints.nil _⟩

set_option maxRecDepth 100000 in
set_option maxHeartbeats 3200000 in
theorem Join_any21F (A A2 : Option Addr) (n c n2 c2 : Nat) (b : List (List Int)) (o : List Ent21) (w : World) (h : Mat w A n c b) (h2 : Ens w A2 n2 c2 o) (ht : tot21 b ≤ 100000000) (hbd : ∀ q ∈ o, (-9223372036854775808 ≤ q.1 ∧ q.1 ≤ 9223372036854775807) ∧ q.2.1.length ≤ 9223372036854775807) :
    Calls Try.prog 12 #[.slice A n c, .slice A2 n2 c2] w fun e w' => ∃ A' c', e = .returned (.tuple #[.slice A' (joinL21 b (ov21 o)).length c', .int .i64 (joinE21 b (ov21 o))]) ∧ IntsN w' w.heap.size A' (joinL21 b (ov21 o)).length c' (joinL21 b (ov21 o)) ∧ Below w.heap.size w w' := by
  have hle : n ≤ 9223372036854775807 := Nat.le_trans h.cap h.most
  have hle2 : n2 ≤ 9223372036854775807 := Nat.le_trans h2.cap h2.most
  have hl2 := h2.len
  obtain ⟨E, hE⟩ : ∃ E, joinE21 b (ov21 o) = E := ⟨_, rfl⟩
  obtain ⟨LL, hLL⟩ : ∃ LL, joinL21 b (ov21 o) = LL := ⟨_, rfl⟩
  rw [hE, hLL]
  have HNIL : Hid (E ≠ 0 → LL = []) := fun hv => by rw [← hLL]; rw [← hE] at hv; exact if_neg hv
  have HYES : Hid (E = 0 → LL = fill21 b.flatten (ov21 o)) := fun hv => by rw [← hLL]; rw [← hE] at hv; exact if_pos hv
  obtain ⟨mb, hmb⟩ : ∃ mb, LL.length = mb := ⟨_, rfl⟩
  rw [hmb]
  have HMB := Lib.hid hmb
  clear hLL hmb
  have RW := Lib.hid (Row_any21 A n c b w h ht)
  have HN2 := Lib.hid h2
  by_cases hf : okB21 b
  · rw [if_pos hf] at RW
    have HF := Lib.hid hf
    obtain ⟨ce, hce⟩ : ∃ ce, entE21 b.flatten none (ov21 o) = ce := ⟨_, rfl⟩
    obtain ⟨out, hout⟩ : ∃ out, b.flatten = out := ⟨_, rfl⟩
    obtain ⟨T, hT⟩ : ∃ T, out.length = T := ⟨_, rfl⟩
    have EE : Hid (E = if ce = 0 then (if full21 out (ov21 o) then 0 else 13) else ce) := by
      rw [← hE, joinE21, if_pos hf, hce, hout]
      exact Lib.hid rfl
    rw [hout] at hce
    have CE : Hid (chkE21 (left21 out o T) (-1) o = ce) := by
      have := chkE21_ent (out := out) (o := o) (r := o) (p := none) (fun e he => he) (fun y hy => by cases hy)
      rw [← hT]
      exact Lib.hid (this.trans hce)
    have FU : Hid (ce = 0 → full21 out (ov21 o) → fillU21 out o = fill21 out (ov21 o)) := fun h1 h2 => fillU21_fill (by rw [hce]; exact h1) h2
    have CF : Hid (cmp21 out o T = true ↔ full21 out (ov21 o)) := by rw [← hT]; exact Lib.hid cmp21_full
    have HT := Lib.hid hT
    have LA : Hid (∀ k x s t, k < n2 → o.getD k zE21 = (x, s, t) → ∀ j, last21 (o.take (k + 1)) j = if j = x then some (x, s, t) else last21 (o.take k) j) := fun k x s t hk hx j => by
      rw [last21_take (by omega), hx]
    have LN : Hid (o.take n2 = o) := List.take_of_length_le (by omega)
    rw [hout] at RW HYES
    rw [hT] at RW
    have US := fun (M : Nat) (V : Value) (W : World) (a1 : MapI W M (entF21 (last21 o))) (a2 : W.ownsRow w.heap.size 3 1 V T (i64s out)) (a3 : w.heap.size ≤ M) (a4 : w.heap.size ≤ W.heap.size) => Lib.hid (Use_any21 M w.heap.size T V out o W a1 a2 a3 a4 (fun q hq => (hbd q hq).2))
    have CK := fun (M : Nat) (W : World) (a1 : Ens W A2 n2 c2 o) (a2 : MapI W M (entF21 (left21 out o T))) => Lib.hid (by have := Check_any21 A2 n2 c2 M o (left21 out o T) W a1 a2 hbd; rw [CE.out] at this; exact this)
    have HMM := Lib.hid (@run_makeMap Try.prog)
    clear h h2 hE hf hbd ht hce hout hT
    have hmm := HMM.out
    go_enter Try.func12, Try.ntmps12
    go_wp2_with (go_at_call 18; (with_reducible refine (RW.out).mono ?_); rintro e w1 ⟨⟨V, rfl, hO, hV⟩, hb1⟩; have HO := Lib.hid (hO.out HF.out); have HB1 := Lib.hid hb1; have HM1 := Lib.hid (MapI.new w1); clear hO hV hb1)
    go_loopw [24] (fun i wr => ∃ k : Nat, k ≤ n2 ∧ i = .int .i64 k ∧ Hid (MapI wr w1.heap.size (entF21 (last21 (o.take k)))) ∧ Hid (Below w1.heap.size w1 wr)) (fun i _ => n2 - (intOf i).toNat)
    case atStart => exact ⟨0, by omega, rfl, HM1, (Below.refl _ _).alloc (Nat.le_refl _) _⟩
    case round =>
      obtain ⟨k, hk, rfl, hM, hbel⟩ := hrel
      have hbw := HB1.out.trans (hbel.out.mono HB1.out.size)
      have HBW := Lib.hid hbw
      by_cases hlt : k < n2
      · obtain ⟨b2, off2, x, s, t, rfl, hb2, hx, d0, d1, d2⟩ := ens21_at HN2.out hlt
        have g0 := (hbw.cell (p := ⟨b2, off2 + k * 3, none⟩) hb2).trans d0
        have g1 := (hbw.cell (p := ⟨b2, off2 + k * 3 + 1, none⟩) hb2).trans d1
        have g2 := (hbw.cell (p := ⟨b2, off2 + k * 3 + 2, none⟩) hb2).trans d2
        have HLA := Lib.hid (LA.out k x s t hlt hx)
        have hba := (Below.refl wr.heap.size wr).alloc (Nat.le_refl _) (.cells #[.int .i64 x, .string ⟨s.toArray⟩, .int .i64 t] 41)
        have HMA := Lib.hid (hM.out.later hba)
        have HBA := Lib.hid (hbel.out.alloc hbel.out.size (.cells #[.int .i64 x, .string ⟨s.toArray⟩, .int .i64 t] 41))
        clear d0 d1 d2 hx hba hbw LA US CK HNIL HYES EE CE FU
        go_wp2_with (at_mapUpdate; refine wpList_putI _ rfl _ _ _ 46 rfl 3 41 Try.underlying46 Try.underlying3 x (entV21 (x, s, t)) rfl rfl rfl HMA ?_; intro w6 hM6 hg6)
        go_roundw
        case rel =>
          have e : (fun j => if j = x then some (entV21 (x, s, t)) else entF21 (last21 (o.take k)) j) = entF21 (last21 (o.take (k + 1))) := by
            funext j
            unfold entF21
            rw [HLA.out j]
            split <;> rfl
          exact ⟨k + 1, by omega, by push_cast; rfl, by rw [← e]; exact hM6, HBA.out.grown hg6.out HBA.out.size (fun p e => by injection e with e; omega)⟩
        case measure => simp [intOf]; omega
      · obtain rfl : k = n2 := by omega
        have hM2 := hM.out
        rw [LN.out] at hM2
        have USk := US w1.heap.size V wr hM2 (own_keptS HO.out fun p _ hp => hbel.out.block p hp) HB1.out.size hbw.size
        obtain ⟨cv, hcv⟩ : ∃ cv, cmp21 out o T = cv := ⟨_, rfl⟩
        rw [hcv] at USk CF
        clear hM2 hM hbel hbw LA hcv CE US
        by_cases hc0 : ce = 0
        · subst hc0
          have hEE := EE.out.trans (if_pos rfl)
          cases cv with
          | false =>
            obtain rfl : E = 13 := hEE.trans (if_neg (fun h => by have := CF.out.2 h; cases this))
            obtain rfl := HNIL.out (by decide)
            obtain rfl : 0 = mb := HMB.out
            clear HNIL HYES EE hEE FU CF
            go_wp2_with (first
              | (go_at_call 19; (with_reducible refine (USk.out).mono ?_); rintro e w4 ⟨rfl, hM4, hO4, hb4⟩; have HB4 := Lib.hid (HBW.out.trans hb4); have CKk := CK w1.heap.size w4 (HN2.out.below HB4.out) hM4; clear hM4 hb4)
              | (go_at_call 20; (with_reducible refine (CKk.out).mono ?_); rintro e w5 ⟨rfl, hb5⟩; have HB5 := Lib.hid (HB4.out.trans (hb5.mono HB4.out.size)); clear hb5))
            go_ret2
            exact ⟨none, 0, rfl, ints_nilN21 _ _, HB5.out⟩
          | true =>
            have hful := CF.out.1 rfl
            obtain rfl : E = 0 := hEE.trans (if_pos hful)
            have hLL := HYES.out rfl
            have hfu := FU.out rfl hful
            rw [← hfu] at hLL
            have HLL := Lib.hid hLL
            have HLT : Hid (T = mb) := by
              have := HMB.out
              rw [hLL, fillU21_length, HT.out] at this
              exact this
            clear HNIL HYES EE hEE FU CF hLL hfu hful
            go_wp2_with (first
              | (go_at_call 19; (with_reducible refine (USk.out).mono ?_); rintro e w4 ⟨rfl, hM4, hO4, hb4⟩; have HB4 := Lib.hid (HBW.out.trans hb4); have CKk := CK w1.heap.size w4 (HN2.out.below HB4.out) hM4; have HO4 := Lib.hid hO4; clear hM4 hb4 hO4)
              | (go_at_call 20; (with_reducible refine (CKk.out).mono ?_); rintro e w5 ⟨rfl, hb5⟩; have HB5 := Lib.hid (HB4.out.trans (hb5.mono HB4.out.size)); have HO5 := Lib.hid (own_keptS HO4.out fun p _ hp => hb5.block p hp); clear hb5))
            go_ret2
            obtain ⟨A5, c5, rfl, hI⟩ := IntsN.of_own HO5.out
            rw [← HLL.out, HLT.out] at hI
            exact ⟨A5, c5, by rw [HLT.out]; rfl, hI, HB5.out⟩
        · obtain rfl : E = ce := EE.out.trans (if_neg hc0)
          obtain rfl := HNIL.out hc0
          obtain rfl : 0 = mb := HMB.out
          have hcb : (E != 0) = true := by simpa using hc0
          clear HNIL HYES EE FU CF
          go_wp2_with (first
            | (go_at_call 19; (with_reducible refine (USk.out).mono ?_); rintro e w4 ⟨rfl, hM4, hO4, hb4⟩; have HB4 := Lib.hid (HBW.out.trans hb4); have CKk := CK w1.heap.size w4 (HN2.out.below HB4.out) hM4; clear hM4 hb4)
            | (go_at_call 20; (with_reducible refine (CKk.out).mono ?_); rintro e w5 ⟨rfl, hb5⟩; have HB5 := Lib.hid (HB4.out.trans (hb5.mono HB4.out.size)); clear hb5))
          go_ret2
          exact ⟨none, 0, rfl, ints_nilN21 _ _, HB5.out⟩
  · rw [if_neg hf] at RW
    obtain rfl : E = 7 := by rw [← hE, joinE21, if_neg hf]
    obtain rfl := HNIL.out (by decide)
    obtain rfl : 0 = mb := HMB.out
    have HF := Lib.hid hf
    clear h h2 hE hf hbd ht HNIL HYES HN2
    go_enter Try.func12, Try.ntmps12
    go_wp2_with (go_at_call 18; (with_reducible refine (RW.out).mono ?_); rintro e w1 ⟨⟨V, rfl, hO, hV⟩, hb1⟩; obtain rfl := hV.out HF.out; have HB1 := Lib.hid hb1; clear hO hV hb1)
    go_ret2
    exact ⟨none, 0, rfl, ints_nilN21 _ _, HB1.out⟩
theorem Join_any21 (A A2 : Option Addr) (n c n2 c2 : Nat) (b : List (List Int)) (o : List Ent21) (w : World) (h : Mat w A n c b) (h2 : Ens w A2 n2 c2 o) (ht : tot21 b ≤ 1000000) (hbi : ∀ l ∈ b, ∀ x ∈ l, -9223372036854775808 ≤ x ∧ x ≤ 9223372036854775807) (hbd : ∀ q ∈ o, (-9223372036854775808 ≤ q.1 ∧ q.1 ≤ 9223372036854775807) ∧ q.2.1.length ≤ 9223372036854775807) :
    Calls Try.prog 12 #[.slice A n c, .slice A2 n2 c2] w fun e w' => ∃ A' c', e = .returned (.tuple #[.slice A' (joinL21 b (ov21 o)).length c', .int .i64 (joinE21 b (ov21 o))]) ∧ Ints w' A' (joinL21 b (ov21 o)).length c' (joinL21 b (ov21 o)) ∧ Below w.heap.size w w' :=
  (Join_any21F A A2 n c n2 c2 b o w h h2 (by omega) hbd).mono fun _ _ ⟨A', c', e, h3, h4⟩ => ⟨A', c', e, h3.at_, h4⟩
end Go.Proofs.Ytoacgoelhidmbaa

/-
  Layer 21: the reference's SameEntries; the law's example.
-/
namespace Go.Proofs.Ytoacgoelhidmbaa
open Go.RowKit
set_option linter.unusedVariables false
set_option linter.unusedSimpArgs false

set_option maxRecDepth 100000 in
set_option maxHeartbeats 1600000 in
theorem refSameEnt_any21 {A A2 : Option Addr} {n c n2 c2 : Nat} {L : List (Int × List UInt8 × Int)} (w : World) (h : Ens w A n c L) (h2 : Ens w A2 n2 c2 L) :
    Calls Try.prog 10 #[.slice A n c, .slice A2 n2 c2] w fun e w' => e = .returned (.bool true) ∧ Below w.heap.size w w' := by
  obtain rfl : L.length = n := h.len
  obtain rfl : L.length = n2 := h2.len
  have hc := h.cap
  have hm := h.most
  have hc2 := h2.cap
  have hm2 := h2.most
  have H1 := Lib.hid h
  have H2 := Lib.hid h2
  clear h h2
  go_enter Try.func10, Try.ntmps10
  go_wp2
  go_loopw [5] (fun i wr => ∃ k : Nat, k ≤ L.length ∧ i = .int .i64 k ∧ Hid (Below w.heap.size w wr)) (fun i _ => L.length - (intOf i).toNat)
  case atStart => exact ⟨0, by omega, rfl, Below.refl _ _⟩
  case round =>
    obtain ⟨k, hk, rfl, hb⟩ := hrel
    by_cases hlt : k < L.length
    · obtain ⟨b, o, rfl, x0, x1, x2⟩ := (H1.out.below hb.out).at_ hlt
      obtain ⟨b2, o2, rfl, y0, y1, y2⟩ := (H2.out.below hb.out).at_ hlt
      have x1' : wr.cell? ⟨b, o + k * 3 + 1, none⟩ = _ := x1
      have x2' : wr.cell? ⟨b, o + k * 3 + 2, none⟩ = _ := x2
      have y1' : wr.cell? ⟨b2, o2 + k * 3 + 1, none⟩ = _ := y1
      have y2' : wr.cell? ⟨b2, o2 + k * 3 + 2, none⟩ = _ := y2
      clear x1 x2 y1 y2
      generalize L[k] = x at *
      go_wp2
      go_quiet (fail)
      go_wp2
      go_roundw
      case rel => exact ⟨k + 1, by omega, by go_num, below_drewN hb.out _⟩
      case measure => simp only [intOf]; omega
    · obtain rfl : k = L.length := by omega
      go_wp2
      go_ret
      exact ⟨rfl, hb.out⟩

def lv21 : List Int := [0, 5, 2]
theorem lv21_split : splB21 lv21 = [[0, 3, 2]] ∧ splO21 lv21 = [(1, [5, 0, 0, 0])] ∧ splE21 lv21 = 0 := by decide +kernel
theorem lv21_count : countB 5 = [5, 0, 0, 0] := by decide +kernel
theorem build_ent21 (x : Int) (s : ByteArray) (w : World) : (Instr.build 41 #[(0, .int .i64 x), (1, .string s)]).run Try.prog w = .ok (.agg #[.int .i64 x, .string s, .int .i64 0]) w := run_build w _ _ _ (by kernel_rfl)

set_option maxRecDepth 100000 in
set_option maxHeartbeats 3200000 in
theorem lives21_any (w : World) : Calls Try.prog 6 #[] w fun e w' => e = .returned (.bool true) ∧ Below w.heap.size w w' := by
  have b1 := build_ent21
  obtain ⟨s1, s2, s3⟩ := lv21_split
  have ha := (Below.refl w.heap.size w).alloc (Nat.le_refl _) (.cells #[.int .i64 0, .int .i64 5, .int .i64 2] 3)
  have hI : Ints (w.alloc (.cells #[.int .i64 0, .int .i64 5, .int .i64 2] 3)) (some ⟨w.heap.size, 0, none⟩) 3 3 lv21 := ⟨rfl, Nat.le_refl _, by omega, Row.of_block (heap_alloc_new w _)⟩
  have SP : Hid (Calls Try.prog 7 #[.slice (some ⟨w.heap.size, 0, none⟩) 3 3] (w.alloc (.cells #[.int .i64 0, .int .i64 5, .int .i64 2] 3)) fun e w' => ∃ A1 c1 b2 off2 c2, e = .returned (.tuple #[.slice A1 1 c1, .slice (some ⟨b2, off2, none⟩) 1 c2, .int .i64 0]) ∧ Hid (Mat w' A1 1 c1 [[0, 3, 2]]) ∧ (w'.cell? ⟨b2, off2, none⟩ = some (.int .i64 1) ∧ w'.cell? ⟨b2, off2 + 1, none⟩ = some (.string ⟨#[5, 0, 0, 0]⟩) ∧ w'.cell? ⟨b2, off2 + 2, none⟩ = some (.int .i64 0)) ∧ Hid (Below w.heap.size w w')) := by
    refine (Split_any21 _ 3 3 lv21 _ hI (by decide)).mono ?_
    rintro e w' ⟨A1, c1, A2, c2, h1, h2, h3, h4⟩
    rw [s1, s2, s3] at h1
    rw [s1] at h2
    rw [s2] at h3
    obtain ⟨b2, off2, x, s, t, rfl, hb2, hx, d0, d1, d2⟩ := ens21_at h3 (k := 0) (by decide)
    have hx : (1, [5, 0, 0, 0], 0) = (x, s, t) := hx
    cases hx
    exact ⟨A1, c1, b2, off2, c2, h1, h2, ⟨d0, d1, d2⟩, ha.trans (h4.mono ha.size)⟩
  have SB : Hid (∀ W A c, Hid (Mat W A 1 c [[0, 3, 2]]) → Hid (Below w.heap.size w W) → Calls Try.prog 9 #[.slice A 1 c, .slice (some ⟨W.heap.size + 1, 0, none⟩) 1 1] ((W.alloc (.cells #[.int .i64 0, .int .i64 3, .int .i64 2] 3)).alloc (.cells #[.slice (some ⟨W.heap.size, 0, none⟩) 3 3] 22)).drew fun e w' => e = .returned (.bool true) ∧ Hid (Below w.heap.size w w') ∧ Hid (Below W.heap.size W w')) := fun W A c h hb => by
    have h1 := (Below.refl W.heap.size W).alloc (Nat.le_refl _) (.cells #[.int .i64 0, .int .i64 3, .int .i64 2] 3)
    have h2 := h1.alloc h1.size (.cells #[.slice (some ⟨W.heap.size, 0, none⟩) 3 3] 22)
    have hA : Ints (W.alloc (.cells #[.int .i64 0, .int .i64 3, .int .i64 2] 3)) (some ⟨W.heap.size, 0, none⟩) 3 3 [0, 3, 2] := ⟨rfl, Nat.le_refl _, by omega, Row.of_block (heap_alloc_new W _)⟩
    have hA2 : Ints ((W.alloc (.cells #[.int .i64 0, .int .i64 3, .int .i64 2] 3)).alloc (.cells #[.slice (some ⟨W.heap.size, 0, none⟩) 3 3] 22)) (some ⟨W.heap.size, 0, none⟩) 3 3 [0, 3, 2] := hA.below ((Below.refl _ _).alloc (Nat.le_refl _) _)
    have hM : Mat ((W.alloc (.cells #[.int .i64 0, .int .i64 3, .int .i64 2] 3)).alloc (.cells #[.slice (some ⟨W.heap.size, 0, none⟩) 3 3] 22)) (some ⟨W.heap.size + 1, 0, none⟩) 1 1 [[0, 3, 2]] := ⟨rfl, Nat.le_refl _, by omega, fun k hk => by
      obtain rfl : k = 0 := by simp at hk; exact hk
      have hg := heap_alloc_new (W.alloc (.cells #[.int .i64 0, .int .i64 3, .int .i64 2] 3)) (.cells #[.slice (some ⟨W.heap.size, 0, none⟩) 3 3] 22)
      rw [World.size_alloc] at hg
      exact ⟨_, _, _, _, rfl, by show World.cell? _ ⟨W.heap.size + 1, 0, none⟩ = _; rw [cell_of_row _ _ 0 _ _ _ hg]; rfl, hA2⟩⟩
    have h2 := h2.drew
    have hM := hM.below (Below.refl _ _).drew
    refine (refSameBits_any21 A _ 1 c 1 1 [[0, 3, 2]] [[0, 3, 2]] _ (h.out.below h2) hM true (by decide)).mono ?_
    rintro e w' ⟨h3, h4⟩
    have h5 := h2.trans (h4.mono h2.size)
    exact ⟨h3, hb.out.trans (h5.mono hb.out.size), h5⟩
  have CN := fun W => Lib.hid (Count_any W 5 (by simp [i64b]))
  rw [lv21_count] at CN
  clear ha hI s1 s2 s3
  go_enter Try.func6, Try.ntmps6
  go_wp2_with (go_at_call 7; (with_reducible refine (SP.out).mono ?_); rintro e w1 ⟨A1, c1, b2, off2, c2, rfl, HM, hd, HB1⟩)
  have hdr : Below w1.heap.size w1 w1.drew := (Below.refl _ _).drew
  obtain ⟨e0, e1, e2⟩ := hd
  have hd0 : w1.drew.cell? ⟨b2, off2, none⟩ = some (.int .i64 1) ∧ w1.drew.cell? ⟨b2, off2 + 1, none⟩ = some (.string ⟨#[5, 0, 0, 0]⟩) ∧ w1.drew.cell? ⟨b2, off2 + 2, none⟩ = some (.int .i64 0) := ⟨(hdr.cell (cell_lt e0)).trans e0, (hdr.cell (cell_lt e1)).trans e1, (hdr.cell (cell_lt e2)).trans e2⟩
  have HMd := Lib.hid (HM.out.below hdr)
  have HBd := Lib.hid (HB1.out.trans (hdr.mono HB1.out.size))
  clear hdr
  go_region_held3 (fun W => W.cell? ⟨b2, off2, none⟩ = some (.int .i64 1) ∧ W.cell? ⟨b2, off2 + 1, none⟩ = some (.string ⟨#[5, 0, 0, 0]⟩) ∧ W.cell? ⟨b2, off2 + 2, none⟩ = some (.int .i64 0))
    (first | assumption | go_keep)
    (first
      | (go_at_call 9; (with_reducible refine (SB.out _ _ _ HM HB1).mono ?_); rintro e w3 ⟨rfl, HB3, HC3⟩; have d3 : w3.cell? ⟨b2, off2, none⟩ = some (.int .i64 1) ∧ w3.cell? ⟨b2, off2 + 1, none⟩ = some (.string ⟨#[5, 0, 0, 0]⟩) ∧ w3.cell? ⟨b2, off2 + 2, none⟩ = some (.int .i64 0) := ⟨(HC3.out.cell (cell_lt e0)).trans e0, (HC3.out.cell (cell_lt e1)).trans e1, (HC3.out.cell (cell_lt e2)).trans e2⟩)
      | (go_at_call 15; (with_reducible refine (CN _).out.mono ?_); rintro e w4 ⟨rfl, hb4⟩; have HB4 := Lib.hid (HB3.out.trans (hb4.mono HB3.out.size)); have d4 : w4.cell? ⟨b2, off2, none⟩ = some (.int .i64 1) ∧ w4.cell? ⟨b2, off2 + 1, none⟩ = some (.string ⟨#[5, 0, 0, 0]⟩) ∧ w4.cell? ⟨b2, off2 + 2, none⟩ = some (.int .i64 0) := ⟨(hb4.cell (cell_lt d3.1)).trans d3.1, (hb4.cell (cell_lt d3.2.1)).trans d3.2.1, (hb4.cell (cell_lt d3.2.2)).trans d3.2.2⟩; clear hb4))
  go_wp2
  go_ret
  exact ⟨rfl, HB4.out⟩
end Go.Proofs.Ytoacgoelhidmbaa

/-
  Layer 21: TallySplits.
-/
namespace Go.Proofs.Ytoacgoelhidmbaa
open Go.RowKit
set_option linter.unusedVariables false
set_option linter.unusedSimpArgs false

set_option maxRecDepth 100000 in
set_option maxHeartbeats 1600000 in
theorem tallysplits_walk (A : Option Addr) (n c : Nat) (l : List Int) (w : World) (h : Ints w A n c l) (hbd : ∀ x ∈ l, -9223372036854775808 ≤ x ∧ x ≤ 9223372036854775807) :
    Calls Try.prog 3 #[.slice A n c] w fun e w' => e = .returned (.bool true) ∧ Below w.heap.size w w' := by
  have LV : Hid (∀ W, Hid (Below w.heap.size w W) → Calls Try.prog 6 #[] W fun e w' => e = .returned (.bool true) ∧ Hid (Below w.heap.size w w')) := fun W hW => (lives21_any W).mono fun e w' ⟨h1, h2⟩ => ⟨h1, hW.out.trans (h2.mono hW.out.size)⟩
  have B0 : Hid (Below w.heap.size w w) := Below.refl _ _
  have hle : n ≤ 9223372036854775807 := Nat.le_trans h.cap h.most
  by_cases hn : n ≤ 5000
  · obtain ⟨BB, hBB⟩ : ∃ BB, splB21 l = BB := ⟨_, rfl⟩
    obtain ⟨OO, hOO⟩ : ∃ OO, splO21 l = OO := ⟨_, rfl⟩
    have SP : Hid (∀ W, Hid (Below w.heap.size w W) → Calls Try.prog 7 #[.slice A n c] W fun e w' => ∃ A1 c1 A2 c2, e = .returned (.tuple #[.slice A1 BB.length c1, .slice A2 OO.length c2, .int .i64 (splE21 l)]) ∧ Hid (Mat w' A1 BB.length c1 BB) ∧ Hid (Ens w' A2 OO.length c2 (entL21 OO)) ∧ Hid (Below w.heap.size w w')) := fun W hW => by
      have := Split_any21 A n c l W ⟨h.len, h.cap, h.most, h.row.below hW.out⟩ hbd
      rw [hBB, hOO] at this
      exact this.mono fun e w' ⟨A1, c1, A2, c2, h1, h2, h3, h4⟩ => ⟨A1, c1, A2, c2, h1, h2, h3, hW.out.trans (h4.mono hW.out.size)⟩
    have RS : Hid (∀ W A1 c1 A2 c2, Hid (Below w.heap.size w W) → Hid (Mat W A1 BB.length c1 BB) → Hid (Ens W A2 OO.length c2 (entL21 OO)) → Calls Try.prog 8 #[.slice A n c] W fun e w' => ∃ A3 c3 A4 c4, e = .returned (.tuple #[.slice A3 BB.length c3, .slice A4 OO.length c4, .int .i64 (splE21 l)]) ∧ Hid (Mat w' A3 BB.length c3 BB) ∧ Hid (Ens w' A4 OO.length c4 (entL21 OO)) ∧ Hid (Mat w' A1 BB.length c1 BB) ∧ Hid (Ens w' A2 OO.length c2 (entL21 OO)) ∧ Hid (Below w.heap.size w w')) := fun W A1 c1 A2 c2 hW hM hN => by
      have := refSplit_any21 A n c l W ⟨h.len, h.cap, h.most, h.row.below hW.out⟩
      rw [hBB, hOO] at this
      exact this.mono fun e w' ⟨A3, c3, A4, c4, h1, h2, h3, h4⟩ => ⟨A3, c3, A4, c4, h1, h2, h3, hM.out.below h4, hN.out.below h4, hW.out.trans (h4.mono hW.out.size)⟩
    have SB : Hid (∀ W A1 c1 A3 c3 A2 c2 A4 c4, Hid (Below w.heap.size w W) → Hid (Mat W A1 BB.length c1 BB) → Hid (Mat W A3 BB.length c3 BB) → Hid (Ens W A2 OO.length c2 (entL21 OO)) → Hid (Ens W A4 OO.length c4 (entL21 OO)) → Calls Try.prog 9 #[.slice A1 BB.length c1, .slice A3 BB.length c3] W fun e w' => e = .returned (.bool true) ∧ Hid (Ens w' A2 OO.length c2 (entL21 OO)) ∧ Hid (Ens w' A4 OO.length c4 (entL21 OO)) ∧ Hid (Below w.heap.size w w')) := fun W A1 c1 A3 c3 A2 c2 A4 c4 hW h1 h2 h3 h4 => (refSameBits_any21 A1 A3 _ c1 _ c3 BB BB W h1.out h2.out true (by simp)).mono fun e w' ⟨g1, g2⟩ => ⟨g1, h3.out.below g2, h4.out.below g2, hW.out.trans (g2.mono hW.out.size)⟩
    have SE : Hid (∀ W A2 c2 A4 c4, Hid (Below w.heap.size w W) → Hid (Ens W A2 OO.length c2 (entL21 OO)) → Hid (Ens W A4 OO.length c4 (entL21 OO)) → Calls Try.prog 10 #[.slice A2 OO.length c2, .slice A4 OO.length c4] W fun e w' => e = .returned (.bool true) ∧ Hid (Below w.heap.size w w')) := fun W A2 c2 A4 c4 hW h1 h2 => (refSameEnt_any21 W h1.out h2.out).mono fun e w' ⟨g1, g2⟩ => ⟨g1, hW.out.trans (g2.mono hW.out.size)⟩
    clear h hbd hBB hOO
    generalize BB.length = mb at *
    generalize OO.length = mc at *
    generalize splE21 l = y at *
    go_enter Try.func3, Try.ntmps3
    go_wp2_with (first
      | (go_at_call 7; (with_reducible refine (SP.out _ B0).mono ?_); rintro e w1 ⟨A1, c1, A2, c2, rfl, HM1, HN1, HB1⟩)
      | (go_at_call 8; (with_reducible refine (RS.out _ _ _ _ _ HB1 HM1 HN1).mono ?_); rintro e w2 ⟨A3, c3, A4, c4, rfl, HM2, HN2, HM3, HN3, HB2⟩)
      | (go_at_call 9; (with_reducible refine (SB.out _ _ _ _ _ _ _ _ _ HB2 HM3 HM2 HN3 HN2).mono ?_); rintro e w3 ⟨rfl, HN4, HN5, HB3⟩)
      | (go_at_call 10; (with_reducible refine (SE.out _ _ _ _ _ HB3 HN4 HN5).mono ?_); rintro e w4 ⟨rfl, HB4⟩)
      | (go_at_call 6; (with_reducible refine (LV.out _ HB4).mono ?_); rintro e w5 ⟨rfl, HB5⟩))
    go_ret
    exact ⟨rfl, HB5.out⟩
  · clear h hbd
    go_enter Try.func3, Try.ntmps3
    go_wp2_with (go_at_call 6; (with_reducible refine (LV.out _ B0).mono ?_); rintro e w2 ⟨rfl, HB2⟩)
    go_ret
    exact ⟨rfl, HB2.out⟩
end Go.Proofs.Ytoacgoelhidmbaa

/-
  Layer 21: TallyJoins.
-/
namespace Go.Proofs.Ytoacgoelhidmbaa
open Go.RowKit
set_option linter.unusedVariables false
set_option linter.unusedSimpArgs false

set_option maxRecDepth 100000 in
set_option maxHeartbeats 1600000 in
theorem tallyjoins_walk (A : Option Addr) (n c : Nat) (b : List (List Int)) (A2 : Option Addr) (n2 c2 : Nat) (o : List Ent21) (w : World) (h : Mat w A n c b) (hb : ∀ l ∈ b, l.length ≤ 140737488351232 ∧ ∀ x ∈ l, -9223372036854775808 ≤ x ∧ x ≤ 9223372036854775807) (h2 : Ens w A2 n2 c2 o) (hbd : ∀ q ∈ o, (-9223372036854775808 ≤ q.1 ∧ q.1 ≤ 9223372036854775807) ∧ q.2.1.length ≤ 9223372036854775807 ∧ (-9223372036854775808 ≤ q.2.2 ∧ q.2.2 ≤ 9223372036854775807)) :
    Calls Try.prog 4 #[.slice A n c, .slice A2 n2 c2] w fun e w' => e = .returned (.bool true) ∧ Below w.heap.size w w' := by
  have LV : Hid (∀ W, Hid (Below w.heap.size w W) → Calls Try.prog 6 #[] W fun e w' => e = .returned (.bool true) ∧ Hid (Below w.heap.size w w')) := fun W hW => (lives21_any W).mono fun e w' ⟨h1, h2⟩ => ⟨h1, hW.out.trans (h2.mono hW.out.size)⟩
  have B0 : Hid (Below w.heap.size w w) := Below.refl _ _
  have SH := Lib.hid (short_any21 A A2 n c n2 c2 b o w h h2 (fun x hx => (hb x hx).1) (fun q hq => (hbd q hq).2.1))
  have hle : n ≤ 9223372036854775807 := Nat.le_trans h.cap h.most
  cases hs : shB21 b o with
  | true =>
    rw [hs] at SH
    obtain ⟨s1, s2, s3, s4⟩ := of_decide_eq_true hs
    have ht : tot21 b ≤ 1000000 := by omega
    obtain ⟨LL, hLL⟩ : ∃ LL, joinL21 b (ov21 o) = LL := ⟨_, rfl⟩
    have JN : Hid (∀ W, Hid (Below w.heap.size w W) → Calls Try.prog 12 #[.slice A n c, .slice A2 n2 c2] W fun e w' => ∃ A3 c3, e = .returned (.tuple #[.slice A3 LL.length c3, .int .i64 (joinE21 b (ov21 o))]) ∧ Hid (Ints w' A3 LL.length c3 LL) ∧ Hid (Below w.heap.size w w')) := fun W hW => by
      have := Join_any21 A A2 n c n2 c2 b o W (h.below hW.out) (h2.below hW.out) ht (fun l hl => (hb l hl).2) (fun q hq => ⟨(hbd q hq).1, (hbd q hq).2.1⟩)
      rw [hLL] at this
      exact this.mono fun e w' ⟨A1, c1, h1, h2, h4⟩ => ⟨A1, c1, h1, h2, hW.out.trans (h4.mono hW.out.size)⟩
    have RJ : Hid (∀ W A3 c3, Hid (Below w.heap.size w W) → Hid (Ints W A3 LL.length c3 LL) → Calls Try.prog 13 #[.slice A n c, .slice A2 n2 c2] W fun e w' => ∃ A4 c4, e = .returned (.tuple #[.slice A4 LL.length c4, .int .i64 (joinE21 b (ov21 o))]) ∧ Hid (Ints w' A4 LL.length c4 LL) ∧ Hid (Ints w' A3 LL.length c3 LL) ∧ Hid (Below w.heap.size w w')) := fun W A3 c3 hW hI => by
      have := refJoin_any21 A A2 n c n2 c2 b o W (h.below hW.out) (h2.below hW.out) (by omega) (fun q hq => ⟨(hbd q hq).1, (hbd q hq).2.1⟩)
      rw [hLL] at this
      exact this.mono fun e w' ⟨A1, c1, h1, h2, h4⟩ => ⟨A1, c1, h1, h2, ⟨hI.out.len, hI.out.cap, hI.out.most, hI.out.row.below h4⟩, hW.out.trans (h4.mono hW.out.size)⟩
    have SM : Hid (∀ W A3 c3 A4 c4, Hid (Below w.heap.size w W) → Hid (Ints W A3 LL.length c3 LL) → Hid (Ints W A4 LL.length c4 LL) → Calls Try.prog 14 #[.slice A3 LL.length c3, .slice A4 LL.length c4] W fun e w' => e = .returned (.bool true) ∧ Hid (Below w.heap.size w w')) := fun W A3 c3 A4 c4 hW h1 h2 => (Same_same A3 A4 _ c3 c4 LL W h1.out h2.out).mono fun e w' ⟨g1, g2⟩ => ⟨g1, hW.out.trans (g2.mono hW.out.size)⟩
    clear h h2 hb hbd hs s1 s2 s3 s4 ht hLL
    generalize LL.length = mb at *
    generalize joinE21 b (ov21 o) = y at *
    go_enter Try.func4, Try.ntmps4
    go_wp2_with (first
      | (go_at_call 11; (with_reducible refine (SH.out).mono ?_); rintro e w0 ⟨rfl, rfl⟩)
      | (go_at_call 12; (with_reducible refine (JN.out _ B0).mono ?_); rintro e w1 ⟨A3, c3, rfl, HI1, HB1⟩)
      | (go_at_call 13; (with_reducible refine (RJ.out _ _ _ HB1 HI1).mono ?_); rintro e w2 ⟨A4, c4, rfl, HI2, HI3, HB2⟩)
      | (go_at_call 14; (with_reducible refine (SM.out _ _ _ _ _ HB2 HI3 HI2).mono ?_); rintro e w3 ⟨rfl, HB3⟩)
      | (go_at_call 6; (with_reducible refine (LV.out _ HB3).mono ?_); rintro e w5 ⟨rfl, HB5⟩))
    go_ret
    exact ⟨rfl, HB5.out⟩
  | false =>
    rw [hs] at SH
    clear h h2 hb hbd hs
    go_enter Try.func4, Try.ntmps4
    go_wp2_with (first
      | (go_at_call 11; (with_reducible refine (SH.out).mono ?_); rintro e w0 ⟨rfl, rfl⟩)
      | (go_at_call 6; (with_reducible refine (LV.out _ B0).mono ?_); rintro e w5 ⟨rfl, HB5⟩))
    go_ret
    exact ⟨rfl, HB5.out⟩
end Go.Proofs.Ytoacgoelhidmbaa
