/-
  Joined: TlyD, TlyE.
-/
import Derived.Test.YtoacgoelhidmbaaJTly20
import Derived.Test.YtoacgoelhidmbaaJTly01
import Derived.Test.YtoacgoelhidmbaaJTly18
import Derived.Test.YtoacgoelhidmbaaJTly21
import Derived.Test.YtoacgoelhidmbaaJTly19
import Derived.Test.YtoacgoelhidmbaaJTly22
/-
  Layer 21: the reference's Split.
-/
namespace Go.Proofs.Ytoacgoelhidmbaa
open Go.RowKit
set_option linter.unusedVariables false
set_option linter.unusedSimpArgs false

theorem info_ents21 : (Try.prog.info? 41).map (fun i => (i.zero, i.size, i.bytes)) = some (some (.agg #[.int .i64 0, .string ByteArray.empty, .int .i64 0]), 3, 32) := by kernel_rfl
theorem info_ints21 : (Try.prog.info? 22).map (fun i => (i.zero, i.size, i.bytes)) = some (some (.slice none 0 0), 1, 24) := by kernel_rfl
/-- entries as they stand in a list: At is 0 -/
def entL21 (o : List Ovr21) : List (Int × List UInt8 × Int) := o.map fun e => (e.1, e.2, 0)
theorem entL21_length (o : List Ovr21) : (entL21 o).length = o.length := by simp [entL21]
/-- what Split answers -/
def splB21 (l : List Int) : List (List Int) := if splE21 l = 0 then bits21 l else []
def splO21 (l : List Int) : List Ovr21 := if splE21 l = 0 then over21 l else []
theorem splE21_many {l : List Int} (h : 65536 < l.length) : splE21 l = 1 := if_pos h
theorem splE21_bad {l : List Int} (h : ¬ 65536 < l.length) {k : Nat} (hk : k < l.length) (hb : ¬ okC21 (l.getD k 0)) : splE21 l = 2 := by
  unfold splE21
  rw [if_neg h, if_neg]
  intro ha
  rw [getD21 hk] at hb
  exact hb (ha _ (List.getElem_mem hk))
theorem splE21_good {l : List Int} (h : ¬ 65536 < l.length) (hk : ∀ k, k < l.length → okC21 (l.getD k 0)) : splE21 l = 0 := by
  unfold splE21
  rw [if_neg h, if_pos]
  intro n hn
  obtain ⟨k, hk2, rfl⟩ := List.getElem_of_mem hn
  have := hk k hk2
  rwa [getD21 hk2] at this
theorem bits21_take {l : List Int} {k : Nat} (hk : k < l.length) : (l.take (k + 1)).map lim21 = (l.take k).map lim21 ++ [lim21 (l.getD k 0)] := by
  rw [List.take_succ_eq_append_getElem hk, List.map_append, getD21 hk]; rfl
theorem over21_take {l : List Int} {k : Nat} (hk : k < l.length) : over21 (l.take (k + 1)) = over21 (l.take k) ++ one21 (k : Int) (l.getD k 0) := by
  rw [List.take_succ_eq_append_getElem hk, over21_snoc, getD21 hk, List.length_take, Nat.min_eq_left (by omega)]
theorem over21_few : ∀ l : List Int, (over21 l).length ≤ l.length := fun l => by
  induction h : l.length generalizing l with
  | zero => rw [List.eq_nil_of_length_eq_zero h]; exact Nat.le_refl _
  | succ k ih =>
    obtain ⟨r, x, rfl⟩ : ∃ r x, l = r ++ [x] := ⟨l.dropLast, l.getLast (by intro e; rw [e] at h; simp at h), (List.dropLast_concat_getLast _).symm⟩
    have hr : r.length = k := by simpa using h
    have h1 := ih r hr
    have h2 : (one21 (r.length : Int) x).length ≤ 1 := by unfold one21; split <;> simp
    rw [over21_snoc, List.length_append]
    omega
/-- a list more is begun -/
theorem bits21_new {l : List Int} {k : Nat} (hk : k < l.length) (h0 : k % 960 = 0) {L : List RowM} (hL : L.map (·.2.2) = bits21 (l.take k)) : L.length = k / 960 ∧ ∀ A c, (L ++ [((A, c, [] ++ [lim21 (l.getD k 0)]) : RowM)]).map (·.2.2) = bits21 (l.take (k + 1)) := by
  have ht : ((l.take k).map lim21).length = k := by rw [List.length_map, List.length_take]; omega
  constructor
  · have := congrArg List.length hL
    unfold bits21 at this
    rw [List.length_map, chop21_length, ht] at this
    omega
  · intro A c
    unfold bits21 at hL ⊢
    rw [bits21_take hk, chop21_new _ (by rw [ht]; exact h0), List.map_append, hL]
    rfl
/-- the last list gets one more -/
theorem bits21_more {l : List Int} {k : Nat} (hk : k < l.length) (h0 : k % 960 ≠ 0) {L : List RowM} (hL : L.map (·.2.2) = bits21 (l.take k)) : ∃ L' y, L = L' ++ [y] ∧ L'.length = k / 960 ∧ y.2.2.length ≤ k ∧ ∀ A c, (L' ++ [((A, c, y.2.2 ++ [lim21 (l.getD k 0)]) : RowM)]).map (·.2.2) = bits21 (l.take (k + 1)) := by
  have ht : ((l.take k).map lim21).length = k := by rw [List.length_map, List.length_take]; omega
  have hl2 := congrArg List.length hL
  unfold bits21 at hl2
  rw [List.length_map, chop21_length, ht] at hl2
  obtain ⟨L', y, rfl⟩ : ∃ L' y, L = L' ++ [y] := ⟨L.dropLast, L.getLast (by intro e; rw [e] at hl2; simp at hl2; omega), (List.dropLast_concat_getLast _).symm⟩
  have h3 : L'.length = k / 960 := by rw [List.length_append, List.length_singleton] at hl2; omega
  have hy : y.2.2 = (chop21 ((l.take k).map lim21)).getD (k / 960) [] := by
    unfold bits21 at hL
    rw [← hL, List.map_append, List.getD_eq_getElem?_getD, List.getElem?_append_right (by simp; omega)]
    simp [h3]
  refine ⟨L', y, rfl, h3, ?_, fun A c => ?_⟩
  · have hpl := piece21_length ((l.take k).map lim21) (k / 960)
    have e : (chop21 ((l.take k).map lim21)).getD (k / 960) [] = piece21 ((l.take k).map lim21) (k / 960) := by
      unfold chop21
      rw [List.getD_eq_getElem?_getD, List.getElem?_map, List.getElem?_range (by rw [ht]; omega)]
      rfl
    rw [hy, e, hpl, ht]
    omega
  · unfold bits21 at hL ⊢
    have hc1 : (chop21 ((l.take k).map lim21)).length - 1 = k / 960 := by rw [chop21_length, ht]; omega
    rw [bits21_take hk, chop21_more _ (by rw [ht]; exact h0), hc1, ← hy, ← hL, List.map_append, List.map_append, List.map_singleton, List.map_singleton, List.dropLast_concat]

set_option maxRecDepth 100000 in
set_option maxHeartbeats 3200000 in
theorem refSplit_any21F (A : Option Addr) (n c : Nat) (l : List Int) (w : World) (h : Ints w A n c l) :
    Calls Try.prog 8 #[.slice A n c] w fun e w' => ∃ A1 c1 A2 c2, e = .returned (.tuple #[.slice A1 (splB21 l).length c1, .slice A2 (splO21 l).length c2, .int .i64 (splE21 l)]) ∧ MatN w' w.heap.size A1 (splB21 l).length c1 (splB21 l) ∧ EnsN w' w.heap.size A2 (splO21 l).length c2 (entL21 (splO21 l)) ∧ Below w.heap.size w w' := by
  have hle : n ≤ 9223372036854775807 := Nat.le_trans h.cap h.most
  have hl := h.len
  have HLL : Hid (∀ {k : Nat}, k < n → k < l.length) := fun hk => by omega
  obtain ⟨E, hE⟩ : ∃ E, splE21 l = E := ⟨_, rfl⟩
  obtain ⟨BB, hBB⟩ : ∃ BB, splB21 l = BB := ⟨_, rfl⟩
  obtain ⟨OO, hOO⟩ : ∃ OO, splO21 l = OO := ⟨_, rfl⟩
  rw [hE, hBB, hOO]
  have HNIL : Hid (E ≠ 0 → BB = [] ∧ OO = []) := fun hv => by rw [← hBB, ← hOO]; rw [← hE] at hv; exact ⟨if_neg hv, if_neg hv⟩
  have HYES : Hid (E = 0 → BB = bits21 l ∧ OO = over21 l) := fun hv => by rw [← hBB, ← hOO]; rw [← hE] at hv; exact ⟨if_pos hv, if_pos hv⟩
  obtain ⟨mb, hmb⟩ : ∃ mb, BB.length = mb := ⟨_, rfl⟩
  obtain ⟨mc, hmc⟩ : ∃ mc, OO.length = mc := ⟨_, rfl⟩
  rw [hmb, hmc]
  have HMB := Lib.hid hmb
  have HMC := Lib.hid hmc
  clear hBB hOO hmb hmc
  by_cases hmany : n ≤ 65536
  · have BADE : Hid (∀ k x, k < n → l.getD k 0 = x → ¬ okC21 x → E = 2) := fun k x hk e hb => by rw [← hE]; exact splE21_bad (by omega) (k := k) (by omega) (by rw [e]; exact hb)
    have GOOD : Hid ((∀ j, j < n → okC21 (l.getD j 0)) → E = 0) := fun hj => by rw [← hE]; exact splE21_good (by omega) (by rw [hl]; exact hj)
    clear hE
    have S0 : Hid (([] : List RowM).map (·.2.2) = bits21 (l.take 0)) := by rw [List.take_zero]; exact Lib.hid rfl
    have HC := Lib.hid (fun (k : Nat) (hk : k < n) => ints_at21 h hk)
    have ALL : Hid (l.take n = l) := List.take_of_length_le (by omega)
    have CN := fun (x : Int) (W : World) => Lib.hid (refCount_any8 W x)
    have OT : Hid (∀ k, k < n → over21 (l.take (k + 1)) = over21 (l.take k) ++ one21 (k : Int) (l.getD k 0)) := fun k hk => over21_take (by omega)
    have OL : Hid (∀ k, k < n → (over21 (l.take k)).length ≤ k) := fun k hk => by
      have := over21_few (l.take k)
      rw [List.length_take] at this
      omega
    clear h hl
    go_enter Try.func8, Try.ntmps8
    go_wp2
    go_loopw [5, 6, 7] (fun vb vo i wr => ∃ (k : Nat) (L : List RowM) (mo : Nat), k ≤ n ∧ i = .int .i64 k ∧ Hid (OwnM wr w.heap.size vb L.length L) ∧ Hid (L.map (·.2.2) = bits21 (l.take k)) ∧ mo = (over21 (l.take k)).length ∧ Hid (wr.ownsRow w.heap.size 41 3 vo mo (entC (entL21 (over21 (l.take k))))) ∧ Hid (∀ j, j < k → okC21 (l.getD j 0)) ∧ Hid (Below w.heap.size w wr)) (fun _ _ i _ => n - (intOf i).toNat)
    case atStart => exact ⟨0, [], 0, by omega, rfl, OwnM.nil _ _, S0, rfl, World.ownsRow_nil _ _ _ _, fun j hj => absurd hj (Nat.not_lt_zero _), Below.refl _ _⟩
    case round =>
      obtain ⟨k, L, mo, hk, rfl, hM, hL, hmo, hO, hJ, hbel⟩ := hrel
      by_cases hlt : k < n
      · obtain ⟨b, off, x, rfl, hb, hx, _, d0⟩ := HC.out k hlt
        have g0 := (hbel.out.cell (p := ⟨b, off + k, none⟩) hb).trans d0
        have BAD : Hid (¬ okC21 x → E = 2) := BADE.out k x hlt hx
        clear d0
        by_cases hx0 : x < 0
        · have hE := BAD.out (fun h => by have := h.1; omega)
          obtain ⟨rfl, rfl⟩ := HNIL.out (by omega)
          obtain rfl : 0 = mb := HMB.out
          obtain rfl : 0 = mc := HMC.out
          subst hE
          clear HYES HNIL BAD BADE GOOD hM hL hmo hO hJ
          go_wp2
          go_ret3
          exact ⟨none, 0, none, 0, rfl, MatN.nil _ _, EnsN.nil _ _, hbel.out⟩
        · by_cases hx1 : 2147483647 < x
          · have hE := BAD.out (fun h => by have := h.2; omega)
            obtain ⟨rfl, rfl⟩ := HNIL.out (by omega)
            obtain rfl : 0 = mb := HMB.out
            obtain rfl : 0 = mc := HMC.out
            subst hE
            clear HYES HNIL BAD BADE GOOD hM hL hmo hO hJ
            go_wp2
            go_ret3
            exact ⟨none, 0, none, 0, rfl, MatN.nil _ _, EnsN.nil _ _, hbel.out⟩
          · have HJN : Hid (∀ j, j < k + 1 → okC21 (l.getD j 0)) := fun j hj => by
              by_cases ej : j = k
              · rw [ej, hx]; exact ⟨by omega, by omega⟩
              · exact hJ.out j (by omega)
            have hs : w.heap.size ≤ wr.heap.size := hbel.out.size
            obtain ⟨q, hq_⟩ : ∃ q, q = k / 960 := ⟨_, rfl⟩
            have HQ := Lib.hid hq_
            have hot := OT.out k hlt
            have hol := OL.out k hlt
            rw [hx] at hot
            have HOT := Lib.hid hot
            have hqd : ((k : Int)).tdiv 960 = (q : Int) := by rw [hq_]; rfl
            have hq9 : q ≤ 100 := by omega
            have HX := Lib.hid hx
            clear hot hq_ hx
            by_cases hz : k % 960 = 0
            · have hzd : ((k : Int)).tmod 960 = 0 := (show ((k : Int)).tmod 960 = ((k % 960 : Nat) : Int) from rfl).trans (by omega)
              have hze : (k : Int) % 960 = 0 := by omega
              by_cases h3 : 3 ≤ x
              · skip
                obtain ⟨hLq, hBN⟩ := bits21_new (HLL.out hlt) hz hL.out
                have HBN := Lib.hid hBN
                obtain ⟨L', hLL⟩ : ∃ L', L' = L := ⟨_, rfl⟩
                subst hLL
                have hq : L'.length = q := by rw [hLq]; exact HQ.out.symm
                have hM2 := hM.out
                rw [hq] at hM2
                obtain ⟨y, hy⟩ : ∃ y : RowM, y = (none, 0, []) := ⟨_, rfl⟩
                have HN0 := Lib.hid (Row.of_block (heap_alloc_new wr (.cells #[.slice none 0 0] 22)))
                have hba := (Below.refl wr.heap.size wr).alloc (Nat.le_refl _) (.cells #[.slice none 0 0] 22)
                have HMA := Lib.hid (hM2.later hba)
                have HOA := Lib.hid (own_keptS hO.out fun p _ hp => hba.block p hp)
                have HBA := Lib.hid (hbel.out.alloc hs (.cells #[.slice none 0 0] 22))
                have hyl : y.2.2.length ≤ 65536 := by rw [hy]; simp
                have HY := Lib.hid hy
                clear hy
                clear hba hBN hLq hM2
                clear hL hM hO hbel BAD
                go_wp2_with (first
                  | (at_builtin; refine wpList_append_liesG _ rfl _ _ 24 rfl w.heap.size 22 1 _ 24 Try.underlying24 info_ints21 rfl (by omega) _ q (L'.map rowMV) rfl (Lib.hid HMA.out.row) (by simp; omega) ⟨wr.heap.size, 0, none⟩ [.slice none 0 0] 1 1 rfl rfl HN0.out (by simp [Value.oneCell']) (by omega) (by omega) (by omega) ?_; intro g3 c3 w3 ho3 hg3 hv3; have HM3' := HMA.out.snoc ho3.out hg3.out; rw [← HY.out] at HM3'; have HM3 := Lib.hid HM3'; have HO3 := Lib.hid (rowR_grown HOA.out HMA.out.row (by decide) hg3.out); have HB3 : Hid (Below w.heap.size w w3) := HBA.out.grown hg3.out (by simp; omega) (fun p e => (own_apartS HMA.out.row p e).1); have hs3 := HB3.out.size; clear HM3' ho3 hg3 hv3)
                  | (go_at_call 17; (with_reducible refine (CN _ _).out.mono ?_); rintro e w4 ⟨rfl, hb4⟩; have HM4 := Lib.hid (HM3.out.later hb4); have HO4 := Lib.hid (own_keptS HO3.out fun p _ hp => hb4.block p hp); have HB4 := Lib.hid (HB3.out.trans (hb4.mono HB3.out.size)); have hs4 := HB4.out.size; have hba4 := (Below.refl w4.heap.size w4).alloc (Nat.le_refl _) (.cells #[.int .i64 (k : Int), .string ⟨(countB x).toArray⟩, .int .i64 0] 41); have HM5 := Lib.hid (HM4.out.later hba4); have HO5 := Lib.hid (own_keptS HO4.out fun p _ hp => hba4.block p hp); have HB5 := Lib.hid (HB4.out.alloc HB4.out.size (.cells #[.int .i64 (k : Int), .string ⟨(countB x).toArray⟩, .int .i64 0] 41)); have HN5 := Lib.hid (Row.of_block (heap_alloc_new w4 (.cells #[.int .i64 (k : Int), .string ⟨(countB x).toArray⟩, .int .i64 0] 41))); clear hba4 hb4)
                  | (at_builtin; refine wpList_append_liesG _ rfl _ _ 25 rfl w.heap.size 41 3 _ 32 Try.underlying25 info_ents21 rfl (by omega) _ mo _ rfl HO5 (by simp; omega) ⟨w4.heap.size, 0, none⟩ [.int .i64 (k : Int), .string ⟨(countB x).toArray⟩, .int .i64 0] 1 1 rfl rfl HN5.out (by simp [Value.oneCell']) (by omega) (by omega) (by omega) ?_; intro g6 c6 w6 ho6 hg6 hv6; have HM6 := Lib.hid (HM5.out.grown HO5.out (by decide) (by decide) hg6.out); have HO6 := Lib.hid ho6.out; have HB6 : Hid (Below w.heap.size w w6) := HB5.out.grown hg6.out (by simp; omega) (fun p e => (own_apartS HO5.out p e).1); have hs6 := HB6.out.size; have HC6 := Lib.hid (rowR_at HM6.out.row (j := q) (u := rowMV y) (by rw [List.map_append, List.getElem?_append_right (by rw [List.length_map]; omega), List.length_map, hq]; simp)); have d6 := HC6.out; unfold rowMV at d6; have hb7 := (Below.refl w6.heap.size w6).alloc (Nat.le_refl _) (.cells #[.int .i64 (3 : Int)] 3); have HM7 := Lib.hid (HM6.out.later hb7); have HO7 := Lib.hid (own_keptS HO6.out fun p _ hp => hb7.block p hp); have HB7 := Lib.hid (HB6.out.alloc HB6.out.size (.cells #[.int .i64 (3 : Int)] 3)); have HN7 := Lib.hid (Row.of_block (heap_alloc_new w6 (.cells #[.int .i64 (3 : Int)] 3))); have HE7' := HM7.out.each q (by simp; omega); have hge : (L' ++ [y])[q]'(by simp; omega) = y := (by simp [← hq]); rw [hge] at HE7'; have HE7 := Lib.hid HE7'; clear hb7 HE7' hge; clear ho6 hg6 hv6 HC6)
                  | (at_builtin; (refine wpList_append_liesG _ rfl _ _ 22 rfl w.heap.size 3 1 _ 8 Try.underlying22 info_i64 rfl (by omega) _ y.2.2.length (i64s y.2.2) rfl HE7 (by simp; omega) ⟨w6.heap.size, 0, none⟩ [.int .i64 (3 : Int)] 1 1 rfl rfl HN7.out (by simp [Value.oneCell']) (by omega) (by omega) (by omega) ?_; intro g8 c8 w8 ho8 hg8 hv8); have HM8 := Lib.hid (HM7.out.push ho8.out hg8.out hv8.out); have HO8 := Lib.hid (rowR_grown HO7.out HE7.out (by decide) hg8.out); have HB8 : Hid (Below w.heap.size w w8) := HB7.out.grown hg8.out (by simp; omega) (fun p e => (own_apartS HE7.out p e).1); have HR8 := Lib.hid (rowR_grown HM7.out.row HE7.out (by decide) hg8.out); have f8 := rowR_free HR8.out q; have d8 := rowR_at HR8.out (j := q) (u := rowMV y) (by rw [List.map_append, List.getElem?_append_right (by rw [List.length_map]; omega), List.length_map, hq]; simp); unfold rowMV at d8; rw [hq] at HM8; clear ho8 hg8 hv8))
                go_roundw
                case rel =>
                  refine ⟨k + 1, L' ++ [(some ⟨g8, 0, none⟩, c8, y.2.2 ++ [(3 : Int)])], _, by omega, by push_cast; rfl, ?_, ?_, rfl, ?_, HJN, ?_⟩
                  · rw [show (L' ++ [((some ⟨g8, 0, none⟩, c8, y.2.2 ++ [(3 : Int)]) : RowM)]).length = q + 1 from by simp [hq]]
                    exact HM8
                  · have hlim : lim21 x = 3 := if_pos h3
                    have hb9 := HBN.out (some ⟨g8, 0, none⟩) c8
                    rw [HX.out, hlim] at hb9
                    rw [HY.out]
                    exact hb9
                  · have e1 : over21 (l.take (k + 1)) = over21 (l.take k) ++ [((k : Int), countB x)] := by rw [HOT.out, one21, if_pos h3]; rfl
                    rw [e1, List.length_append, entL21, List.map_append, entC_snoc, ← hmo]
                    exact ownsRow_setCell_other (a := ⟨g3, q, none⟩) HO8.out (fun e => rowR_ne HO8.out HR8.out (by decide) e rfl) _
                  · exact HB8.out.setCell (p := ⟨g3, q, none⟩) (own_apartS HR8.out g3 rfl).1 _
                case measure => simp [intOf]; omega
              · skip
                obtain ⟨hLq, hBN⟩ := bits21_new (HLL.out hlt) hz hL.out
                have HBN := Lib.hid hBN
                obtain ⟨L', hLL⟩ : ∃ L', L' = L := ⟨_, rfl⟩
                subst hLL
                have hq : L'.length = q := by rw [hLq]; exact HQ.out.symm
                have hM2 := hM.out
                rw [hq] at hM2
                obtain ⟨y, hy⟩ : ∃ y : RowM, y = (none, 0, []) := ⟨_, rfl⟩
                have HN0 := Lib.hid (Row.of_block (heap_alloc_new wr (.cells #[.slice none 0 0] 22)))
                have hba := (Below.refl wr.heap.size wr).alloc (Nat.le_refl _) (.cells #[.slice none 0 0] 22)
                have HMA := Lib.hid (hM2.later hba)
                have HOA := Lib.hid (own_keptS hO.out fun p _ hp => hba.block p hp)
                have HBA := Lib.hid (hbel.out.alloc hs (.cells #[.slice none 0 0] 22))
                have hyl : y.2.2.length ≤ 65536 := by rw [hy]; simp
                have HY := Lib.hid hy
                clear hy
                clear hba hBN hLq hM2
                clear hL hM hO hbel BAD
                go_wp2_with (first
                  | (at_builtin; refine wpList_append_liesG _ rfl _ _ 24 rfl w.heap.size 22 1 _ 24 Try.underlying24 info_ints21 rfl (by omega) _ q (L'.map rowMV) rfl (Lib.hid HMA.out.row) (by simp; omega) ⟨wr.heap.size, 0, none⟩ [.slice none 0 0] 1 1 rfl rfl HN0.out (by simp [Value.oneCell']) (by omega) (by omega) (by omega) ?_; intro g3 c3 w3 ho3 hg3 hv3; have HM3' := HMA.out.snoc ho3.out hg3.out; rw [← HY.out] at HM3'; have HM3 := Lib.hid HM3'; have HO3 := Lib.hid (rowR_grown HOA.out HMA.out.row (by decide) hg3.out); have HB3 : Hid (Below w.heap.size w w3) := HBA.out.grown hg3.out (by simp; omega) (fun p e => (own_apartS HMA.out.row p e).1); have hs3 := HB3.out.size; clear HM3' ho3 hg3 hv3; have HM6 := HM3; have HO6 := HO3; have HB6 := HB3; have hs6 := HB6.out.size; have HC6 := Lib.hid (rowR_at HM6.out.row (j := q) (u := rowMV y) (by rw [List.map_append, List.getElem?_append_right (by rw [List.length_map]; omega), List.length_map, hq]; simp)); have d6 := HC6.out; unfold rowMV at d6; have hb7 := (Below.refl w3.heap.size w3).alloc (Nat.le_refl _) (.cells #[.int .i64 x] 3); have HM7 := Lib.hid (HM6.out.later hb7); have HO7 := Lib.hid (own_keptS HO6.out fun p _ hp => hb7.block p hp); have HB7 := Lib.hid (HB6.out.alloc HB6.out.size (.cells #[.int .i64 x] 3)); have HN7 := Lib.hid (Row.of_block (heap_alloc_new w3 (.cells #[.int .i64 x] 3))); have HE7' := HM7.out.each q (by simp; omega); have hge : (L' ++ [y])[q]'(by simp; omega) = y := (by simp [← hq]); rw [hge] at HE7'; have HE7 := Lib.hid HE7'; clear hb7 HE7' hge; clear HC6)
                  | (at_builtin; (refine wpList_append_liesG _ rfl _ _ 22 rfl w.heap.size 3 1 _ 8 Try.underlying22 info_i64 rfl (by omega) _ y.2.2.length (i64s y.2.2) rfl HE7 (by simp; omega) ⟨w3.heap.size, 0, none⟩ [.int .i64 x] 1 1 rfl rfl HN7.out (by simp [Value.oneCell']) (by omega) (by omega) (by omega) ?_; intro g8 c8 w8 ho8 hg8 hv8); have HM8 := Lib.hid (HM7.out.push ho8.out hg8.out hv8.out); have HO8 := Lib.hid (rowR_grown HO7.out HE7.out (by decide) hg8.out); have HB8 : Hid (Below w.heap.size w w8) := HB7.out.grown hg8.out (by simp; omega) (fun p e => (own_apartS HE7.out p e).1); have HR8 := Lib.hid (rowR_grown HM7.out.row HE7.out (by decide) hg8.out); have f8 := rowR_free HR8.out q; have d8 := rowR_at HR8.out (j := q) (u := rowMV y) (by rw [List.map_append, List.getElem?_append_right (by rw [List.length_map]; omega), List.length_map, hq]; simp); unfold rowMV at d8; rw [hq] at HM8; clear ho8 hg8 hv8))
                go_roundw
                case rel =>
                  refine ⟨k + 1, L' ++ [(some ⟨g8, 0, none⟩, c8, y.2.2 ++ [x])], _, by omega, by push_cast; rfl, ?_, ?_, rfl, ?_, HJN, ?_⟩
                  · rw [show (L' ++ [((some ⟨g8, 0, none⟩, c8, y.2.2 ++ [x]) : RowM)]).length = q + 1 from by simp [hq]]
                    exact HM8
                  · have hlim : lim21 x = x := if_neg h3
                    have hb9 := HBN.out (some ⟨g8, 0, none⟩) c8
                    rw [HX.out, hlim] at hb9
                    rw [HY.out]
                    exact hb9
                  · have e1 : over21 (l.take (k + 1)) = over21 (l.take k) := by rw [HOT.out, one21, if_neg h3, List.append_nil]
                    rw [e1, ← hmo]
                    exact ownsRow_setCell_other (a := ⟨g3, q, none⟩) HO8.out (fun e => rowR_ne HO8.out HR8.out (by decide) e rfl) _
                  · exact HB8.out.setCell (p := ⟨g3, q, none⟩) (own_apartS HR8.out g3 rfl).1 _
                case measure => simp [intOf]; omega
            · have hzd : ¬ ((k : Int)).tmod 960 = 0 := fun e => by have := (show ((k : Int)).tmod 960 = ((k % 960 : Nat) : Int) from rfl); omega
              by_cases h3 : 3 ≤ x
              · skip
                obtain ⟨L', y, hLy, hq0, hyl0, hBN⟩ := bits21_more (HLL.out hlt) hz hL.out
                have HBN := Lib.hid hBN
                have hq : L'.length = q := by rw [hq0]; exact HQ.out.symm
                have hyl : y.2.2.length ≤ 65536 := by omega
                have hM3 := hM.out
                rw [hLy] at hM3
                have hln : (L' ++ [y]).length = q + 1 := by simp [hq]
                rw [hln] at hM3
                obtain ⟨A3, c3, rfl, hcm3, hc93⟩ := ownsRow_form hM3.row
                obtain ⟨g3, rfl, hg3, hg3b⟩ := rowR_form hM3.row (by omega)
                have HM3 := Lib.hid hM3
                have HO3 := hO
                have HB3 := hbel
                have hc9 : c3 ≤ 9223372036854775807 := by simpa [maxLen] using hc93
                clear hM3 hBN hLy hln hq0 hyl0 hg3 hg3b hc93
                clear hL hM hO hbel BAD
                go_wp2_with (first
                  | (go_at_call 17; (with_reducible refine (CN _ _).out.mono ?_); rintro e w4 ⟨rfl, hb4⟩; have HM4 := Lib.hid (HM3.out.later hb4); have HO4 := Lib.hid (own_keptS HO3.out fun p _ hp => hb4.block p hp); have HB4 := Lib.hid (HB3.out.trans (hb4.mono HB3.out.size)); have hs4 := HB4.out.size; have hba4 := (Below.refl w4.heap.size w4).alloc (Nat.le_refl _) (.cells #[.int .i64 (k : Int), .string ⟨(countB x).toArray⟩, .int .i64 0] 41); have HM5 := Lib.hid (HM4.out.later hba4); have HO5 := Lib.hid (own_keptS HO4.out fun p _ hp => hba4.block p hp); have HB5 := Lib.hid (HB4.out.alloc HB4.out.size (.cells #[.int .i64 (k : Int), .string ⟨(countB x).toArray⟩, .int .i64 0] 41)); have HN5 := Lib.hid (Row.of_block (heap_alloc_new w4 (.cells #[.int .i64 (k : Int), .string ⟨(countB x).toArray⟩, .int .i64 0] 41))); clear hba4 hb4)
                  | (at_builtin; refine wpList_append_liesG _ rfl _ _ 25 rfl w.heap.size 41 3 _ 32 Try.underlying25 info_ents21 rfl (by omega) _ mo _ rfl HO5 (by simp; omega) ⟨w4.heap.size, 0, none⟩ [.int .i64 (k : Int), .string ⟨(countB x).toArray⟩, .int .i64 0] 1 1 rfl rfl HN5.out (by simp [Value.oneCell']) (by omega) (by omega) (by omega) ?_; intro g6 c6 w6 ho6 hg6 hv6; have HM6 := Lib.hid (HM5.out.grown HO5.out (by decide) (by decide) hg6.out); have HO6 := Lib.hid ho6.out; have HB6 : Hid (Below w.heap.size w w6) := HB5.out.grown hg6.out (by simp; omega) (fun p e => (own_apartS HO5.out p e).1); have hs6 := HB6.out.size; have HC6 := Lib.hid (rowR_at HM6.out.row (j := q) (u := rowMV y) (by rw [List.map_append, List.getElem?_append_right (by rw [List.length_map]; omega), List.length_map, hq]; simp)); have d6 := HC6.out; unfold rowMV at d6; have hb7 := (Below.refl w6.heap.size w6).alloc (Nat.le_refl _) (.cells #[.int .i64 (3 : Int)] 3); have HM7 := Lib.hid (HM6.out.later hb7); have HO7 := Lib.hid (own_keptS HO6.out fun p _ hp => hb7.block p hp); have HB7 := Lib.hid (HB6.out.alloc HB6.out.size (.cells #[.int .i64 (3 : Int)] 3)); have HN7 := Lib.hid (Row.of_block (heap_alloc_new w6 (.cells #[.int .i64 (3 : Int)] 3))); have HE7' := HM7.out.each q (by simp; omega); have hge : (L' ++ [y])[q]'(by simp; omega) = y := (by simp [← hq]); rw [hge] at HE7'; have HE7 := Lib.hid HE7'; clear hb7 HE7' hge; clear ho6 hg6 hv6 HC6)
                  | (at_builtin; (refine wpList_append_liesG _ rfl _ _ 22 rfl w.heap.size 3 1 _ 8 Try.underlying22 info_i64 rfl (by omega) _ y.2.2.length (i64s y.2.2) rfl HE7 (by simp; omega) ⟨w6.heap.size, 0, none⟩ [.int .i64 (3 : Int)] 1 1 rfl rfl HN7.out (by simp [Value.oneCell']) (by omega) (by omega) (by omega) ?_; intro g8 c8 w8 ho8 hg8 hv8); have HM8 := Lib.hid (HM7.out.push ho8.out hg8.out hv8.out); have HO8 := Lib.hid (rowR_grown HO7.out HE7.out (by decide) hg8.out); have HB8 : Hid (Below w.heap.size w w8) := HB7.out.grown hg8.out (by simp; omega) (fun p e => (own_apartS HE7.out p e).1); have HR8 := Lib.hid (rowR_grown HM7.out.row HE7.out (by decide) hg8.out); have f8 := rowR_free HR8.out q; have d8 := rowR_at HR8.out (j := q) (u := rowMV y) (by rw [List.map_append, List.getElem?_append_right (by rw [List.length_map]; omega), List.length_map, hq]; simp); unfold rowMV at d8; rw [hq] at HM8; clear ho8 hg8 hv8))
                go_roundw
                case rel =>
                  refine ⟨k + 1, L' ++ [(some ⟨g8, 0, none⟩, c8, y.2.2 ++ [(3 : Int)])], _, by omega, by push_cast; rfl, ?_, ?_, rfl, ?_, HJN, ?_⟩
                  · rw [show (L' ++ [((some ⟨g8, 0, none⟩, c8, y.2.2 ++ [(3 : Int)]) : RowM)]).length = q + 1 from by simp [hq]]
                    exact HM8
                  · have hlim : lim21 x = 3 := if_pos h3
                    have hb9 := HBN.out (some ⟨g8, 0, none⟩) c8
                    rw [HX.out, hlim] at hb9
                    exact hb9
                  · have e1 : over21 (l.take (k + 1)) = over21 (l.take k) ++ [((k : Int), countB x)] := by rw [HOT.out, one21, if_pos h3]; rfl
                    rw [e1, List.length_append, entL21, List.map_append, entC_snoc, ← hmo]
                    exact ownsRow_setCell_other (a := ⟨g3, q, none⟩) HO8.out (fun e => rowR_ne HO8.out HR8.out (by decide) e rfl) _
                  · exact HB8.out.setCell (p := ⟨g3, q, none⟩) (own_apartS HR8.out g3 rfl).1 _
                case measure => simp [intOf]; omega
              · skip
                obtain ⟨L', y, hLy, hq0, hyl0, hBN⟩ := bits21_more (HLL.out hlt) hz hL.out
                have HBN := Lib.hid hBN
                have hq : L'.length = q := by rw [hq0]; exact HQ.out.symm
                have hyl : y.2.2.length ≤ 65536 := by omega
                have hM3 := hM.out
                rw [hLy] at hM3
                have hln : (L' ++ [y]).length = q + 1 := by simp [hq]
                rw [hln] at hM3
                obtain ⟨A3, c3, rfl, hcm3, hc93⟩ := ownsRow_form hM3.row
                obtain ⟨g3, rfl, hg3, hg3b⟩ := rowR_form hM3.row (by omega)
                have HM3 := Lib.hid hM3
                have HO3 := hO
                have HB3 := hbel
                have hc9 : c3 ≤ 9223372036854775807 := by simpa [maxLen] using hc93
                clear hM3 hBN hLy hln hq0 hyl0 hg3 hg3b hc93
                have HM6 := HM3; have HO6 := HO3; have HB6 := HB3; have hs6 := HB6.out.size; have HC6 := Lib.hid (rowR_at HM6.out.row (j := q) (u := rowMV y) (by rw [List.map_append, List.getElem?_append_right (by rw [List.length_map]; omega), List.length_map, hq]; simp)); have d6 := HC6.out; unfold rowMV at d6; have hb7 := (Below.refl wr.heap.size wr).alloc (Nat.le_refl _) (.cells #[.int .i64 x] 3); have HM7 := Lib.hid (HM6.out.later hb7); have HO7 := Lib.hid (own_keptS HO6.out fun p _ hp => hb7.block p hp); have HB7 := Lib.hid (HB6.out.alloc HB6.out.size (.cells #[.int .i64 x] 3)); have HN7 := Lib.hid (Row.of_block (heap_alloc_new wr (.cells #[.int .i64 x] 3))); have HE7' := HM7.out.each q (by simp; omega); have hge : (L' ++ [y])[q]'(by simp; omega) = y := (by simp [← hq]); rw [hge] at HE7'; have HE7 := Lib.hid HE7'; clear hb7 HE7' hge; clear HC6
                clear hL hM hO hbel BAD
                go_wp2_with (first
                  | (at_builtin; (refine wpList_append_liesG _ rfl _ _ 22 rfl w.heap.size 3 1 _ 8 Try.underlying22 info_i64 rfl (by omega) _ y.2.2.length (i64s y.2.2) rfl HE7 (by simp; omega) ⟨wr.heap.size, 0, none⟩ [.int .i64 x] 1 1 rfl rfl HN7.out (by simp [Value.oneCell']) (by omega) (by omega) (by omega) ?_; intro g8 c8 w8 ho8 hg8 hv8); have HM8 := Lib.hid (HM7.out.push ho8.out hg8.out hv8.out); have HO8 := Lib.hid (rowR_grown HO7.out HE7.out (by decide) hg8.out); have HB8 : Hid (Below w.heap.size w w8) := HB7.out.grown hg8.out (by simp; omega) (fun p e => (own_apartS HE7.out p e).1); have HR8 := Lib.hid (rowR_grown HM7.out.row HE7.out (by decide) hg8.out); have f8 := rowR_free HR8.out q; have d8 := rowR_at HR8.out (j := q) (u := rowMV y) (by rw [List.map_append, List.getElem?_append_right (by rw [List.length_map]; omega), List.length_map, hq]; simp); unfold rowMV at d8; rw [hq] at HM8; clear ho8 hg8 hv8))
                go_roundw
                case rel =>
                  refine ⟨k + 1, L' ++ [(some ⟨g8, 0, none⟩, c8, y.2.2 ++ [x])], _, by omega, by push_cast; rfl, ?_, ?_, rfl, ?_, HJN, ?_⟩
                  · rw [show (L' ++ [((some ⟨g8, 0, none⟩, c8, y.2.2 ++ [x]) : RowM)]).length = q + 1 from by simp [hq]]
                    exact HM8
                  · have hlim : lim21 x = x := if_neg h3
                    have hb9 := HBN.out (some ⟨g8, 0, none⟩) c8
                    rw [HX.out, hlim] at hb9
                    exact hb9
                  · have e1 : over21 (l.take (k + 1)) = over21 (l.take k) := by rw [HOT.out, one21, if_neg h3, List.append_nil]
                    rw [e1, ← hmo]
                    exact ownsRow_setCell_other (a := ⟨g3, q, none⟩) HO8.out (fun e => rowR_ne HO8.out HR8.out (by decide) e rfl) _
                  · exact HB8.out.setCell (p := ⟨g3, q, none⟩) (own_apartS HR8.out g3 rfl).1 _
                case measure => simp [intOf]; omega
      · obtain rfl : k = n := by omega
        obtain rfl := GOOD.out hJ.out
        obtain ⟨rfl, rfl⟩ := HYES.out rfl
        have hM2 := hM.out
        have hO2 := hO.out
        rw [hmo] at hO2
        have hL2 := hL.out
        rw [ALL.out] at hL2 hO2
        obtain ⟨A5, c5, rfl, hmt⟩ := hM2.matN
        rw [hL2] at hmt
        have hll : L.length = (bits21 l).length := by rw [← hL2, List.length_map]
        rw [hll, HMB.out] at hmt
        have hO3 : wr.ownsRow w.heap.size 41 3 u6 (entL21 (over21 l)).length (entC (entL21 (over21 l))) := by rw [entL21_length]; exact hO2
        obtain ⟨A6, c6, rfl, hen⟩ := EnsN.of_own hO3
        rw [entL21_length, HMC.out] at hen
        have hll2 : L.length = (bits21 l).length := hll
        have HMT := Lib.hid hmt
        have HEN := Lib.hid hen
        clear hM2 hO2 hL2 hmt hen hO3 hll hM hL hO hmo BADE GOOD HNIL HYES
        rw [HMB.out] at hll2
        rw [entL21_length, HMC.out]
        rw [hll2]
        go_wp2
        go_ret3
        exact ⟨_, _, _, _, rfl, HMT.out, HEN.out, hbel.out⟩
  · obtain rfl : E = 1 := by rw [← hE]; exact splE21_many (by omega)
    obtain ⟨rfl, rfl⟩ := HNIL.out (by decide)
    obtain rfl : 0 = mb := HMB.out
    obtain rfl : 0 = mc := HMC.out
    clear h hl hE HYES HNIL
    go_enter Try.func8, Try.ntmps8
    go_wp2
    go_ret3
    exact ⟨none, 0, none, 0, rfl, MatN.nil _ _, EnsN.nil _ _, Below.refl _ _⟩
theorem refSplit_any21 (A : Option Addr) (n c : Nat) (l : List Int) (w : World) (h : Ints w A n c l) :
    Calls Try.prog 8 #[.slice A n c] w fun e w' => ∃ A1 c1 A2 c2, e = .returned (.tuple #[.slice A1 (splB21 l).length c1, .slice A2 (splO21 l).length c2, .int .i64 (splE21 l)]) ∧ Mat w' A1 (splB21 l).length c1 (splB21 l) ∧ Ens w' A2 (splO21 l).length c2 (entL21 (splO21 l)) ∧ Below w.heap.size w w' :=
  (refSplit_any21F A n c l w h).mono fun _ _ ⟨A1, c1, A2, c2, h1, h2, h3, h4⟩ => ⟨A1, c1, A2, c2, h1, h2.at_, h3.at_, h4⟩
end Go.Proofs.Ytoacgoelhidmbaa

/-
  Layer 21: the reference's Join.
-/
namespace Go.Proofs.Ytoacgoelhidmbaa
open Go.RowKit
set_option linter.unusedVariables false
set_option linter.unusedSimpArgs false

/-- entry k, where it lies -/
theorem ens21_at {w : World} {A : Option Addr} {n c : Nat} {o : List Ent21} (h : Ens w A n c o) {k : Nat} (hk : k < n) : ∃ b off x s t, A = some ⟨b, off, none⟩ ∧ b < w.heap.size ∧ o.getD k zE21 = (x, s, t) ∧ w.cell? ⟨b, off + k * 3, none⟩ = some (.int .i64 x) ∧ w.cell? ⟨b, off + k * 3 + 1, none⟩ = some (.string ⟨s.toArray⟩) ∧ w.cell? ⟨b, off + k * 3 + 2, none⟩ = some (.int .i64 t) := by
  have hl := h.len
  obtain ⟨b, off, e, h0, h1, h2⟩ := h.at_ hk
  exact ⟨b, off, _, _, _, e, cell_lt h0, getD21 (by omega) zE21, h0, by rw [Nat.add_assoc]; exact h1, by rw [Nat.add_assoc]; exact h2⟩

theorem entAt21_rd {out : List Int} {o : List Ovr21} {k : Nat} (h : entAt21 out none o k = 0) : rdE (o.getD k zO21).2 countS = 0 := by
  unfold entAt21 at h
  by_cases h1 : (o.getD k zO21).1 < 0 ∨ (∃ y, (if k = 0 then none else some (o.getD (k - 1) zO21).1) = some y ∧ (o.getD k zO21).1 ≤ y)
  · rw [if_pos h1] at h; exact absurd h (by decide)
  · rw [if_neg h1] at h
    by_cases h2 : (out.length : Int) ≤ (o.getD k zO21).1 ∨ out.getD (o.getD k zO21).1.toNat 0 ≠ 3
    · rw [if_pos h2] at h; exact absurd h (by decide)
    · rw [if_neg h2] at h; exact h
theorem least21 {P : Nat → Prop} (hd : ∀ k, P k ∨ ¬ P k) : ∀ n, (∀ j, j < n → ¬ P j) ∨ ∃ i, i < n ∧ P i ∧ ∀ j, j < i → ¬ P j
  | 0 => .inl fun j hj => absurd hj (Nat.not_lt_zero _)
  | n + 1 => by
    rcases least21 hd n with h | ⟨i, h1, h2, h3⟩
    · rcases hd n with hn | hn
      · exact .inr ⟨n, Nat.lt_succ_self n, hn, h⟩
      · left
        intro j hj
        by_cases e : j = n
        · rw [e]; exact hn
        · exact h j (by omega)
    · exact .inr ⟨i, by omega, h2, h3⟩
theorem at21_none {l : List Ent21} {key z : Int} (h : At21 l key z) (hn : ∀ k, k < l.length → ¬ (l.getD k (0, [], 0)).1 = key) : z = -1 := by
  rcases h with ⟨h, _⟩ | ⟨i, _, h1, h2, _⟩
  · exact h
  · exact absurd h2 (hn i h1)
theorem at21_some {l : List Ent21} {key z : Int} (h : At21 l key z) {i : Nat} (hi : i < l.length) (hk : (l.getD i (0, [], 0)).1 = key) (hb : ∀ j, j < i → ¬ (l.getD j (0, [], 0)).1 = key) : z = (i : Int) := by
  rcases h with ⟨_, h⟩ | ⟨i2, h0, h1, h2, h3⟩
  · exact absurd hk (h i hi)
  · rcases Nat.lt_trichotomy i i2 with hc | hc | hc
    · exact absurd hk (h3 i hc)
    · rw [hc]; exact h0
    · exact absurd h2 (hb i2 hc)
theorem full21_of {out : List Int} {o : List Ent21} (h : ∀ k, k < out.length → out.getD k 0 = 3 → ∃ i, i < o.length ∧ (o.getD i (0, [], 0)).1 = (k : Int)) : full21 out (ov21 o) := fun k hk h3 => by
  obtain ⟨i, hi, he⟩ := h k hk h3
  rw [getD21 hi] at he
  exact ⟨(o[i].1, o[i].2.1), List.mem_map.2 ⟨o[i], List.getElem_mem hi, rfl⟩, he⟩

set_option maxRecDepth 100000 in
set_option maxHeartbeats 6400000 in
theorem refJoin_any21F (A A2 : Option Addr) (n c n2 c2 : Nat) (b : List (List Int)) (o : List Ent21) (w : World) (h : Mat w A n c b) (h2 : Ens w A2 n2 c2 o) (ht : tot21 b ≤ 100000000) (hbd : ∀ q ∈ o, (-9223372036854775808 ≤ q.1 ∧ q.1 ≤ 9223372036854775807) ∧ q.2.1.length ≤ 9223372036854775807) :
    Calls Try.prog 13 #[.slice A n c, .slice A2 n2 c2] w fun e w' => ∃ A' c', e = .returned (.tuple #[.slice A' (joinL21 b (ov21 o)).length c', .int .i64 (joinE21 b (ov21 o))]) ∧ Ints w' A' (joinL21 b (ov21 o)).length c' (joinL21 b (ov21 o)) ∧ Below w.heap.size w w' ∧ Newer w.heap.size A' := by
  have hle : n ≤ 9223372036854775807 := Nat.le_trans h.cap h.most
  have hle2 : n2 ≤ 9223372036854775807 := Nat.le_trans h2.cap h2.most
  have hl := h.len
  have hl2 := h2.len
  obtain ⟨E, hE⟩ : ∃ E, joinE21 b (ov21 o) = E := ⟨_, rfl⟩
  obtain ⟨LL, hLL⟩ : ∃ LL, joinL21 b (ov21 o) = LL := ⟨_, rfl⟩
  rw [hE, hLL]
  have HNIL : Hid (E ≠ 0 → LL = []) := fun hv => by rw [← hLL]; rw [← hE] at hv; exact if_neg hv
  have HYES : Hid (E = 0 → LL = fill21 b.flatten (ov21 o)) := fun hv => by rw [← hLL]; rw [← hE] at hv; exact if_pos hv
  obtain ⟨mb, hmb⟩ : ∃ mb, LL.length = mb := ⟨_, rfl⟩
  rw [hmb]
  have HMB := Lib.hid hmb
  clear hLL hmb
  have HM := Lib.hid h
  have HN2 := Lib.hid h2
  by_cases hf : okB21 b
  · have FO := Lib.hid (refForm_any21 A n c b w h true (by simp [hf]))
    have ROW : Hid (∀ k, k < n → 1 ≤ (b.getD k []).length) := fun k hk => ((okB21_iff.1 hf).1 k (by omega)).1
    have TT : Hid (∀ k, k < n → tot21 (b.take (k + 1)) = tot21 (b.take k) + (b.getD k []).length ∧ tot21 (b.take (k + 1)) ≤ 100000000) := fun k hk => by
      refine ⟨tot21_take (by omega), ?_⟩
      have e : tot21 b = tot21 (b.take (k + 1)) + tot21 (b.drop (k + 1)) := by
        rw [← tot21_flat, ← tot21_flat, ← tot21_flat, ← List.length_append, ← List.flatten_append, List.take_append_drop]
      omega
    have FT : Hid (∀ k, k < n → (b.take (k + 1)).flatten = (b.take k).flatten ++ b.getD k []) := fun k hk => flat21_take (by omega)
    have FA : Hid ((b.take n).flatten = b.flatten ∧ tot21 (b.take n) = b.flatten.length) := by
      rw [List.take_of_length_le (by omega), tot21_flat]; exact Lib.hid ⟨rfl, rfl⟩
    have BD : Hid (∀ k e, k < n2 → (∀ j, j < k → entAt21 b.flatten none (ov21 o) j = 0) → entAt21 b.flatten none (ov21 o) k = e → e ≠ 0 → E = e) := fun k e hk hj he h0 => by
      have := entE21_bad (p := none) (by rw [ov21_length]; omega) hj (by rw [he]; exact h0)
      rw [← hE, joinE21, if_pos hf, if_neg (by rw [this, he]; exact h0), this, he]
    have EN : Hid ((∀ j, j < n2 → entAt21 b.flatten none (ov21 o) j = 0) → (¬ full21 b.flatten (ov21 o) → E = 13) ∧ (full21 b.flatten (ov21 o) → E = 0)) := fun hj => by
      have := entE21_ok (p := none) (o := ov21 o) (fun j h => hj j (by rw [ov21_length] at h; omega))
      refine ⟨fun hn => ?_, fun hy => ?_⟩
      · rw [← hE, joinE21, if_pos hf, if_pos this, if_neg hn]
      · rw [← hE, joinE21, if_pos hf, if_pos this, if_pos hy]
    have RC : Hid (∀ k x s t W, k < n2 → o.getD k zE21 = (x, s, t) → Calls Try.prog 22 #[.string ⟨s.toArray⟩] W fun e w' => e = .returned (.tuple #[.int .i64 (rdV s countS 0), .int .i64 (rdE s countS)]) ∧ Below W.heap.size W w') := fun k x s t W hk hx => by
      refine refReadCount_any8L W s ?_
      have := (hbd _ (List.getElem_mem (l := o) (n := k) (by omega))).2
      rw [getD21 (by omega)] at hx
      rw [hx] at this
      exact this
    have KB : Hid (∀ k x s t, k < n2 → o.getD k zE21 = (x, s, t) → -9223372036854775808 ≤ x ∧ x ≤ 9223372036854775807) := fun k x s t hk hx => by
      have := (hbd _ (List.getElem_mem (l := o) (n := k) (by omega))).1
      rw [getD21 (by omega)] at hx
      rw [hx] at this
      exact this
    have FD := fun (W : World) (hW : Hid (Below w.heap.size w W)) (key : Int) => Lib.hid (refFind_any21 A2 n2 c2 o key W (HN2.out.below hW.out))
    have HL2 := Lib.hid hl2
    clear h h2 hE hf hbd ht hl hl2
    go_enter Try.func13, Try.ntmps13
    go_wp2_with (go_at_call 21; (with_reducible refine (FO.out).mono ?_); rintro e w1 ⟨rfl, rfl⟩)
    go_loopw [6, 7] (fun vo i wr => ∃ (k T : Nat), k ≤ n ∧ i = .int .i64 k ∧ Hid (T = tot21 (b.take k)) ∧ Hid (wr.ownsRow w.heap.size 3 1 vo T (i64s (b.take k).flatten)) ∧ Hid (Below w.heap.size w wr)) (fun _ i _ => n - (intOf i).toNat)
    case atStart => exact ⟨0, 0, by omega, rfl, rfl, World.ownsRow_nil _ _ _ _, Below.refl _ _⟩
    case round =>
      obtain ⟨k, T, hk, rfl, hT, hO, hbel⟩ := hrel
      by_cases hlt : k < n
      · obtain ⟨bb, off, A', m, c', rfl, hb, hkl, d0, hI⟩ := mat_at HM.out hlt
        have g0 := (hbel.out.cell (p := ⟨bb, off + k, none⟩) hb).trans d0
        have hr := ROW.out k hlt
        have hml := hI.len
        rw [hml] at hr
        obtain ⟨b4, off4, hA4, hb4, hc4⟩ := hI.row.lit (by rw [i64s_length, hml]; omega)
        subst hA4
        have HRW := Lib.hid ((hI.row).below hbel.out)
        obtain ⟨ht1, ht2⟩ := TT.out k hlt
        rw [ht1] at ht2
        rw [hml, ← hT.out] at ht1 ht2
        have HT1 := Lib.hid ht1
        have hs : w.heap.size ≤ wr.heap.size := hbel.out.size
        have HFT := Lib.hid (FT.out k hlt)
        have HML := Lib.hid hml
        clear d0 hI hc4 ht1 hml
        go_wp2_with (at_builtin; refine wpList_append_liesG _ rfl _ _ 22 rfl w.heap.size 3 1 _ 8 Try.underlying22 info_i64 rfl (by omega) _ T _ rfl hO hs ⟨b4, off4, none⟩ (i64s (b.getD k [])) m c' rfl (by rw [i64s_length, HML.out]; omega) HRW.out (i64s_one _) (by omega) (by omega) (by omega) ?_; intro g6 c6 w6 ho6 hg6 hv6; have HB6 : Hid (Below w.heap.size w w6) := hbel.out.grown hg6.out hs (fun p e => (own_apartS hO.out p e).1))
        go_roundw
        case rel => exact ⟨k + 1, T + m, by omega, by push_cast; rfl, HT1.out.symm, by rw [HFT.out, i64s_append]; exact ho6, HB6⟩
        case measure => simp [intOf]; omega
      · obtain rfl : k = n := by omega
        obtain ⟨fa1, fa2⟩ := FA.out
        rw [fa1] at hO
        have HT := Lib.hid (hT.out.trans fa2)
        obtain ⟨Ao, co, rfl, hcap1, hcap2⟩ := ownsRow_form hO.out
        have hco : co ≤ 9223372036854775807 := by simpa [maxLen] using hcap2
        have hT9 : T ≤ 9223372036854775807 := by omega
        have HO1 := hO
        have HB1 := hbel
        obtain ⟨w1, hw1⟩ : ∃ w1, w1 = wr := ⟨_, rfl⟩
        have HW1 := Lib.hid hw1
        rw [← hw1] at HO1 HB1
        clear FO ROW TT FT FA fa1 fa2 hO hbel hT hcap2 hw1
        have OA : Hid (∀ j, j < T → ∃ g, Ao = some ⟨g, 0, none⟩ ∧ w1.cell? ⟨g, j, none⟩ = some (.int .i64 (b.flatten.getD j 0))) := fun j hj => by
          obtain ⟨g, e, _, _⟩ := rowR_form HO1.out (by omega)
          subst e
          have hjl : j < b.flatten.length := by have := HT.out; omega
          exact ⟨g, rfl, rowR_at HO1.out (i64s_at21 (by rw [List.getElem?_eq_getElem hjl, getD21 hjl]))⟩
        go_wp2
        go_loopw [8] (fun i wr => ∃ (k : Nat), k ≤ n2 ∧ i = .int .i64 k ∧ Hid (∀ j, j < k → entAt21 b.flatten none (ov21 o) j = 0) ∧ Hid (Below w1.heap.size w1 wr)) (fun i _ => n2 - (intOf i).toNat)
        case atStart => exact ⟨0, by omega, rfl, fun j hj => absurd hj (Nat.not_lt_zero _), by rw [HW1.out]; exact Below.refl _ _⟩
        case round =>
          obtain ⟨k, hk, rfl, hJ, hbel⟩ := hrel
          by_cases hlt : k < n2
          · obtain ⟨b2, off2, x, s, t, rfl, hb2, hx, d0, d1, d2⟩ := ens21_at HN2.out hlt
            have hbw := HB1.out.trans (hbel.out.mono HB1.out.size)
            have g0 := (hbw.cell (p := ⟨b2, off2 + k * 3, none⟩) hb2).trans d0
            have g1 := (hbw.cell (p := ⟨b2, off2 + k * 3 + 1, none⟩) hb2).trans d1
            obtain ⟨hx0, hx1⟩ := KB.out k x s t hlt hx
            have hov : (ov21 o).getD k zO21 = (x, s) := by rw [ov21_at, hx]
            have HOV := Lib.hid hov
            have RCk := Lib.hid (fun W => RC.out k x s t W hlt hx)
            have BDk := Lib.hid (fun e => BD.out k e hlt hJ.out)
            clear d0 d1 d2 hx hov
            by_cases q0 : x < 0
            · have hE8 := BDk.out 8 (entAt21_low (by rw [HOV.out]; exact q0)) (by decide)
              subst hE8
              obtain rfl := HNIL.out (by decide)
              obtain rfl : 0 = mb := HMB.out
              clear HNIL HYES EN BD RC BDk RCk KB FD OA
              go_wp2
              go_ret2
              exact ⟨none, 0, rfl, Ints.nil _, hbw, Newer.nil _⟩
            · by_cases q1 : 0 < k ∧ x ≤ ((ov21 o).getD (k - 1) zO21).1
              · obtain ⟨hk0, q1⟩ := q1
                have hE8 := BDk.out 8 (entAt21_back hk0 (by rw [HOV.out]; exact q1)) (by decide)
                subst hE8
                obtain rfl := HNIL.out (by decide)
                obtain rfl : 0 = mb := HMB.out
                obtain ⟨k', hkk⟩ : ∃ k', k = k' + 1 := ⟨k - 1, by omega⟩
                obtain ⟨b3, off3, x3, s3, t3, e3, hb3, hx3, p0, p1, p2⟩ := ens21_at HN2.out (k := k') (by omega)
                cases e3
                have r0 := (hbw.cell (p := ⟨b2, off2 + k' * 3, none⟩) hb2).trans p0
                rw [ov21_at, show k - 1 = k' by omega, hx3] at q1
                have q1 : x ≤ x3 := q1
                have hw : IntKind.i64.wrap ((k : Int) - 1) = (k' : Int) := (IntWalk.i64_in _ (by omega)).trans (by omega)
                have hk2 : k' < n2 := by omega
                clear HNIL HYES EN BD RC BDk RCk KB FD OA p0 p1 p2 hx3 hkk
                go_wp2
                go_ret2
                exact ⟨none, 0, rfl, Ints.nil _, hbw, Newer.nil _⟩
              · have hrest := entAt21_rest (out := b.flatten) (o := ov21 o) (k := k) (by rw [HOV.out]; exact q0) (fun hk0 e => q1 ⟨hk0, by rw [HOV.out] at e; exact e⟩)
                rw [HOV.out, ← HT.out] at hrest
                have HREST := Lib.hid hrest
                have PRV : Hid (0 < k → ∃ k' b3 x3, k = k' + 1 ∧ k' < n2 ∧ IntKind.i64.wrap ((k : Int) - 1) = (k' : Int) ∧ wr.cell? ⟨b2, off2 + k' * 3, none⟩ = some (.int .i64 x3) ∧ ¬ x ≤ x3 ∧ b3 = b2) := fun hk0 => by
                  obtain ⟨k', hkk⟩ : ∃ k', k = k' + 1 := ⟨k - 1, by omega⟩
                  obtain ⟨b3, off3, x3, s3, t3, e3, hb3, hx3, p0, p1, p2⟩ := ens21_at HN2.out (k := k') (by omega)
                  cases e3
                  refine ⟨k', b2, x3, hkk, by omega, (IntWalk.i64_in _ (by omega)).trans (by omega), (hbw.cell (p := ⟨b2, off2 + k' * 3, none⟩) hb2).trans p0, fun e => q1 ⟨hk0, ?_⟩, rfl⟩
                  rw [ov21_at, show k - 1 = k' by omega, hx3]
                  exact e
                obtain ⟨kn, hkn⟩ := Int.eq_ofNat_of_zero_le (show 0 ≤ x by omega)
                subst hkn
                clear q1 hrest HOV
                have PRV2 : (¬ (0 : Int) < (k : Int) ∧ decide ((0 : Int) < (k : Int)) = false ∧ decide (0 < k) = false) ∨ (0 < k ∧ decide ((0 : Int) < (k : Int)) = true ∧ decide (0 < k) = true ∧ ∃ k' x3, k' < n2 ∧ IntKind.i64.wrap ((k : Int) - 1) = (k' : Int) ∧ wr.cell? ⟨b2, off2 + k' * 3, none⟩ = some (.int .i64 x3) ∧ ¬ (kn : Int) ≤ x3 ∧ decide ((kn : Int) ≤ x3) = false) := by
                  by_cases hk0 : 0 < k
                  · right
                    obtain ⟨k', b3, x3, e1, e2, e3, e4, e5, _⟩ := PRV.out hk0
                    exact ⟨hk0, by simpa using hk0, by simpa using hk0, k', x3, e2, e3, e4, e5, by simpa using e5⟩
                  · left
                    exact ⟨by omega, by simpa using hk0, by simpa using hk0⟩
                clear PRV
                have hd0 : decide ((kn : Int) < 0) = false := by simp
                rcases PRV2 with ⟨z1, z2, z3⟩ | ⟨z1, z2, z3, k', x3, z4, z5, z6, z7, z8⟩
                all_goals
                  by_cases r0 : T ≤ kn
                  · have hE13 := BDk.out 13 (by rw [HREST.out, if_pos (.inl (by omega))]) (by decide)
                    subst hE13
                    obtain rfl := HNIL.out (by decide)
                    obtain rfl : 0 = mb := HMB.out
                    clear HNIL HYES EN BD RC BDk RCk KB FD OA HREST
                    go_wp2
                    go_ret2
                    exact ⟨none, 0, rfl, Ints.nil _, hbw, Newer.nil _⟩
                  · obtain ⟨g, hg, hc⟩ := OA.out kn (by omega)
                    subst hg
                    have hcr := (hbel.out.cell (cell_lt hc)).trans hc
                    obtain ⟨y, hy⟩ : ∃ y, b.flatten.getD kn 0 = y := ⟨_, rfl⟩
                    rw [hy] at hcr
                    have HRY : Hid (entAt21 b.flatten none (ov21 o) k = if y = 3 then rdE s countS else 13) := by
                      rw [HREST.out, Int.toNat_natCast, hy]
                      by_cases hy3 : y = 3
                      · rw [if_neg (fun e => e.elim (fun e => by omega) (fun e => e hy3)), if_pos hy3]; exact Lib.hid rfl
                      · rw [if_pos (.inr hy3), if_neg hy3]; exact Lib.hid rfl
                    clear HREST hc hy
                    by_cases r1 : y = 3
                    · have HRE : Hid (entAt21 b.flatten none (ov21 o) k = rdE s countS) := by rw [HRY.out, if_pos r1]; exact Lib.hid rfl
                      subst r1
                      obtain ⟨rv, hrv⟩ : ∃ rv, rdV s countS 0 = rv := ⟨_, rfl⟩
                      obtain ⟨re, hre⟩ : ∃ re, rdE s countS = re := ⟨_, rfl⟩
                      rw [hrv, hre] at RCk
                      rw [hre] at HRE
                      clear HRY hrv hre
                      by_cases r2 : re = 0
                      · have HJN : Hid (∀ j, j < k + 1 → entAt21 b.flatten none (ov21 o) j = 0) := fun j hj => by
                          by_cases ej : j = k
                          · rw [ej, HRE.out, r2]
                          · exact hJ.out j (by omega)
                        subst r2
                        clear HNIL HYES EN BD RC BDk KB FD OA HRE hJ
                        go_wp2_with (go_at_call 22; (with_reducible refine (RCk.out _).mono ?_); rintro e w5 ⟨rfl, hb5⟩; have HB5 := Lib.hid (hbel.out.trans (hb5.mono hbel.out.size)); clear hb5)
                        go_roundw
                        all_goals first
                          | exact ⟨k + 1, by omega, by push_cast; rfl, HJN, HB5⟩
                          | (simp only [intOf]; omega)
                      · have hEr := BDk.out re HRE.out r2
                        subst hEr
                        obtain rfl := HNIL.out r2
                        obtain rfl : 0 = mb := HMB.out
                        have hreb : (E != 0) = true := by simpa using r2
                        clear HNIL HYES EN BD RC BDk KB FD OA HRE hJ
                        go_wp2_with (go_at_call 22; (with_reducible refine (RCk.out _).mono ?_); rintro e w5 ⟨rfl, hb5⟩; have HB5 := Lib.hid (hbw.trans (hb5.mono hbw.size)); clear hb5)
                        go_ret2
                        exact ⟨none, 0, rfl, Ints.nil _, HB5.out, Newer.nil _⟩
                    · have hE13 := BDk.out 13 (by rw [HRY.out, if_neg r1]) (by decide)
                      subst hE13
                      obtain rfl := HNIL.out (by decide)
                      obtain rfl : 0 = mb := HMB.out
                      have hyb : (y != 3) = true := by simpa using r1
                      clear HNIL HYES EN BD RC BDk RCk KB FD OA HRY
                      go_wp2
                      go_ret2
                      exact ⟨none, 0, rfl, Ints.nil _, hbw, Newer.nil _⟩
          · obtain rfl : k = n2 := by omega
            obtain ⟨en1, en2⟩ := EN.out hJ.out
            have EN1 := Lib.hid en1
            have EN2 := Lib.hid en2
            have HO2 : Hid (wr.ownsRow w.heap.size 3 1 (.slice Ao T co) T (i64s (mix21 b.flatten (ov21 o) 0))) := by
              rw [mix21_zero]
              exact Lib.hid (own_keptS HO1.out fun p _ hp => hbel.out.block p hp)
            have HB2 := Lib.hid (HB1.out.trans (hbel.out.mono HB1.out.size))
            have RD0 : Hid (∀ j, j < k → rdE (o.getD j (0, [], 0)).2.1 countS = 0) := fun j hj => by
              have := entAt21_rd (hJ.out j hj)
              rwa [ov21_at] at this
            clear BD EN hbel HO1 HB1 OA en1 en2 hJ
            go_wp2
            go_loopw [12] (fun i wr => ∃ (j : Nat), j ≤ T ∧ i = .int .i64 j ∧ Hid (wr.ownsRow w.heap.size 3 1 (.slice Ao T co) T (i64s (mix21 b.flatten (ov21 o) j))) ∧ Hid (Below w.heap.size w wr) ∧ Hid (∀ q, q < j → b.flatten.getD q 0 = 3 → ∃ i, i < o.length ∧ (o.getD i (0, [], 0)).1 = (q : Int))) (fun i _ => T - (intOf i).toNat)
            case atStart => exact ⟨0, by omega, rfl, HO2, HB2, fun q hq => absurd hq (Nat.not_lt_zero _)⟩
            case round =>
              clear HO2 HB2
              obtain ⟨j, hj, rfl, hO, hbel, hF⟩ := hrel
              by_cases hlt2 : j < T
              · obtain ⟨g, rfl, hg1, hg2⟩ := rowR_form hO.out (by omega)
                have hjl : Hid (j < b.flatten.length) := by have := HT.out; exact Lib.hid (by omega)
                obtain ⟨y, hy⟩ : ∃ y, b.flatten.getD j 0 = y := ⟨_, rfl⟩
                have hcy := rowR_at hO.out (i64s_at21 (mix21_at (o := ov21 o) hjl.out))
                rw [hy] at hcy
                have HY := Lib.hid hy
                clear hy
                by_cases h3 : y = 3
                · rcases least21 (P := fun i => (o.getD i (0, [], 0)).1 = (j : Int)) (fun i => Decidable.em _) o.length with hno | ⟨i, hi, hik, hib⟩
                  · have FDj : Hid (Calls Try.prog 23 #[.slice A2 k c2, .int .i64 (j : Int)] wr fun e w' => e = .returned (.int .i64 (-1)) ∧ wr = w') := (FD wr hbel (j : Int)).out.mono fun e w' ⟨⟨z, h1, h2⟩, h4⟩ => ⟨by rw [h1, at21_none h2 hno], h4⟩
                    obtain rfl := EN1.out (full21_no hjl.out (HY.out.trans h3) hno)
                    obtain rfl := HNIL.out (by decide)
                    obtain rfl : 0 = mb := HMB.out
                    subst h3
                    clear HNIL HYES EN1 EN2 RC KB FD hno hF RD0 hjl
                    go_wp2_with (go_at_call 23; (with_reducible refine (FDj.out).mono ?_); rintro e w4 ⟨rfl, rfl⟩)
                    go_ret2
                    exact ⟨none, 0, rfl, Ints.nil _, hbel.out, Newer.nil _⟩
                  · have hin : i < k := by have := HL2.out; omega
                    have FDj : Hid (Calls Try.prog 23 #[.slice A2 k c2, .int .i64 (j : Int)] wr fun e w' => e = .returned (.int .i64 (i : Int)) ∧ wr = w') := (FD wr hbel (j : Int)).out.mono fun e w' ⟨⟨z, h1, h2⟩, h4⟩ => ⟨by rw [h1, at21_some h2 hi hik hib], h4⟩
                    obtain ⟨b2, off2, x, s, t, rfl, hb2, hx, d0, d1, d2⟩ := ens21_at HN2.out hin
                    have g1 := (hbel.out.cell (p := ⟨b2, off2 + i * 3 + 1, none⟩) hb2).trans d1
                    have RCk := Lib.hid (fun W => RC.out i x s t W hin hx)
                    have hx' : o.getD i (0, [], 0) = (x, s, t) := hx
                    have hmix := mix21_three (o := o) hjl.out (HY.out.trans h3) hi hik hib (RD0.out i hin)
                    rw [hx'] at hmix
                    have HMIX : Hid ((mix21 b.flatten (ov21 o) j).set j (rdV s countS 0) = mix21 b.flatten (ov21 o) (j + 1)) := hmix
                    have HFN : Hid (∀ q, q < j + 1 → b.flatten.getD q 0 = 3 → ∃ i, i < o.length ∧ (o.getD i (0, [], 0)).1 = (q : Int)) := fun q hq hq3 => by
                      by_cases eq : q = j
                      · rw [eq]; exact ⟨i, hi, hik⟩
                      · exact hF.out q (by omega) hq3
                    have hi0 : decide ((i : Int) < 0) = false := by simp
                    subst h3
                    generalize rdV s countS 0 = rv at *
                    generalize rdE s countS = re at *
                    clear HNIL HYES EN1 EN2 RC KB FD hF RD0 hmix hx hx' d0 d1 d2 hik hib hi
                    go_wp2_with (first
                      | (go_at_call 23; (with_reducible refine (FDj.out).mono ?_); rintro e w4 ⟨rfl, rfl⟩)
                      | (go_at_call 22; (with_reducible refine (RCk.out _).mono ?_); rintro e w5 ⟨rfl, hb5⟩; have HB5 := Lib.hid (hbel.out.trans (hb5.mono hbel.out.size)); have HO5 := Lib.hid (own_keptS hO.out fun p _ hp => hb5.block p hp); have c5 := rowR_at HO5.out (i64s_at21 (mix21_at (o := ov21 o) hjl.out)); have f5 := rowR_free HO5.out j; rw [HY.out] at c5; clear hb5))
                    go_roundw
                    case rel =>
                      refine ⟨j + 1, by omega, by push_cast; rfl, ?_, ?_, HFN⟩
                      · have := rowR_set HO5.out (j := j) (by omega) (.int .i64 rv)
                        rw [i64s_set21, HMIX.out] at this
                        exact this
                      · exact HB5.out.setCell (p := ⟨g, j, none⟩) hg1 _
                    case measure => simp [intOf]; omega
                · have HSM := Lib.hid (mix21_same (o := ov21 o) hjl.out (by rw [HY.out]; exact h3))
                  have HFN : Hid (∀ q, q < j + 1 → b.flatten.getD q 0 = 3 → ∃ i, i < o.length ∧ (o.getD i (0, [], 0)).1 = (q : Int)) := fun q hq hq3 => by
                    by_cases eq : q = j
                    · rw [eq, HY.out] at hq3; exact absurd hq3 h3
                    · exact hF.out q (by omega) hq3
                  have hyb : (y != 3) = true := by simpa using h3
                  clear HNIL HYES EN1 EN2 RC KB FD hF RD0
                  go_wp2
                  go_roundw
                  case rel => exact ⟨j + 1, by omega, by push_cast; rfl, by rw [HSM.out]; exact hO, hbel, HFN⟩
                  case measure => simp [intOf]; omega
              · obtain rfl : j = T := by omega
                have hfull : full21 b.flatten (ov21 o) := full21_of fun q hq h3 => hF.out q (by have := HT.out; omega) h3
                obtain rfl := EN2.out hfull
                obtain rfl := HYES.out rfl
                have hO2 := hO.out
                rw [HT.out, mix21_all] at hO2
                have hlen : (fill21 b.flatten (ov21 o)).length = j := by rw [fill21_length, HT.out]
                rw [← HT.out] at hO2
                obtain ⟨A5, c5, e5, hI⟩ := Ints.of_own hO2
                cases e5
                obtain rfl : j = mb := by rw [← HMB.out]; exact hlen.symm
                have HI := Lib.hid hI
                have HNW := Lib.hid (Newer.of_own hO2)
                clear HNIL HYES EN1 EN2 RC KB FD hF RD0 hI hO2 hO hfull hlen
                go_wp2
                go_ret2
                exact ⟨_, _, rfl, HI.out, hbel.out, HNW.out⟩
  · have FO := Lib.hid (refForm_any21 A n c b w h false (by simp [hf]))
    obtain rfl : E = 7 := by rw [← hE]; exact if_neg hf
    obtain rfl := HNIL.out (by decide)
    obtain rfl : 0 = mb := HMB.out
    clear h h2 hE hf HNIL HYES hl hl2
    go_enter Try.func13, Try.ntmps13
    go_wp2_with (go_at_call 21; (with_reducible refine (FO.out).mono ?_); rintro e w1 ⟨rfl, rfl⟩)
    go_ret2
    exact ⟨none, 0, rfl, Ints.nil _, Below.refl _ _, Newer.nil _⟩
theorem refJoin_any21 (A A2 : Option Addr) (n c n2 c2 : Nat) (b : List (List Int)) (o : List Ent21) (w : World) (h : Mat w A n c b) (h2 : Ens w A2 n2 c2 o) (ht : tot21 b ≤ 100000000) (hbd : ∀ q ∈ o, (-9223372036854775808 ≤ q.1 ∧ q.1 ≤ 9223372036854775807) ∧ q.2.1.length ≤ 9223372036854775807) :
    Calls Try.prog 13 #[.slice A n c, .slice A2 n2 c2] w fun e w' => ∃ A' c', e = .returned (.tuple #[.slice A' (joinL21 b (ov21 o)).length c', .int .i64 (joinE21 b (ov21 o))]) ∧ Ints w' A' (joinL21 b (ov21 o)).length c' (joinL21 b (ov21 o)) ∧ Below w.heap.size w w' :=
  (refJoin_any21F A A2 n c n2 c2 b o w h h2 ht hbd).mono fun e w' ⟨A', c', h1, h2, h3, _⟩ => ⟨A', c', h1, h2, h3⟩
end Go.Proofs.Ytoacgoelhidmbaa
