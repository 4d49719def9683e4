/-
  The reference's Bytes, Read.
-/
import Derived.Test.YtadoclbalcecpaaImgF
namespace Go.Proofs.Ytadoclbalcecpaa
open Go.RowKit
set_option linter.unusedVariables false
set_option linter.unusedSimpArgs false

theorem strCells_txt (l : List UInt8) : Lib.strCells ⟨l.toArray⟩ = u8s l := by simp [Lib.strCells, u8s]

theorem flatten_take_succ (L : List (List UInt8)) (k : Nat) (h : k < L.length) : (L.take (k + 1)).flatten = (L.take k).flatten ++ L[k] := by
  rw [List.take_succ_eq_append_getElem h, List.flatten_append]
  simp
theorem flatten_take_le (L : List (List UInt8)) (k : Nat) : (L.take k).flatten.length ≤ L.flatten.length := by
  conv => rhs; rw [← List.take_append_drop k L, List.flatten_append, List.length_append]
  omega

set_option maxRecDepth 100000 in
set_option maxHeartbeats 1600000 in
theorem refBytes_any {B p : Nat} {v : Value} {L : List (List UInt8)} (w : World) (h : RImg w B p v L) (hm : L.flatten.length ≤ 3686400) :
    Calls Try.prog 18 #[.pointer (some ⟨p, 0, none⟩)] w fun e w' => ∃ A c, e = .returned (.slice A L.flatten.length c) ∧ Bytes8 w' A L.flatten.length c L.flatten ∧ Below w.heap.size w w' := by
  obtain ⟨A, c, rfl, hcap, hmost, hcell, hrow⟩ := h.form
  obtain ⟨i0, hi0, hz0, hz1, hz2⟩ := info_parts info_byte
  have hp := h.plt
  have HRw := Lib.hid hrow
  have HM := Lib.hid hm
  have HB : Hid (∀ W, Below w.heap.size w W → W.cell? ⟨p, 0, none⟩ = some (.slice A L.length c)) := fun W hb => (hb.cell (p := ⟨p, 0, none⟩) hp).trans hcell
  obtain ⟨n, hn⟩ : ∃ n, n = L.length := ⟨_, rfl⟩
  have HN := Lib.hid hn
  rw [← hn] at hcap hcell HB
  clear h hrow hm hn
  go_enter Try.func18, Try.ntmps18
  go_wp2
  go_loopw [3, 4] (fun s i wr => ∃ j : Nat, j ≤ n ∧ i = .int .i64 j ∧ Below w.heap.size w wr ∧ Hid (wr.ownsRow w.heap.size 5 1 s (L.take j).flatten.length (u8s (L.take j).flatten))) (fun _ i _ => n - (intOf i).toNat)
  case atStart => exact ⟨0, by omega, rfl, Below.refl _ _, World.ownsRow_nil _ _ _ _⟩
  case round =>
    obtain ⟨j, hj, rfl, hbel, hown⟩ := hrel
    have hc0 := HB.out _ hbel
    by_cases hlt : j < n
    · have hjl : j < L.length := by have := HN.out; omega
      obtain ⟨b, off, rfl, hb, hcs⟩ := HRw.out.lit (by rw [txts_length]; omega)
      have hc1 : wr.cell? ⟨b, off + j, none⟩ = some (.string ⟨L[j].toArray⟩) := (hbel.cell (p := ⟨b, off + j, none⟩) hb).trans (hcs j _ (txts_at L j hjl))
      have hlen : (L.take (j + 1)).flatten.length ≤ 3686400 := Nat.le_trans (flatten_take_le L (j + 1)) HM.out
      rw [flatten_take_succ L j hjl, List.length_append] at hlen
      have HF := Lib.hid (flatten_take_succ L j hjl)
      have hsz := hbel.size
      have HT := Lib.hid (strCells_txt L[j])
      have hsl : (ByteArray.mk L[j].toArray).size = L[j].length := by simp [ByteArray.size]
      clear hcs
      generalize L[j] = t at *
      go_wp2_with (at_builtin; go_must (refine Lib.wpList_append_own_string wr rfl _ _ 22 9 rfl w.heap.size 5 i0 Try.underlying22 Try.underlying9 hi0 hz0 hz1 hz2 u3 _ _ rfl hown.out ⟨t.toArray⟩ rfl (by rw [hsl]; simp only [maxLen]; omega) (by rw [hsl]; omega) hsz ?_; intro v2 w2 hown2 hg2 _; have hb2 := (Below.refl w.heap.size wr).grown hg2 hsz (fun k hk => (hown.out.lt k hk).1)))
      go_roundw
      case rel =>
        refine ⟨j + 1, by omega, by go_num, hbel.trans hb2, ?_⟩
        rw [HF.out, List.length_append, u8s_append, ← HT.out, ← hsl]
        exact hown2
      case measure => simp [intOf]; omega
    · obtain rfl : j = n := by omega
      have hx := hown.out
      rw [List.take_of_length_le (by have := HN.out; omega)] at hx
      obtain ⟨A', c', hv, hB⟩ := Bytes8.of_own hx
      rw [hv]
      clear hown hx
      go_wp2
      go_ret
      exact ⟨A', c', rfl, hB, hbel⟩

end Go.Proofs.Ytadoclbalcecpaa
