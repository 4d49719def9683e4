/-
  Layer 8: lives; values as texts.
-/
import Derived.Test.YtolapeocdaknjaaValH
namespace Go.Proofs.Ytolapeocdaknjaa
open Go.RowKit
set_option linter.unusedVariables false
set_option linter.unusedSimpArgs false

theorem map_example : mapB 1 2 = [2, 0, 0, 1, 0, 0, 0, 0] := by decide +kernel

/-- the bytes of a text -/
abbrev bs (y : ByteArray) : List UInt8 := y.data.toList
theorem mk_bs (y : ByteArray) : (⟨(bs y).toArray⟩ : ByteArray) = y := by
  apply ByteArray.ext
  simp
theorem bs_len (y : ByteArray) : (bs y).length = y.size := Array.length_toList

/-- of what is read the value is that -/
theorem rdV_build {s : List UInt8} {ns : List NumS} (h : rdE s ns = 0) : ns.zip ((List.range ns.length).map (rdV s ns)) = ns.zip (psI s ns) := by
  congr 1
  apply List.ext_getElem
  · simp [psI, partsN_length]
  · intro i h1 h2
    simp only [List.getElem_map, List.getElem_range, rdV, if_pos h, List.getD_eq_getElem?_getD, List.getElem?_eq_getElem h2, Option.getD_some]
theorem rdV_back {s : List UInt8} {ns : List NumS} (h : rdE s ns = 0) : bldP (ns.zip ((List.range ns.length).map (rdV s ns))) = s := by
  rw [rdV_build h]
  exact built_read h
theorem psI_bd (s : List UInt8) (ns : List NumS) (h : okR s ns = true) (hf : ∀ p ∈ ns, fitN p) : ∀ v ∈ psI s ns, i64b v := by
  intro v hv
  obtain ⟨i, hi, rfl⟩ := List.mem_iff_getElem.1 hv
  have hi2 : i < ns.length := by simpa [psI, partsN_length] using hi
  have hm : (ns[i], (psI s ns)[i]) ∈ ns.zip (psI s ns) := by
    refine List.mem_iff_getElem.2 ⟨i, by rw [List.length_zip]; omega, by simp⟩
  have := List.all_eq_true.1 (show (ns.zip (psI s ns)).all (fun p => inB p.2 p.1.2.1 p.1.2.2) = true from h) _ hm
  rw [inB_iff] at this
  obtain ⟨_, _, f3, f4, _⟩ := hf ns[i] (List.getElem_mem _)
  simp only [i64b] at *
  omega
theorem rdV_bd (s : List UInt8) (ns : List NumS) (hf : ∀ p ∈ ns, fitN p) (k : Nat) : i64b (rdV s ns k) := by
  unfold rdV
  split
  · rename_i h
    have hok : okR s ns = true := by
      unfold rdE at h
      split at h
      · cases h
      · split at h
        · assumption
        · cases h
    rw [List.getD_eq_getElem?_getD]
    by_cases hk : k < (psI s ns).length
    · rw [List.getElem?_eq_getElem hk]
      exact psI_bd s ns hok hf _ (List.getElem_mem _)
    · rw [List.getElem?_eq_none (by omega)]
      simp [i64b]
  · simp [i64b]

end Go.Proofs.Ytolapeocdaknjaa
