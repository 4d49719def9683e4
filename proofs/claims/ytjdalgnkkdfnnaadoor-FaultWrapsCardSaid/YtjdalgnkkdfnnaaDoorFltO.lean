/-
  fault.At, fault.First; the law's Own.
-/
import Derived.Test.YtjdalgnkkdfnnaaDoorFltM
import Derived.Test.YtjdalgnkkdfnnaaDoorFltJ
import Derived.LoopTactic
namespace Go.Proofs.YtjdalgnkkdfnnaaDoor
open Go.RowKit
set_option linter.unusedVariables false
set_option linter.unusedSimpArgs false

theorem Good.lower {w : World} : ∀ {l : List Node}, Good w l → Lower w.heap.size l
  | [], _ => fun b q h => by cases h
  | .flt b p :: l, ⟨h1, h2, h3, h4⟩ => fun c q h => by
    rcases List.mem_cons.1 h with h | h
    · injection h with h5 h6; subst h6; exact block_lt h1
    · exact Good.lower h4 c q h
  | .oth :: l, ⟨h1, h2⟩ => fun c q h => by
    rcases List.mem_cons.1 h with h | h
    · cases h
    · exact Good.lower h2 c q h
  | .num n :: l, h => fun c q h2 => by
    have h : l = [] := h
    subst h
    rcases List.mem_cons.1 h2 with h2 | h2
    · cases h2
    · cases h2

/-- a Fault around an error -/
theorem Good.wrap {w : World} {l : List Node} (h : Good w l) (hne : l ≠ []) (b : Int) : Good (w.alloc (.cells #[.int .i64 b, val l] 51)) (.flt b w.heap.size :: l) :=
  ⟨(MapKept.heap_alloc w _).1, h.lower, hne, h.below ((Below.refl _ _).alloc (Nat.le_refl _) _)⟩

theorem At_nil (b : Int) (w : World) :
    Calls Tryd.prog 14 #[.int .i64 b, .nilIface] w fun e w' => e = .returned .nilIface ∧ w = w' := by
  go_enter Tryd.func14, Tryd.ntmps14
  go_wp2
  go_ret
  exact ⟨rfl, rfl⟩

theorem At_err (b : Int) {l : List Node} (hne : l ≠ []) {w : World} (hG : Good w l) :
    Calls Tryd.prog 14 #[.int .i64 b, val l] w fun e w' => ∃ p, e = .returned (val (.flt b p :: l)) ∧ Good w' (.flt b p :: l) ∧ Below w.heap.size w w' := by
  have HW := Lib.hid (hG.wrap hne b)
  obtain ⟨t, u, hv⟩ : ∃ t u, val l = .iface t u := by
    cases l with
    | nil => exact absurd rfl hne
    | cons x l => cases x <;> exact ⟨_, _, rfl⟩
  have hb := build_fault b (isI_val l)
  rw [hv] at HW hb ⊢
  clear hv hG
  go_enter Tryd.func14, Tryd.ntmps14
  go_wp2
  go_ret
  exact ⟨_, rfl, HW.out, (Below.refl _ _).alloc (Nat.le_refl _) _⟩

/-- the law's chain: blocks, and a number behind them -/
def Chain : List Int → Int → List Node → Prop
  | [], code, l => l = [.num code]
  | b :: bs, code, l => ∃ p l', l = .flt b p :: l' ∧ Chain bs code l'

theorem Chain.ne : ∀ {bs : List Int} {code : Int} {l : List Node}, Chain bs code l → l ≠ []
  | [], _, _, h => by rw [show _ = _ from h]; simp
  | _ :: _, _, _, ⟨p, l', h, _⟩ => by rw [h]; simp
theorem Chain.blocks : ∀ {bs : List Int} {code : Int} {l : List Node}, Chain bs code l → blocksOf l = bs
  | [], _, _, h => by rw [show _ = _ from h]; rfl
  | _ :: _, _, _, ⟨p, l', h, h2⟩ => by rw [h]; simp [blocksOf, h2.blocks]
theorem Chain.ans : ∀ {bs : List Int} {code : Int} {l : List Node}, Chain bs code l → ans l = some code
  | [], _, _, h => by rw [show _ = _ from h]; rfl
  | _ :: _, _, _, ⟨p, l', h, h2⟩ => by rw [h]; exact h2.ans
theorem Chain.len : ∀ {bs : List Int} {code : Int} {l : List Node}, Chain bs code l → l.length = bs.length + 1
  | [], _, _, h => by rw [show _ = _ from h]; rfl
  | _ :: _, _, _, ⟨p, l', h, h2⟩ => by rw [h]; simp [h2.len]
theorem Chain.plain : ∀ {bs : List Int} {code : Int} {l : List Node}, Chain bs code l → Plain l
  | [], _, _, h => by rw [show _ = _ from h]; simp [Plain]
  | _ :: _, _, _, ⟨p, l', h, h2⟩ => by
    have := h2.plain
    rw [h]
    intro hm
    rcases List.mem_cons.1 hm with h3 | h3
    · cases h3
    · exact this h3
theorem Chain.fits : ∀ {bs : List Int} {code : Int} {l : List Node}, Chain bs code l → (∀ b ∈ bs, -9223372036854775808 ≤ b ∧ b ≤ 9223372036854775807) → (-9223372036854775808 ≤ code ∧ code ≤ 9223372036854775807) → Fits l
  | [], _, _, h, _, h2 => by rw [show _ = _ from h]; exact ⟨h2, trivial⟩
  | b :: _, _, _, ⟨p, l', h, h2⟩, h3, h4 => by
    rw [h]
    exact ⟨h3 b (List.mem_cons_self), h2.fits (fun x hx => h3 x (List.mem_cons_of_mem _ hx)) h4⟩
/-- the text of blocks and a number -/
def textL (bs : List Int) (code : Int) : List UInt8 := (bs.map fun b => sBlock ++ Lib.itoa b ++ sColon).flatten ++ (sError ++ Lib.itoa code)
theorem Chain.text : ∀ {bs : List Int} {code : Int} {l : List Node}, Chain bs code l → textOf l = textL bs code
  | [], _, _, h => by rw [show _ = _ from h]; rfl
  | _ :: _, _, _, ⟨p, l', h, h2⟩ => by rw [h]; simp [textOf, textL, h2.text]
theorem Chain.code {bs : List Int} {code : Int} {l : List Node} (h : Chain bs code l) : codeOf l = code := by
  have h1 := h.ans
  cases l with
  | nil => exact absurd rfl h.ne
  | cons x l => simp only [codeOf, h1]

/-- a struct of blocks and a number, as a value -/
def rf (A : Option Addr) (n c : Nat) (code : Int) : Value := .agg #[.slice A n c, .int .i64 code]

theorem Own_nil (A : Option Addr) (n c : Nat) (w : World) :
    Calls Tryd.prog 8 #[rf A n c 0] w fun e w' => e = .returned .nilIface ∧ Below w.heap.size w w' := by
  simp only [rf]
  go_enter Tryd.func8, Tryd.ntmps8
  go_wp2
  go_ret
  exact ⟨rfl, (Below.refl _ _).alloc (Nat.le_refl _) _⟩

set_option maxRecDepth 100000 in
set_option maxHeartbeats 1000000 in
theorem Own_err {A : Option Addr} {n c : Nat} {bs : List Int} {code : Int} (hc : code ≠ 0) {w : World} (hI : Ints w A n c bs) :
    Calls Tryd.prog 8 #[rf A n c code] w fun e w' => ∃ l, e = .returned (val l) ∧ Chain bs code l ∧ Good w' l ∧ Below w.heap.size w w' := by
  simp only [rf]
  have hlen := hI.len
  have hle := hI.le
  have hc2 : (code == 0) = false := by simpa using hc
  have HI := Lib.hid hI
  have HLn := Lib.hid hlen
  clear hI hc hlen
  have b0 : Below w.heap.size w (w.alloc (.cells #[.slice A n c, .int .i64 code] 24)) := (Below.refl _ _).alloc (Nat.le_refl _) _
  have h0 := (MapKept.heap_alloc w (.cells #[.slice A n c, .int .i64 code] 24)).1
  have HB0 := Lib.hid b0
  have HH0 := Lib.hid h0
  clear b0 h0
  go_enter Tryd.func8, Tryd.ntmps8
  go_wp2
  go_loopw [3, 4] (fun e i wr => ∃ (k : Nat) (j : Int) (l : List Node), k ≤ n ∧ j = (k : Int) - 1 ∧ i = .int .i64 j ∧ e = val l ∧ Hid (Chain (bs.drop k) code l) ∧ Hid (Good wr l) ∧ Hid (Below (w.heap.size + 1) (w.alloc (.cells #[.slice A n c, .int .i64 code] 24)) wr)) (fun e i _ => (intOf i + 1).toNat)
  case atStart => exact ⟨n, _, [.num code], Nat.le_refl _, rfl, rfl, rfl, by rw [← HLn.out, List.drop_length]; rfl, rfl, Below.refl _ _⟩
  case round =>
    obtain ⟨k, j, l, hk, hj, rfl, rfl, HC, HG, HB⟩ := hrel
    have hh : wr.heap[w.heap.size]? = some (.cells #[.slice A n c, .int .i64 code] 24 (0, 0)) := (HB.out.block _ (by omega)).trans HH0.out
    have c0 : wr.cell? ⟨w.heap.size, 0, none⟩ = some (.slice A n c) := by rw [cell_of_row wr w.heap.size 0 _ _ _ hh]; rfl
    have hbel := HB0.out.trans (HB.out.mono (by omega))
    have HBel := Lib.hid hbel
    cases k with
    | zero =>
      have hj1 : j ≤ -1 := by omega
      have hj2 : ¬ 0 ≤ j := by omega
      clear hj
      have HC0 : Hid (Chain bs code l) := HC
      have hI := isI_val l
      generalize hv : val l = v at *
      have HV := Lib.hid hv
      clear hv hI hbel hh
      go_wp2
      go_ret
      exact ⟨l, by rw [HV.out]; rfl, HC0.out, HG.out, HBel.out⟩
    | succ q =>
      obtain rfl : j = (q : Int) := by omega
      clear hj
      have hq : q < bs.length := by have := HLn.out; omega
      obtain ⟨blk, off, rfl, hb, hcell⟩ := HI.out.row.lit (by rw [i64s_length]; omega)
      have hcq : wr.cell? ⟨blk, off + q, none⟩ = some (.int .i64 bs[q]) := (hbel.cell (p := ⟨blk, off + q, none⟩) hb).trans (hcell _ _ (i64s_at bs q hq))
      have HCd : Hid (bs.drop q = bs[q] :: bs.drop (q + 1)) := List.drop_eq_getElem_cons hq
      generalize bs[q] = b at *
      have HW := Lib.hid (HG.out.wrap HC.out.ne b)
      have bf := build_fault b (isI_val l)
      obtain ⟨t, u, hv⟩ : ∃ t u, val l = .iface t u := by
        rcases isI_val l with h | h
        · have := HC.out.ne
          cases l with
          | nil => exact absurd rfl this
          | cons x l => cases x <;> cases h
        · exact h
      rw [hv] at HW bf ⊢
      have HVV := Lib.hid hv
      clear hv hcell hbel hh
      go_wp2
      go_roundw
      case rel => exact ⟨q, _, .flt b wr.heap.size :: l, by omega, rfl, rfl, rfl, by rw [HCd.out]; exact ⟨_, _, rfl, HC.out⟩, HVV.out ▸ HW.out, HB.out.alloc (by have := HB.out.size; simp at this; omega) _⟩
      case measure =>
        simp only [intOf]; omega
end Go.Proofs.YtjdalgnkkdfnnaaDoor
