/-
  Layer 8's ReadMap, ReadDetail, ReadSlot, ReadRoot, ReadCount.
-/
import Derived.Test.YtebcbaejpebpfabValF
import Derived.Test.YtebcbaejpebpfabValD
import Derived.Laws.ResultCell
import Derived.OwnWalk
namespace Go.Proofs.Ytebcbaejpebpfab
open Go.RowKit
set_option linter.unusedVariables false
set_option linter.unusedSimpArgs false

/-- the number k of what is read; 0 with an error -/
def rdV (s : List UInt8) (ns : List NumS) (k : Nat) : Int := if rdE s ns = 0 then (psI s ns).getD k 0 else 0

theorem rdL_snd {s : List UInt8} {ns : List NumS} {k : Nat} (h : k < (rdL s ns).length) : (rdL s ns)[k].2 = (psI s ns).getD k 0 := by
  rw [← psI_rdL, List.getD_eq_getElem?_getD, List.getElem?_map, List.getElem?_eq_getElem h]
  rfl

theorem read_zero (w : World) (s : List UInt8) (hs : s.length ≤ 1000) (q n : Nat) (ns : List NumS) (hl : ns.length = n) (h0 : 0 < n) (hn : n ≤ 100) (hf : ∀ p ∈ ns, fitN p) (g o : Nat → Nat) (h : numRow w q (numC g o (rdL s ns) 0).toArray) (ht : TgtAt w n g o) (hgb : ∀ k, k < n → g k ≠ q)
    (hz : ∀ k, k < n → w.cell? ⟨g k, o k, none⟩ = some (.int .i64 0)) :
    Calls Try.prog 36 #[.string ⟨s.toArray⟩, .slice (some ⟨q, 0, none⟩) n n] w fun e w' => e = .returned (.int .i64 (rdE s ns)) ∧ Frm (tgtG n g) w w' ∧ ∀ k, k < n → w'.cell? ⟨g k, o k, none⟩ = some (.int .i64 (rdV s ns k)) := by
  refine (read_any w s hs q 0 n n ns g o (nums_new h (by rw [rdL_length]; exact hl) h0 hn (fit_zip hf _)) ht hgb).mono ?_
  rintro e w' ⟨rfl, hF, h1, h2⟩
  refine ⟨rfl, hF, fun k hk => ?_⟩
  by_cases he : rdE s ns = 0
  · have hkl : k < (rdL s ns).length := by rw [rdL_length]; omega
    rw [rdV, if_pos he, ← rdL_snd hkl]
    exact h2 he k hkl
  · rw [rdV, if_neg he]
    have hc := hz k hk
    exact ((h1 he).cell (p := ⟨g k, o k, none⟩) (cell_lt hc)).trans hc

/-! ### one integer in a variable -/
def IntVar (w : World) (g : Nat) (x : Int) : Prop := w.heap[g]? = some (.cells #[.int .i64 x] 3 (0, 0))
theorem IntVar.cell {w : World} {g : Nat} {x : Int} (h : IntVar w g x) : w.cell? ⟨g, 0, none⟩ = some (.int .i64 x) := by rw [cell_of_row w g 0 _ _ _ h]; rfl

set_option maxHeartbeats 400000 in
theorem ReadMap_any (w : World) (s : List UInt8) (hs : s.length ≤ 1000) :
    Calls Try.prog 18 #[.string ⟨s.toArray⟩] w fun e w' => e = .returned (.tuple #[.int .i64 (rdV s mapS 1), .int .i64 (rdV s mapS 0), .int .i64 (rdE s mapS)]) ∧ Below w.heap.size w w' := by
  have MP := Lib.hid (fun W => mapping_any W w.heap.size 0 (w.heap.size + 1) 0)
  obtain ⟨h1, h2, h3⟩ := two_new8 w (.cells #[.int .i64 0] 3) (.cells #[.int .i64 0] 3)
  have hz : ((w.alloc (.cells #[.int .i64 0] 3)).alloc (.cells #[.int .i64 0] 3)).heap.size = w.heap.size + 2 := by simp
  have RD : Hid (∀ (W : World) (q : Nat), w.heap.size + 2 ≤ q → Below (w.heap.size + 2) ((w.alloc (.cells #[.int .i64 0] 3)).alloc (.cells #[.int .i64 0] 3)) W → numRow W q #[.pointer (some ⟨w.heap.size + 1, 0, none⟩), .int .i64 3, .int .i64 0, .int .i64 16777215, .pointer (some ⟨w.heap.size, 0, none⟩), .int .i64 5, .int .i64 0, .int .i64 65535] →
      Calls Try.prog 36 #[.string ⟨s.toArray⟩, .slice (some ⟨q, 0, none⟩) 2 2] W fun e w' => e = .returned (.int .i64 (rdE s mapS)) ∧ Below w.heap.size w w' ∧ w'.cell? ⟨w.heap.size, 0, none⟩ = some (.int .i64 (rdV s mapS 1)) ∧ w'.cell? ⟨w.heap.size + 1, 0, none⟩ = some (.int .i64 (rdV s mapS 0))) := by
    intro W q hq hW hr
    have e1 : IntVar W (w.heap.size + 1) 0 := (hW.block _ (by omega)).trans h2
    have e0 : IntVar W w.heap.size 0 := (hW.block _ (by omega)).trans h1
    have hT : TgtAt W 2 (gM w.heap.size) o0 := ⟨fun k hk => by
        rcases (show k = 0 ∨ k = 1 by omega) with rfl | rfl
        · exact ⟨_, _, e1, by decide⟩
        · exact ⟨_, _, e0, by decide⟩, fun i j hij hj => by
        obtain ⟨rfl, rfl⟩ : i = 0 ∧ j = 1 := by omega
        intro h
        have : w.heap.size + 1 = w.heap.size := congrArg Addr.block h
        omega⟩
    refine (read_zero W s hs q 2 mapS rfl (by omega) (by omega) mapS_fit (gM w.heap.size) o0 hr hT ?_ ?_).mono ?_
    · intro k hk
      rcases (show k = 0 ∨ k = 1 by omega) with rfl | rfl
      · simp only [gM]; simp; omega
      · simp only [gM]; simp; omega
    · intro k hk
      rcases (show k = 0 ∨ k = 1 by omega) with rfl | rfl
      · exact e1.cell
      · exact e0.cell
    · rintro e w' ⟨rfl, hF, hv⟩
      refine ⟨rfl, hF.below (h3.trans (hW.mono (by omega))) ?_, hv 1 (by omega), hv 0 (by omega)⟩
      rintro x ⟨k, hk, rfl⟩
      rcases (show k = 0 ∨ k = 1 by omega) with rfl | rfl
      · simp only [gM]; simp
      · simp only [gM]; simp
  have H3 := Lib.hid h3
  have HZ := Lib.hid hz
  clear h1 h2 h3 hz hs
  generalize rdE s mapS = er at *
  generalize rdV s mapS 1 = v1 at *
  generalize rdV s mapS 0 = v0 at *
  go_enter Try.func18, Try.ntmps18
  go_wp2_with (first
    | (go_at_call 29; (with_reducible refine (MP.out _).mono ?_); rintro e w1 ⟨q, hq, rfl, hr, hb1⟩; rw [HZ.out] at hq hb1; have HQ := Lib.hid hq; have HR := Lib.hid hr; clear hq hr)
    | (go_at_call 36; (with_reducible refine (RD.out w1 q HQ.out hb1 HR.out).mono ?_); rintro e w2 ⟨rfl, hb2, c0, c1⟩))
  go_region
  all_goals go_wp2
  all_goals refine bodyPost_ret (results_tmp3 rfl _ _ _) rfl ?_
  all_goals exact ⟨rfl, hb2.drew⟩

set_option maxHeartbeats 400000 in
theorem ReadRoot_any (w : World) (s : List UInt8) (hs : s.length ≤ 1000) :
    Calls Try.prog 24 #[.string ⟨s.toArray⟩] w fun e w' => e = .returned (.tuple #[.int .i64 (rdV s rootS 0), .int .i64 (rdE s rootS)]) ∧ Below w.heap.size w w' := by
  have MP := Lib.hid (root_any (w.alloc (.cells #[.int .i64 0] 3)) w.heap.size 0)
  have h1 := heap_alloc_new w (.cells #[.int .i64 0] 3)
  have hb0 : Below w.heap.size w (w.alloc (.cells #[.int .i64 0] 3)) := (Below.refl _ _).alloc (Nat.le_refl _) _
  have hz : (w.alloc (.cells #[.int .i64 0] 3)).heap.size = w.heap.size + 1 := by simp
  have RD : Hid (∀ (W : World), Below (w.heap.size + 1) (w.alloc (.cells #[.int .i64 0] 3)) W →
      Calls Try.prog 36 #[.string ⟨s.toArray⟩, .slice (some ⟨W.heap.size, 0, none⟩) 1 1] (W.alloc (.cells #[.pointer (some ⟨w.heap.size, 0, none⟩), .int .i64 4, .int .i64 1, .int .i64 14399] 62)) fun e w' => e = .returned (.int .i64 (rdE s rootS)) ∧ Below w.heap.size w w' ∧ w'.cell? ⟨w.heap.size, 0, none⟩ = some (.int .i64 (rdV s rootS 0))) := by
    intro W hW
    have hWb : Below W.heap.size W (W.alloc (.cells #[.pointer (some ⟨w.heap.size, 0, none⟩), .int .i64 4, .int .i64 1, .int .i64 14399] 62)) := (Below.refl _ _).alloc (Nat.le_refl _) _
    have hsz := hW.size
    rw [hz] at hsz
    have e0 : IntVar (W.alloc (.cells #[.pointer (some ⟨w.heap.size, 0, none⟩), .int .i64 4, .int .i64 1, .int .i64 14399] 62)) w.heap.size 0 := (hWb.block _ (by omega)).trans ((hW.block _ (by omega)).trans h1)
    have hT : TgtAt (W.alloc (.cells #[.pointer (some ⟨w.heap.size, 0, none⟩), .int .i64 4, .int .i64 1, .int .i64 14399] 62)) 1 (fun _ => w.heap.size) o0 := ⟨fun k hk => ⟨_, _, e0, (by decide : (0 : Nat) < 1)⟩, fun i j hij hj => by omega⟩
    refine (read_zero _ s hs W.heap.size 1 rootS rfl (by omega) (by omega) rootS_fit (fun _ => w.heap.size) o0 (heap_alloc_new W _) hT ?_ ?_).mono ?_
    · intro k hk; simp; omega
    · intro k hk; exact e0.cell
    · rintro e w' ⟨rfl, hF, hv⟩
      refine ⟨rfl, hF.below ((hb0.trans (hW.mono (by omega))).trans (hWb.mono (by omega))) ?_, hv 0 (by omega)⟩
      rintro x ⟨k, hk, rfl⟩
      exact Nat.le_refl _
  have HZ := Lib.hid hz
  clear h1 hb0 hz hs
  generalize rdE s rootS = er at *
  generalize rdV s rootS 0 = v0 at *
  go_enter Try.func24, Try.ntmps24
  go_wp2_with (first
    | (go_at_call 34; (with_reducible refine (MP.out).mono ?_); rintro e w1 ⟨rfl, hb1⟩; rw [HZ.out] at hb1)
    | (go_at_call 36; (with_reducible refine (RD.out w1 hb1).mono ?_); rintro e w2 ⟨rfl, hb2, c0⟩))
  go_ret2
  exact ⟨rfl, hb2⟩

set_option maxHeartbeats 400000 in
theorem ReadCount_any (w : World) (s : List UInt8) (hs : s.length ≤ 1000) :
    Calls Try.prog 26 #[.string ⟨s.toArray⟩] w fun e w' => e = .returned (.tuple #[.int .i64 (rdV s countS 0), .int .i64 (rdE s countS)]) ∧ Below w.heap.size w w' := by
  have MP := Lib.hid (count_any (w.alloc (.cells #[.int .i64 0] 3)) w.heap.size 0)
  have h1 := heap_alloc_new w (.cells #[.int .i64 0] 3)
  have hb0 : Below w.heap.size w (w.alloc (.cells #[.int .i64 0] 3)) := (Below.refl _ _).alloc (Nat.le_refl _) _
  have hz : (w.alloc (.cells #[.int .i64 0] 3)).heap.size = w.heap.size + 1 := by simp
  have RD : Hid (∀ (W : World), Below (w.heap.size + 1) (w.alloc (.cells #[.int .i64 0] 3)) W →
      Calls Try.prog 36 #[.string ⟨s.toArray⟩, .slice (some ⟨W.heap.size, 0, none⟩) 1 1] (W.alloc (.cells #[.pointer (some ⟨w.heap.size, 0, none⟩), .int .i64 4, .int .i64 3, .int .i64 2147483647] 62)) fun e w' => e = .returned (.int .i64 (rdE s countS)) ∧ Below w.heap.size w w' ∧ w'.cell? ⟨w.heap.size, 0, none⟩ = some (.int .i64 (rdV s countS 0))) := by
    intro W hW
    have hWb : Below W.heap.size W (W.alloc (.cells #[.pointer (some ⟨w.heap.size, 0, none⟩), .int .i64 4, .int .i64 3, .int .i64 2147483647] 62)) := (Below.refl _ _).alloc (Nat.le_refl _) _
    have hsz := hW.size
    rw [hz] at hsz
    have e0 : IntVar (W.alloc (.cells #[.pointer (some ⟨w.heap.size, 0, none⟩), .int .i64 4, .int .i64 3, .int .i64 2147483647] 62)) w.heap.size 0 := (hWb.block _ (by omega)).trans ((hW.block _ (by omega)).trans h1)
    have hT : TgtAt (W.alloc (.cells #[.pointer (some ⟨w.heap.size, 0, none⟩), .int .i64 4, .int .i64 3, .int .i64 2147483647] 62)) 1 (fun _ => w.heap.size) o0 := ⟨fun k hk => ⟨_, _, e0, (by decide : (0 : Nat) < 1)⟩, fun i j hij hj => by omega⟩
    refine (read_zero _ s hs W.heap.size 1 countS rfl (by omega) (by omega) countS_fit (fun _ => w.heap.size) o0 (heap_alloc_new W _) hT ?_ ?_).mono ?_
    · intro k hk; simp; omega
    · intro k hk; exact e0.cell
    · rintro e w' ⟨rfl, hF, hv⟩
      refine ⟨rfl, hF.below ((hb0.trans (hW.mono (by omega))).trans (hWb.mono (by omega))) ?_, hv 0 (by omega)⟩
      rintro x ⟨k, hk, rfl⟩
      exact Nat.le_refl _
  have HZ := Lib.hid hz
  clear h1 hb0 hz hs
  generalize rdE s countS = er at *
  generalize rdV s countS 0 = v0 at *
  go_enter Try.func26, Try.ntmps26
  go_wp2_with (first
    | (go_at_call 35; (with_reducible refine (MP.out).mono ?_); rintro e w1 ⟨rfl, hb1⟩; rw [HZ.out] at hb1)
    | (go_at_call 36; (with_reducible refine (RD.out w1 hb1).mono ?_); rintro e w2 ⟨rfl, hb2, c0⟩))
  go_ret2
  exact ⟨rfl, hb2⟩

end Go.Proofs.Ytebcbaejpebpfab
