/-
  fault.find under Is's look.
-/
import Derived.Test.YtjdalgnkkdfnnaaDoorFltG
import Derived.LoopTactic
import Derived.OwnWalk
namespace Go.Proofs.YtjdalgnkkdfnnaaDoor
open Go.RowKit
set_option linter.unusedVariables false
set_option linter.unusedSimpArgs false

set_option maxRecDepth 100000 in
set_option maxHeartbeats 4000000 in
theorem find_is {l : List Node} (c : Nat) (n : Int) (w : World) (hG : Good w l) (hne : l ≠ []) (hc : w.cell? ⟨c, 0, none⟩ = some (.int .i64 n)) :
    Calls Tryd.prog 27 #[val l, .func (.func 28) #[] #[.pointer (some ⟨c, 0, none⟩)]] w fun e w' => e = .returned (.bool (decide (ans l = some n))) ∧ Below w.heap.size w w' := by
  have hlt := cell_lt hc
  obtain ⟨i0, hi0, hz0, hz1, hz2⟩ := info_parts info_err
  have hmm := @run_makeMap Tryd.prog
  have HG := Lib.hid hG
  have HC := Lib.hid hc
  have hI := isI_val l
  have start : Run w ((w.alloc (.map #[] 0)).alloc (.cells #[val l] 27)) w.heap.size (w.heap.size + 1) 1 l l.length := by
    have b1 : Below w.heap.size w (w.alloc (.map #[] 0)) := (Below.refl _ _).alloc (Nat.le_refl _) _
    have b2 : Below (w.heap.size + 1) (w.alloc (.map #[] 0)) ((w.alloc (.map #[] 0)).alloc (.cells #[val l] 27)) := (Below.refl _ _).alloc (by simp) _
    have hm : ((w.alloc (.map #[] 0)).alloc (.cells #[val l] 27)).heap[w.heap.size]? = some (.map #[] 0) := (b2.block _ (by omega)).trans (MapKept.heap_alloc w _).1
    have hg := (MapKept.heap_alloc (w.alloc (.map #[] 0)) (.cells #[val l] 27)).1
    rw [show (w.alloc (.map #[] 0)).heap.size = w.heap.size + 1 by simp] at hg
    have hB := b1.trans (b2.mono (by omega))
    exact ⟨hB, by omega, by omega, by omega, ⟨_, hg, fun _ => rfl⟩, ⟨_, _, hm, fun _ e he => by simp at he⟩, hG.below hB, by rw [count_of hm]; simp, .inl rfl⟩
  have HS := Lib.hid start
  have HV : ∀ x s, ∃ t u, val (x :: s) = .iface t u := fun x s => by
    rcases isI_val (x :: s) with h | h
    · cases x <;> cases h
    · exact h
  generalize l.length = N at *
  clear start hG
  obtain ⟨x0, l0, rfl⟩ : ∃ x l', l = x :: l' := by
    cases l with
    | nil => exact absurd rfl hne
    | cons x l => exact ⟨x, l, rfl⟩
  obtain ⟨t0, u0, hv0⟩ := HV x0 l0
  rw [hv0] at HS ⊢
  generalize hA : ans (x0 :: l0) = A at *
  have HA := Lib.hid (show (ans (x0 :: l0) = some n ↔ A = some n) from by rw [hA])
  clear hA hv0 HG hI hne hc
  go_enter Tryd.func27, Tryd.ntmps27
  go_wp2
  generalize hB : w.heap.size = B at *
  have HB := Lib.hid hB
  clear hB
  go_loopw [6] (fun lv wr => ∃ k s, lv = .slice (some ⟨B + 1, 0, none⟩) k 1 ∧ Hid (Run w wr B (B + 1) k s N) ∧ Hid (ans s = some n ↔ A = some n)) (fun lv wr => 2 * (N - count wr B) + lenOf lv)
  case atStart => exact ⟨1, _, rfl, HS, HA⟩
  case round =>
    clear HS HA
    obtain ⟨k, s, rfl, HR, HA⟩ := hrel
    rcases HR.out.k with rfl | ⟨rfl, rfl⟩
    · obtain ⟨y, hy, hyv⟩ := HR.out.row
      have hyv := hyv rfl
      subst hyv
      have hcell : _ = some (val s) := cell_of_row _ (B + 1) 0 _ _ _ hy
      clear hy
      cases s with
      | nil =>
        simp only [val] at hcell
        have HT := Lib.hid (HR.out.take rfl)
        go_wp2
        go_roundw
        case rel => exact ⟨0, [], rfl, HT, HA⟩
        case measure => simp [lenOf]
      | cons x s =>
        obtain ⟨tx, ux, hv⟩ := HV x s
        have EN := Lib.hid (enter_new HR.out.seen HR.out.good)
        have BA := Lib.hid (fun W => bare_any x s W)
        have WR := Lib.hid (fun W (h1 : Wraps (x :: s)) (h2 : Good W (x :: s)) => wrapped_any h1 h2)
        rw [hv] at hcell EN BA WR
        by_cases hW : Wraps (x :: s)
        · have LK := Lib.hid (fun W (hb : Below w.heap.size w W) => lookI_cov hW c n W ((hb.cell (p := ⟨c, 0, none⟩) (by rw [HB.out]; exact hlt)).trans HC.out))
          have WR2 := Lib.hid (fun W h2 => WR.out W hW h2)
          have HA2 := Lib.hid (show (ans s = some n ↔ A = some n) from by rw [← ans_wraps hW]; exact HA.out)
          clear WR hW hv
          generalize shown (x :: s) = sh at *
          go_wp2_with (first
            | (go_at_call 23; (with_reducible refine EN.out.mono ?_); rintro e w1 ⟨rfl, hk1, hs1, hn1⟩; have HM := Lib.hid (HR.out.enter hk1 hs1 hn1); clear hk1 hs1 hn1)
            | (go_at_call 41; (with_reducible refine (BA.out _).mono ?_); rintro e w1' ⟨rfl, rfl⟩)
            | (go_at_call 28; (with_reducible refine (LK.out _ HM.out.bel).mono ?_); rintro e w2 ⟨rfl, b2⟩; have HM2 := Lib.hid (HM.out.later b2); clear b2)
            | (go_at_call 42; (with_reducible refine (WR2.out _ HM2.out.good).mono ?_); rintro e w3 ⟨g3, rfl, b3, hr3⟩; have HM3 := Lib.hid (HM2.out.later b3); have HW3 := Lib.hid hr3; clear b3 hr3)
            | (at_builtin; go_loud (refine wpList_append_fits _ rfl _ _ 39 rfl w.heap.size 27 i0 1 Tryd.underlying39 hi0 hz1 (B + 1) 0 1 [] rfl HM3.out.own ⟨g3, 0, none⟩ 1 1 [val s] rfl rfl (one_src HW3.out) (one_is (isI_val s)) (by omega) ?_; rintro w4 ho4 hg4; have HR4 := Lib.hid (HM3.out.put hg4 ho4 (.inl ⟨rfl, rfl⟩)); clear ho4 hg4)))
          go_roundw
          case rel => exact ⟨1, s, rfl, HR4, HA2⟩
          case measure =>
            have h1 := HR.out.num
            have h2 := HR4.out.num
            simp only [List.length_cons] at h1
            simp only [lenOf]
            omega
        · obtain ⟨q, rfl⟩ : ∃ q, x = .num q := by
            cases x with
            | flt b p => exact absurd trivial hW
            | oth => exact absurd trivial hW
            | num n => exact ⟨n, rfl⟩
          have hs0 : s = [] := HR.out.good
          subst hs0
          clear WR hW
          have LK := Lib.hid (fun W (hb : Below w.heap.size w W) => lookI_num q [] c n W ((hb.cell (p := ⟨c, 0, none⟩) (by rw [HB.out]; exact hlt)).trans HC.out))
          have WN := Lib.hid (fun W => wrapped_num q [] W)
          have hvv : val [Node.num q] = .iface tx ux := hv
          rw [hvv] at WN
          clear hvv hv
          generalize shown [Node.num q] = sh at *
          cases hkn : (q == n) with
          | true =>
            have E : decide (A = some n) = true := by
              have h2 : q = n := by simpa using hkn
              have h1 : A = some n := HA.out.1 (by rw [h2]; rfl)
              rw [h1]; simp
            rw [hkn] at LK
            clear hkn
            go_wp2_with (first
              | (go_at_call 23; (with_reducible refine EN.out.mono ?_); rintro e w1 ⟨rfl, hk1, hs1, hn1⟩; have HM := Lib.hid (HR.out.enter hk1 hs1 hn1); clear hk1 hs1 hn1)
              | (go_at_call 41; (with_reducible refine (BA.out _).mono ?_); rintro e w1' ⟨rfl, rfl⟩)
              | (go_at_call 28; (with_reducible refine (LK.out _ HM.out.bel).mono ?_); rintro e w2 ⟨rfl, rfl⟩))
            go_ret
            exact ⟨by rw [E]; rfl, HM.out.bel⟩
          | false =>
            have HA2 : Hid (ans [] = some n ↔ A = some n) := by
              have hne2 : q ≠ n := by simpa using hkn
              exact ⟨fun h => by simp [ans] at h, fun h => by
                have h3 : some q = some n := HA.out.2 h
                injection h3 with h3
                exact absurd h3 hne2⟩
            rw [hkn] at LK
            clear hkn
            go_wp2_with (first
              | (go_at_call 23; (with_reducible refine EN.out.mono ?_); rintro e w1 ⟨rfl, hk1, hs1, hn1⟩; have HM := Lib.hid (HR.out.enter hk1 hs1 hn1); clear hk1 hs1 hn1)
              | (go_at_call 41; (with_reducible refine (BA.out _).mono ?_); rintro e w1' ⟨rfl, rfl⟩)
              | (go_at_call 28; (with_reducible refine (LK.out _ HM.out.bel).mono ?_); rintro e w2 ⟨rfl, rfl⟩)
              | (go_at_call 42; (with_reducible refine (WN.out _).mono ?_); rintro e w3 ⟨rfl, rfl⟩)
              | (at_builtin; refine wpList_append_fits_any _ rfl _ _ 39 rfl w.heap.size 27 i0 1 Tryd.underlying39 hi0 hz1 (B + 1) 0 1 [] rfl HM.out.own none 0 0 [] rfl rfl (fun _ => ⟨rfl, rfl⟩) (fun ad e => by cases e) (fun u hu => by cases hu) (by omega) ?_; rintro w4 ho4 hg4; have HR4 := Lib.hid (HM.out.put hg4 ho4 (.inr ⟨rfl, rfl⟩)); clear ho4 hg4))
            go_roundw
            case rel => exact ⟨0, [], rfl, HR4, HA2⟩
            case measure =>
              have h1 := HR.out.num
              have h2 := HR4.out.num
              simp only [List.length_cons] at h1
              simp only [lenOf]
              omega
    · have hbel := HR.out.bel
      have hans : false = decide (A = some n) := by
        have h : ¬ A = some n := fun h => by
          have h3 : none = some n := HA.out.2 h
          cases h3
        simp [h]
      have HN := Lib.hid hans
      clear HR HA hans
      go_wp2
      go_ret
      exact ⟨by rw [← HN.out]; rfl, hbel⟩
end Go.Proofs.YtjdalgnkkdfnnaaDoor
