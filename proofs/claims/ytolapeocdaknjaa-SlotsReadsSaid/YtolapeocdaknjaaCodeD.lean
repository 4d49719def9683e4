/-
  The reference's Get.
-/
import Derived.Test.YtolapeocdaknjaaCodeC
import Derived.LoopTactic
namespace Go.Proofs.Ytolapeocdaknjaa
open Go.RowKit
set_option linter.unusedVariables false
set_option linter.unusedSimpArgs false

theorem leN_drop_le (l : List UInt8) (j : Nat) : leN (l.drop j) ≤ leN l := by
  induction j generalizing l with
  | zero => simp
  | succ j ih =>
    cases l with
    | nil => simp [leN]
    | cons b r => have := ih r; simp only [List.drop_succ_cons, leN]; omega

theorem leN_drop_step (l : List UInt8) (j : Nat) (h : j < l.length) : leN (l.drop j) = l[j].toNat + 256 * leN (l.drop (j + 1)) := by
  rw [List.drop_eq_getElem_cons h]; rfl

set_option maxHeartbeats 400000 in
theorem refGet_bad (A : Option Addr) (n c : Nat) (i wd : Int) (w : World) (hn : n ≤ 9223372036854775807) (hi : -9223372036854775808 ≤ i ∧ i ≤ 9223372036854775807) (r : Int) (hr : roomE n i wd = r) (h13 : r = 1 ∨ r = 3) :
    Calls Try.prog 20 #[.slice A n c, .int .i64 i, .int .i64 wd] w fun e w' => e = .returned (.tuple #[.int .i64 0, .int .i64 r]) ∧ w = w' := by
  have P := Lib.hid (room_any A n c i wd w hn hi r hr)
  clear hi hr
  rcases h13 with rfl | rfl
  all_goals go_enter Try.func20, Try.ntmps20
  all_goals go_wp2_with (go_at_call 32; refine (P.out).mono ?_; rintro e w' ⟨rfl, rfl⟩)
  all_goals go_ret2
  all_goals exact ⟨rfl, rfl⟩

set_option maxHeartbeats 400000 in
theorem refGet_big (b off n c k v : Nat) (w : World) (hk : (k : Int) + 8 ≤ n) (hm : n ≤ 9223372036854775807)
    (hc7 : w.cell? ⟨b, off + (k + 7), none⟩ = some (.int .u8 (v : Int))) (hv : 128 ≤ (v : Int)) :
    Calls Try.prog 20 #[.slice (some ⟨b, off, none⟩) n c, .int .i64 k, .int .i64 8] w fun e w' => e = .returned (.tuple #[.int .i64 0, .int .i64 2]) ∧ w = w' := by
  have P := Lib.hid (room_any (some ⟨b, off, none⟩) n c k 8 w (by omega) (by omega) 0 (by simp [roomE, isW]; omega))
  go_enter Try.func20, Try.ntmps20
  go_wp2_with (go_at_call 32; refine (P.out).mono ?_; rintro e w' ⟨rfl, rfl⟩)
  go_ret2
  exact ⟨rfl, rfl⟩

set_option maxRecDepth 100000 in
set_option maxHeartbeats 400000 in
theorem refGet_good (b off n c k : Nat) (wd : Int) (p : List UInt8) (w : World) (hw : isW wd = true) (hk : (k : Int) + wd ≤ n) (hm : n ≤ 9223372036854775807)
    (hp : (p.length : Int) = wd) (hcell : ∀ j (h : j < p.length), w.cell? ⟨b, off + (k + j), none⟩ = some (.int .u8 (p[j].toNat : Int))) (hx : leN p < 9223372036854775808)
    (htop : wd = 8 → ∃ v : Nat, w.cell? ⟨b, off + (k + 7), none⟩ = some (.int .u8 (v : Int)) ∧ v < 128) :
    Calls Try.prog 20 #[.slice (some ⟨b, off, none⟩) n c, .int .i64 k, .int .i64 wd] w fun e w' => e = .returned (.tuple #[.int .i64 (leN p), .int .i64 0]) ∧ w = w' := by
  have hb : 1 ≤ wd ∧ wd ≤ 8 := by rcases isW_cases hw with h | h | h | h <;> omega
  obtain ⟨hb1, hb2⟩ := hb
  have P := Lib.hid (room_any (some ⟨b, off, none⟩) n c k wd w (by omega) (by omega) 0 (by simp [roomE, hw]; omega))
  have HC := Lib.hid hcell
  have HP := Lib.hid hp
  have HX0 := Lib.hid hx
  clear hcell hp hw hx
  obtain ⟨W, hW⟩ : ∃ W : Int, W = wd := ⟨_, rfl⟩
  have HW := Lib.hid hW
  have hW1 : 1 ≤ W := by omega
  have hW2 : k + W ≤ n := by omega
  have HPW : Hid ((p.length : Int) = W) := by rw [hW]; exact HP.out
  clear hW
  by_cases h8 : wd = 8
  case' pos =>
    obtain ⟨v, hc7, hv7'⟩ := htop h8
    have hv7 : (v : Int) < 128 := by omega
    clear hv7'
    subst h8
    clear htop
  case' neg =>
    have hne : (wd == 8) = false := by simpa using h8
    clear htop h8
  all_goals
    go_enter Try.func20, Try.ntmps20
    go_wp2_with (go_at_call 32; refine (P.out).mono ?_; rintro e w' ⟨rfl, rfl⟩)
    go_loop [9, 10] (fun a i => ∃ q : Int, -1 ≤ q ∧ q < W ∧ i = .int .i64 q ∧ a = .int .i64 (leN (p.drop (q + 1).toNat))) (fun _ i => (intOf i + 1).toNat)
    case atStart =>
      have h0 : p.drop (W - 1 + 1).toNat = [] := List.drop_eq_nil_of_le (by have := HPW.out; omega)
      exact ⟨W - 1, by omega, by omega, by simp [HW.out], by rw [h0]; rfl⟩
    case round =>
      obtain ⟨q, hq1, hq2, rfl, rfl⟩ := hrel
      by_cases hneg : q < 0
      · have Hq : Hid (((leN (p.drop (q + 1).toNat) : Nat) : Int) = (leN p : Int)) := by
          rw [show (q + 1).toNat = 0 by omega]
          rfl
        go_wp2
        go_ret2
        exact ⟨by rw [← Hq.out]; rfl, rfl⟩
      · obtain ⟨m, rfl⟩ := Int.eq_ofNat_of_zero_le (show 0 ≤ q by omega)
        have hmlt : m < p.length := by have := HPW.out; omega
        have hs := leN_drop_step p m hmlt
        have hle := leN_drop_le p m
        have hv := UInt8.toNat_lt p[m]
        have hc := HC.out m hmlt
        rw [show ((m : Int) + 1).toNat = m + 1 by omega]
        generalize hX : leN (p.drop (m + 1)) = X at *
        generalize hV : (p[m]).toNat = V at *
        have HX := Lib.hid hX
        have HS := Lib.hid hs
        have hb3 : X * 256 + V < 9223372036854775808 := by have := HX0.out; omega
        clear hX hV hs hle
        go_wp2
        go_round
        case rel => exact ⟨(m : Int) - 1, by omega, by omega, rfl, by rw [show ((m : Int) - 1 + 1).toNat = m by omega, HS.out]; go_num⟩
        case measure => simp [intOf]

theorem refGet_any (A : Option Addr) (n c : Nat) (l : List UInt8) (i wd : Int) (w : World) (h : Bytes8 w A n c l) (hi : -9223372036854775808 ≤ i ∧ i ≤ 9223372036854775807) :
    Calls Try.prog 20 #[.slice A n c, .int .i64 i, .int .i64 wd] w fun e w' => e = .returned (.tuple #[.int .i64 (getN l i wd), .int .i64 (getE l i wd)]) ∧ w = w' := by
  have hl := h.len
  rcases roomE_cases n i wd with hr | hr | ⟨hr, hw, h0, h1⟩
  · refine (refGet_bad A n c i wd w h.le hi 1 hr (.inl rfl)).mono ?_
    rintro e w' ⟨rfl, rfl⟩
    exact ⟨by simp [getN, getE, hl, hr], rfl⟩
  · refine (refGet_bad A n c i wd w h.le hi 3 hr (.inr rfl)).mono ?_
    rintro e w' ⟨rfl, rfl⟩
    exact ⟨by simp [getN, getE, hl, hr], rfl⟩
  · have hb : 1 ≤ wd ∧ wd ≤ 8 := by rcases isW_cases hw with h | h | h | h <;> omega
    obtain ⟨k, rfl⟩ := Int.eq_ofNat_of_zero_le h0
    have hm := h.most
    have hc := h.cap
    obtain ⟨b, off, rfl, hbl, hcell⟩ := h.row.lit (by rw [u8s_length]; omega)
    have hpl : (part l k wd).length = wd.toNat := part_len h0 (by omega) (by omega)
    have hC : ∀ j (h : j < (part l k wd).length), w.cell? ⟨b, off + (k + j), none⟩ = some (.int .u8 ((part l k wd)[j].toNat : Int)) := fun j hj => by
      have := hcell (k + j) _ (u8s_at l (k + j) (by omega))
      simpa [part] using this
    by_cases hx : leN (part l k wd) < 9223372036854775808
    · refine (refGet_good b off n c k wd (part l k wd) w hw h1 h.le (by omega) hC hx (fun h8 => ?_)).mono ?_
      · subst h8
        have h7 : 7 < (part l k 8).length := by omega
        refine ⟨_, hC 7 h7, ?_⟩
        generalize hp : part l k 8 = p at *
        match p, hpl with
        | [b0, b1, b2, b3, b4, b5, b6, b7], _ =>
          simp only [leN] at hx
          simp only [List.getElem_cons_succ, List.getElem_cons_zero]
          omega
      · rintro e w' ⟨rfl, rfl⟩
        refine ⟨?_, rfl⟩
        have e0 : getE l k wd = 0 := by simp [getE, hl, hr]; omega
        simp [getN, e0]
    · have h8 : wd = 8 := by
        have hlt := leN_lt (part l k wd)
        rw [hpl] at hlt
        rcases isW_cases hw with h | h | h | h
        all_goals subst h
        all_goals simp at hlt
        all_goals omega
      subst h8
      have h7 : 7 < (part l k 8).length := by omega
      have e0 : getE l k 8 = 2 := by simp [getE, hl, hr]; omega
      refine (refGet_big b off n c k _ w h1 h.le (hC 7 h7) ?_).mono ?_
      · generalize hp : part l k 8 = p at *
        match p, hpl with
        | [b0, b1, b2, b3, b4, b5, b6, b7], _ =>
          simp only [leN] at hx
          simp only [List.getElem_cons_succ, List.getElem_cons_zero]
          have := UInt8.toNat_lt b0; have := UInt8.toNat_lt b1; have := UInt8.toNat_lt b2; have := UInt8.toNat_lt b3
          have := UInt8.toNat_lt b4; have := UInt8.toNat_lt b5; have := UInt8.toNat_lt b6
          omega
      · rintro e w' ⟨rfl, rfl⟩
        refine ⟨?_, rfl⟩
        simp [getN, e0]

end Go.Proofs.Ytolapeocdaknjaa
