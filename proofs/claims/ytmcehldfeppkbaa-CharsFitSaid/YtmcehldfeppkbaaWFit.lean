/-
  The walk of the law CharsFit: true for any text, any number, either side.
-/
import Derived.Test.YtmcehldfeppkbaaWFill
namespace Go.Proofs.Ytmcehldfeppkbaa
open Go.RowKit
set_option linter.unusedVariables false
set_option linter.unusedSimpArgs false

/-- A row of which the cells from place k on are those of a text. -/
def FromB (C : Array Value) (n k : Nat) (out : List UInt8) : Prop := C.size = n ∧ ∀ j c, k ≤ j → out[j]? = some c → C[j]? = some (.int .u8 c.toNat)
theorem FromB.start (out : List UInt8) (n : Nat) (h : out.length = n) : FromB (cellsB out) n 0 out := ⟨by rw [cellsB_size, h], fun j c _ hj => cellsB_get out j c hj⟩
theorem FromB.store {C : Array Value} {n k : Nat} {out : List UInt8} (h : FromB C n k out) (v : Value) : FromB (C.setIfInBounds k v) n (k + 1) out :=
  ⟨by simp [h.1], fun j c hj hc => by
    rw [Array.getElem?_setIfInBounds_ne (by omega)]
    exact h.2 j c (by omega) hc⟩
theorem fitB_at (l : List UInt8) (n : Nat) (left : Bool) (k : Nat) (h : k < n) : (fitB l n left)[k]? = some (fitAt l (if left = true then (l.length : Int) - n else 0) k) := by
  unfold fitB
  rw [List.getElem?_map, List.getElem?_range h]
  rfl
theorem bool_eq (b : Bool) : b = true ∨ b = false := by cases b <;> simp

set_option maxRecDepth 100000 in
set_option maxHeartbeats 4000000 in
theorem fit_walk (A : Option Addr) (xs : List UInt8) (cap : Nat) (n : Int) (left : Bool) (w : World) (h : Txt w A xs) (hl0 : xs.length ≤ maxLen) (n0 : -9223372036854775808 ≤ n) (n1 : n ≤ 9223372036854775807) :
    Calls Try.prog 7 #[.slice A xs.length cap, .int .i64 n, .bool left] w fun e w' => e = .returned (.bool true) ∧ Below w.heap.size w w' := by
  by_cases h200 : (200 : Int) < xs.length
  · unfold maxLen at hl0
    go_enter Try.func7, Try.ntmps7
    go_wp2_with fail
    refine (lives_any _).mono ?_; rintro e w' ⟨rfl, hb⟩
    go_wp2
    go_ret
    exact ⟨rfl, hb⟩
  have hl : xs.length ≤ 140737488355328 := by omega
  clear hl0
  by_cases h1000 : 1000 < n ∧ n ≤ 1048576
  · obtain ⟨g1, g2⟩ := h1000
    go_enter Try.func7, Try.ntmps7
    go_wp2_with fail
    refine (lives_any _).mono ?_; rintro e w' ⟨rfl, hb⟩
    go_wp2
    go_ret
    exact ⟨rfl, hb⟩
  have hcv := run_str A xs cap w h
  obtain ⟨t, ht⟩ : ∃ t, t = strB xs := ⟨_, rfl⟩
  rw [← ht] at hcv
  have HT := Lib.hid ht; clear ht
  have HX := Lib.hid h; clear h
  by_cases hneg : n < 0
  · clear h1000
    go_enter Try.func7, Try.ntmps7
    go_wp2_with fail
    refine (fit_neg _ n left hneg _).mono ?_; rintro e w' ⟨rfl, rfl⟩
    go_wp2_with fail
    refine (lives_any _).mono ?_; rintro e w' ⟨rfl, hb⟩
    go_wp2
    go_ret
    exact ⟨rfl, hb⟩
  by_cases hbig : 1048576 < n
  · clear h1000
    go_enter Try.func7, Try.ntmps7
    go_wp2_with fail
    refine (fit_big _ n left hbig _).mono ?_; rintro e w' ⟨rfl, rfl⟩
    go_wp2_with fail
    refine (lives_any _).mono ?_; rintro e w' ⟨rfl, hb⟩
    go_wp2
    go_ret
    exact ⟨rfl, hb⟩
  have hn : n ≤ 1000 := by omega
  clear h1000 hbig
  obtain ⟨m, rfl⟩ := Int.eq_ofNat_of_zero_le (Int.not_lt.1 hneg)
  have hm : m ≤ 1000 := by omega
  clear hneg n0 n1 hn
  rcases bool_eq left with rfl | rfl
  all_goals
    go_enter Try.func7, Try.ntmps7
    go_wp2_with fail
    refine (fit_any A xs cap m _ w HX.out hl (by omega)).mono ?_; rintro e w' ⟨rfl, rfl⟩
    go_wp2
  · go_loopw [10] (fun i wr => ∃ (k : Nat) (C : Array Value), k ≤ m ∧ i = .int .i64 k ∧ Hid (FromB C m k (fitB xs m true)) ∧ wr = w.alloc (.cells C 5)) (fun i _ => m - (intOf i).toNat)
    case atStart => exact ⟨0, _, Nat.zero_le _, rfl, FromB.start _ _ (fitB_length _ _ _), rfl⟩
    case round =>
      obtain ⟨k, C, hk, rfl, HF, rfl⟩ := hrel
      by_cases hlt : k < m
      · have hsz : k < C.size := by rw [HF.out.1]; exact hlt
        have hck := HF.out.2 k _ (Nat.le_refl _) (fitB_at xs m true k hlt)
        rw [if_pos rfl, Array.getElem?_eq_getElem hsz] at hck
        have hck := Option.some.inj hck
        by_cases hx0 : 0 ≤ (xs.length : Int) - (m : Int) + (k : Int)
        · by_cases hx : (xs.length : Int) - (m : Int) + (k : Int) < xs.length
          · obtain ⟨b, off, c, rfl, hb, hc, hcell⟩ := HX.out.at_ (k := ((xs.length : Int) - (m : Int) + (k : Int)).toNat) (by omega)
            have hfa : fitAt xs ((xs.length : Int) - m) k = c := fitAt_in (by omega) (by omega) (by rw [← hc]; congr 2; omega)
            rw [hfa] at hck
            clear hfa hc
            have hcl := u8lt c
            go_wp2
            go_roundw
            case rel => exact ⟨k + 1, _, by omega, by go_num, HF.out.store _, rfl⟩
            case measure => simp [intOf]; omega
          · exact absurd (show (xs.length : Int) - (m : Int) + (k : Int) < xs.length by omega) hx
        · have hfa : fitAt xs ((xs.length : Int) - m) k = 32 := fitAt_out (by omega)
          rw [hfa, show ((32 : UInt8).toNat : Int) = 32 from rfl] at hck
          clear hfa
          go_wp2
          go_roundw
          case rel => exact ⟨k + 1, _, by omega, by go_num, HF.out.store _, rfl⟩
          case measure => simp [intOf]; omega
      · have hcv2 := run_str A xs cap (w.alloc (.cells C 5)) (HX.out.alloc _)
        rw [← HT.out] at hcv2
        go_wp2_with fail
        refine (lives_any _).mono ?_; rintro e w' ⟨rfl, hb⟩
        have hbl := ((Below.refl w.heap.size w).alloc (Nat.le_refl _) _).trans (hb.mono (by simp))
        clear hb
        go_wp2
        go_ret
        exact ⟨rfl, hbl⟩
  · go_loopw [10] (fun i wr => ∃ (k : Nat) (C : Array Value), k ≤ m ∧ i = .int .i64 k ∧ Hid (FromB C m k (fitB xs m false)) ∧ wr = w.alloc (.cells C 5)) (fun i _ => m - (intOf i).toNat)
    case atStart => exact ⟨0, _, Nat.zero_le _, rfl, FromB.start _ _ (fitB_length _ _ _), rfl⟩
    case round =>
      obtain ⟨k, C, hk, rfl, HF, rfl⟩ := hrel
      by_cases hlt : k < m
      · have hsz : k < C.size := by rw [HF.out.1]; exact hlt
        have hck := HF.out.2 k _ (Nat.le_refl _) (fitB_at xs m false k hlt)
        rw [if_neg (by decide), Array.getElem?_eq_getElem hsz] at hck
        have hck := Option.some.inj hck
        by_cases hx : (k : Int) < xs.length
        · obtain ⟨b, off, c, rfl, hb, hc, hcell⟩ := HX.out.at_ (k := k) (by omega)
          have hfa : fitAt xs 0 k = c := fitAt_zero hc
          rw [hfa] at hck
          clear hfa hc
          have hcl := u8lt c
          go_wp2
          go_roundw
          case rel => exact ⟨k + 1, _, by omega, by go_num, HF.out.store _, rfl⟩
          case measure => simp [intOf]; omega
        · have hfa : fitAt xs 0 k = 32 := fitAt_out (by omega)
          rw [hfa, show ((32 : UInt8).toNat : Int) = 32 from rfl] at hck
          clear hfa
          go_wp2
          go_roundw
          case rel => exact ⟨k + 1, _, by omega, by go_num, HF.out.store _, rfl⟩
          case measure => simp [intOf]; omega
      · have hcv2 := run_str A xs cap (w.alloc (.cells C 5)) (HX.out.alloc _)
        rw [← HT.out] at hcv2
        go_wp2_with fail
        refine (lives_any _).mono ?_; rintro e w' ⟨rfl, hb⟩
        have hbl := ((Below.refl w.heap.size w).alloc (Nat.le_refl _) _).trans (hb.mono (by simp))
        clear hb
        go_wp2
        go_ret
        exact ⟨rfl, hbl⟩
end Go.Proofs.Ytmcehldfeppkbaa
