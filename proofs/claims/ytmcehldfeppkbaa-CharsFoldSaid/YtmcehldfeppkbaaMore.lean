/-
  The contracts of package chars' functions that compare texts or make new ones.
-/
import Derived.Test.YtmcehldfeppkbaaChars
import Derived.Test.YtmcehldfeppkbaaPlain
import Derived.Laws.NewBlocks
import Derived.Laws.CopyOwn
import Derived.Deep.WholeRow
namespace Go.Proofs.Ytmcehldfeppkbaa
open Go.RowKit
set_option linter.unusedVariables false
set_option linter.unusedSimpArgs false

theorem pad_any (A : Option Addr) (xs : List UInt8) (cap k : Nat) (w : World) (h : Txt w A xs) (hl : xs.length ≤ 140737488355328) :
    Calls Try.prog 27 #[.slice A xs.length cap, .int .i64 k] w fun e w' => e = .returned (.int .u8 (padB xs k).toNat) ∧ w = w' := by
  by_cases hk : k < xs.length
  · obtain ⟨b, off, c, rfl, hb, hc, hcell⟩ := h.at_ hk
    rw [padB_some hc]; clear hc
    go_enter Try.func27, Try.ntmps27
    go_wp2
    go_ret
    exact ⟨rfl, rfl⟩
  · rw [padB_out (Nat.le_of_not_lt hk)]
    go_enter Try.func27, Try.ntmps27
    go_wp2
    go_ret
    exact ⟨rfl, rfl⟩
theorem pad_enter (args : Array Value) (w : World) : (callFunc 27 args).run Try.prog w = .ok (.enter 27 args) w := by kernel_rfl

set_option maxRecDepth 100000 in
set_option maxHeartbeats 1000000 in
theorem compare_any (A A' : Option Addr) (xs ys : List UInt8) (cap cap' : Nat) (w : World) (h : Txt w A xs) (h' : Txt w A' ys) (hl : xs.length ≤ 140737488355328) (hl' : ys.length ≤ 140737488355328) :
    Calls Try.prog 16 #[.slice A xs.length cap, .slice A' ys.length cap'] w fun e w' => e = .returned (.int .i64 (cmpB xs ys)) ∧ w = w' := by
  have HX := Lib.hid h; have HY := Lib.hid h'; clear h h'
  have hen := pad_enter
  have key : ∀ n : Nat, cmpB xs ys = cmpFrom xs ys n 0 → n ≤ 140737488355328 → ∀ k, k < n → ∃ m, n - k = m + 1 ∧ n - (k + 1) = m := fun n _ _ k hk => ⟨n - k - 1, by omega, by omega⟩
  by_cases hm : xs.length < ys.length
  all_goals
    first
      | (have hc : cmpB xs ys = cmpFrom xs ys ys.length 0 := by (unfold cmpB; rw [Nat.max_eq_right (by omega)]))
      | (have hc : cmpB xs ys = cmpFrom xs ys xs.length 0 := by (unfold cmpB; rw [Nat.max_eq_left (by omega)]))
    have HC := Lib.hid hc; clear hc key
    go_enter Try.func16, Try.ntmps16
    go_wp2
  · go_loop [14] (fun i => ∃ k : Nat, k ≤ ys.length ∧ i = .int .i64 k ∧ cmpB xs ys = cmpFrom xs ys (ys.length - k) k) (fun i => ys.length - (intOf i).toNat)
    case atStart => exact ⟨0, Nat.zero_le _, rfl, HC.out⟩
    case round =>
      obtain ⟨k, hk, rfl, he⟩ := hrel
      have HE := Lib.hid he; clear he
      by_cases hlt : k < ys.length
      · have hs := cmpFrom_step xs ys ys.length k hlt
        have HS := Lib.hid hs; clear hs
        have hp := u8lt (padB xs k); have hq := u8lt (padB ys k)
        go_wp2_with fail
        refine (pad_any A xs cap k _ HX.out hl).mono ?_
        rintro e w' ⟨rfl, rfl⟩
        go_wp2_with fail
        refine (pad_any A' ys cap' k _ HY.out hl').mono ?_
        rintro e w' ⟨rfl, rfl⟩
        by_cases h1 : ((padB xs k).toNat : Int) < ((padB ys k).toNat : Int)
        · go_wp2
          go_ret
          exact ⟨ret_int (by rw [HE.out, HS.out, if_pos (by omega)]), rfl⟩
        · by_cases h2 : ((padB ys k).toNat : Int) < ((padB xs k).toNat : Int)
          · go_wp2
            go_ret
            exact ⟨ret_int (by rw [HE.out, HS.out, if_neg (by omega), if_pos (by omega)]), rfl⟩
          · go_wp2
            go_round
            case rel => exact ⟨k + 1, by omega, by go_num, by rw [HE.out, HS.out, if_neg (by omega), if_neg (by omega)]⟩
            case measure => simp [intOf]; omega
      · go_wp2
        go_ret
        exact ⟨ret_int (by rw [HE.out, show ys.length - k = 0 from by omega]; rfl), rfl⟩
  · go_loop [14] (fun i => ∃ k : Nat, k ≤ xs.length ∧ i = .int .i64 k ∧ cmpB xs ys = cmpFrom xs ys (xs.length - k) k) (fun i => xs.length - (intOf i).toNat)
    case atStart => exact ⟨0, Nat.zero_le _, rfl, HC.out⟩
    case round =>
      obtain ⟨k, hk, rfl, he⟩ := hrel
      have HE := Lib.hid he; clear he
      by_cases hlt : k < xs.length
      · have hs := cmpFrom_step xs ys xs.length k hlt
        have HS := Lib.hid hs; clear hs
        have hp := u8lt (padB xs k); have hq := u8lt (padB ys k)
        go_wp2_with fail
        refine (pad_any A xs cap k _ HX.out hl).mono ?_
        rintro e w' ⟨rfl, rfl⟩
        go_wp2_with fail
        refine (pad_any A' ys cap' k _ HY.out hl').mono ?_
        rintro e w' ⟨rfl, rfl⟩
        by_cases h1 : ((padB xs k).toNat : Int) < ((padB ys k).toNat : Int)
        · go_wp2
          go_ret
          exact ⟨ret_int (by rw [HE.out, HS.out, if_pos (by omega)]), rfl⟩
        · by_cases h2 : ((padB ys k).toNat : Int) < ((padB xs k).toNat : Int)
          · go_wp2
            go_ret
            exact ⟨ret_int (by rw [HE.out, HS.out, if_neg (by omega), if_pos (by omega)]), rfl⟩
          · go_wp2
            go_round
            case rel => exact ⟨k + 1, by omega, by go_num, by rw [HE.out, HS.out, if_neg (by omega), if_neg (by omega)]⟩
            case measure => simp [intOf]; omega
      · go_wp2
        go_ret
        exact ⟨ret_int (by rw [HE.out, show xs.length - k = 0 from by omega]; rfl), rfl⟩

theorem checkSize_neg (n : Int) (h1 : n < 0) (w : World) : Calls Try.prog 26 #[.int .i64 n] w fun e w' => e = .returned (.int .i64 1) ∧ w = w' := by
  go_enter Try.func26, Try.ntmps26
  go_wp2
  go_ret
  exact ⟨rfl, rfl⟩
theorem checkSize_big (n : Int) (h1 : 1048576 < n) (w : World) : Calls Try.prog 26 #[.int .i64 n] w fun e w' => e = .returned (.int .i64 3) ∧ w = w' := by
  go_enter Try.func26, Try.ntmps26
  go_wp2
  go_ret
  exact ⟨rfl, rfl⟩
theorem checkSize_ok (n : Int) (h0 : 0 ≤ n) (h1 : n ≤ 1048576) (w : World) : Calls Try.prog 26 #[.int .i64 n] w fun e w' => e = .returned (.int .i64 0) ∧ w = w' := by
  go_enter Try.func26, Try.ntmps26
  go_wp2
  go_ret
  exact ⟨rfl, rfl⟩
theorem Try.infoU8 : (Try.prog.info? 5).map (fun i => (i.zero, i.size, i.bytes)) = some (some (.int .u8 0), 1, 1) := by kernel_rfl
theorem made_u8 (n : Nat) : madeCells (Value.cells (.int .u8 0)) (n * 1) = cellsB (List.replicate n 0) := by
  rw [cellsB_zero]
  apply Array.ext
  · simp [madeCells]
  · intro i h1 h2; simp [madeCells, Value.cells, Nat.mod_one]
theorem make_u8 (n : Nat) (hn : n ≤ 140737488355328) (w : World) :
    (Instr.makeSlice 25 (.int .i64 (n : Int)) (.int .i64 (n : Int))).run Try.prog w = .ok (.slice (some ⟨w.heap.size, 0, none⟩) n n) (w.alloc (.cells (cellsB (List.replicate n 0)) 5)) := by
  obtain ⟨i0, hi, hz0, hz1, hz2⟩ := info_parts Try.infoU8
  have hr := run_make (P := Try.prog) w 25 5 i0 (.int .u8 0) Try.underlying25 hi hz0 .i64 .i64 n n (by omega) (by omega) (by rw [hz2]; omega) (by omega)
  rw [hz1] at hr
  simp only [Int.toNat_natCast] at hr
  rw [made_u8] at hr
  exact hr

theorem fit_neg (v : Value) (n : Int) (left : Bool) (h1 : n < 0) (w : World) :
    Calls Try.prog 15 #[v, .int .i64 n, .bool left] w fun e w' => e = .returned (.tuple #[.slice none 0 0, .int .i64 1]) ∧ w = w' := by
  go_enter Try.func15, Try.ntmps15
  go_wp2_with (go_at_call 26; refine (checkSize_neg n h1 _).mono ?_; rintro e w' ⟨rfl, rfl⟩)
  go_ret2
  exact ⟨rfl, rfl⟩
theorem fit_big (v : Value) (n : Int) (left : Bool) (h1 : 1048576 < n) (w : World) :
    Calls Try.prog 15 #[v, .int .i64 n, .bool left] w fun e w' => e = .returned (.tuple #[.slice none 0 0, .int .i64 3]) ∧ w = w' := by
  go_enter Try.func15, Try.ntmps15
  go_wp2_with (go_at_call 26; refine (checkSize_big n h1 _).mono ?_; rintro e w' ⟨rfl, rfl⟩)
  go_ret2
  exact ⟨rfl, rfl⟩
set_option maxRecDepth 100000 in
set_option maxHeartbeats 1000000 in
theorem fit_any (A : Option Addr) (xs : List UInt8) (cap n : Nat) (left : Bool) (w : World) (h : Txt w A xs) (hl : xs.length ≤ 140737488355328) (hn : n ≤ 1048576) :
    Calls Try.prog 15 #[.slice A xs.length cap, .int .i64 n, .bool left] w fun e w' =>
      e = .returned (.tuple #[.slice (some ⟨w.heap.size, 0, none⟩) n n, .int .i64 0]) ∧ w.alloc (.cells (cellsB (fitB xs n left)) 5) = w' := by
  have hmk := make_u8 n (by omega)
  have HX := Lib.hid h; clear h
  cases left
  · go_enter Try.func15, Try.ntmps15
    go_wp2_with (go_at_call 26; refine (checkSize_ok n (by omega) (by omega) _).mono ?_; rintro e w' ⟨rfl, rfl⟩)
    have HZ : Hid (partB (fitAt xs 0) n 0 = List.replicate n 0) := partB_zero _ n
    go_loopw [26] (fun i wr => ∃ k : Nat, k ≤ n ∧ i = .int .i64 k ∧ wr = w.alloc (.cells (cellsB (partB (fitAt xs 0) n k)) 5)) (fun i _ => n - (intOf i).toNat)
    case atStart => exact ⟨0, Nat.zero_le _, rfl, by rw [HZ.out]⟩
    case round =>
      obtain ⟨k, hk, rfl, rfl⟩ := hrel
      by_cases hlt : k < n
      · obtain ⟨C, hC⟩ : ∃ C, C = cellsB (partB (fitAt xs 0) n k) := ⟨_, rfl⟩
        rw [← hC]
        have hsz : k < C.size := by rw [hC, cellsB_size, partB_length]; exact hlt
        have HC := Lib.hid hC; clear hC
        by_cases hx : k < xs.length
        · obtain ⟨b, off, c, rfl, hb, hc, hcell⟩ := HX.out.at_ hx
          have HCC := Lib.hid hc; clear hc
          go_wp2
          go_roundw
          case rel => exact ⟨k + 1, by omega, by go_num, by rw [HC.out, cellsB_set, ← partB_succ _ n k, fitAt_zero HCC.out]⟩
          case measure => simp [intOf]; omega
        · go_wp2
          go_roundw
          case rel => exact ⟨k + 1, by omega, by go_num, by rw [HC.out, ← partB_succ _ n k, show fitAt xs 0 k = 32 from by simp [fitAt, hx]]; exact congrArg (fun a => w.alloc (.cells a 5)) (cellsB_set _ _ 32)⟩
          case measure => simp [intOf]; omega
      · have HF : Hid (partB (fitAt xs 0) n k = fitB xs n false) := by
          obtain rfl : n = k := by omega
          rw [partB_full]; simp [fitB, Hid]
        go_wp2
        go_ret2
        exact ⟨rfl, by rw [HF.out]⟩
  · go_enter Try.func15, Try.ntmps15
    go_wp2_with (go_at_call 26; refine (checkSize_ok n (by omega) (by omega) _).mono ?_; rintro e w' ⟨rfl, rfl⟩)
    obtain ⟨sh, hsh⟩ : ∃ sh : Int, sh = (xs.length : Int) - (n : Int) := ⟨_, rfl⟩
    rw [← hsh]
    have hs1 : sh ≤ 140737488355328 := by omega
    have hs2 : -1048576 ≤ sh := by omega
    have HS := Lib.hid hsh; clear hsh
    have HZ : Hid (partB (fitAt xs sh) n 0 = List.replicate n 0) := partB_zero _ n
    go_loopw [26] (fun i wr => ∃ k : Nat, k ≤ n ∧ i = .int .i64 k ∧ wr = w.alloc (.cells (cellsB (partB (fitAt xs sh) n k)) 5)) (fun i _ => n - (intOf i).toNat)
    case atStart => exact ⟨0, Nat.zero_le _, rfl, by rw [HZ.out]⟩
    case round =>
      obtain ⟨k, hk, rfl, rfl⟩ := hrel
      by_cases hlt : k < n
      · obtain ⟨C, hC⟩ : ∃ C, C = cellsB (partB (fitAt xs sh) n k) := ⟨_, rfl⟩
        rw [← hC]
        have hsz : k < C.size := by rw [hC, cellsB_size, partB_length]; exact hlt
        have HC := Lib.hid hC; clear hC
        by_cases hx0 : 0 ≤ (k : Int) + sh
        · by_cases hx : (k : Int) + sh < xs.length
          · obtain ⟨b, off, c, rfl, hb, hc, hcell⟩ := HX.out.at_ (k := ((k : Int) + sh).toNat) (by omega)
            have HCC := Lib.hid hc; clear hc
            go_wp2
            go_roundw
            case rel => exact ⟨k + 1, by omega, by go_num, by rw [HC.out, cellsB_set, ← partB_succ _ n k, fitAt_in hx0 hx HCC.out]⟩
            case measure => simp [intOf]; omega
          · go_wp2
            go_roundw
            case rel => exact ⟨k + 1, by omega, by go_num, by rw [HC.out, ← partB_succ _ n k, show fitAt xs sh k = 32 from by unfold fitAt; rw [if_neg (by omega)]]; exact congrArg (fun a => w.alloc (.cells a 5)) (cellsB_set _ _ 32)⟩
            case measure => simp [intOf]; omega
        · go_wp2
          go_roundw
          case rel => exact ⟨k + 1, by omega, by go_num, by rw [HC.out, ← partB_succ _ n k, show fitAt xs sh k = 32 from by unfold fitAt; rw [if_neg (by omega)]]; exact congrArg (fun a => w.alloc (.cells a 5)) (cellsB_set _ _ 32)⟩
          case measure => simp [intOf]; omega
      · have HF : Hid (partB (fitAt xs sh) n k = fitB xs n true) := by
          obtain rfl : n = k := by omega
          rw [partB_full, HS.out]; simp [fitB, Hid]
        go_wp2
        go_ret2
        exact ⟨rfl, by rw [HF.out]⟩

theorem fill_neg (v : Value) (n : Int) (h1 : n < 0) (w : World) :
    Calls Try.prog 18 #[v, .int .i64 n] w fun e w' => e = .returned (.tuple #[.slice none 0 0, .int .i64 1]) ∧ w = w' := by
  go_enter Try.func18, Try.ntmps18
  go_wp2_with (go_at_call 26; refine (checkSize_neg n h1 _).mono ?_; rintro e w' ⟨rfl, rfl⟩)
  go_ret2
  exact ⟨rfl, rfl⟩
theorem fill_big (v : Value) (n : Int) (h1 : 1048576 < n) (w : World) :
    Calls Try.prog 18 #[v, .int .i64 n] w fun e w' => e = .returned (.tuple #[.slice none 0 0, .int .i64 3]) ∧ w = w' := by
  go_enter Try.func18, Try.ntmps18
  go_wp2_with (go_at_call 26; refine (checkSize_big n h1 _).mono ?_; rintro e w' ⟨rfl, rfl⟩)
  go_ret2
  exact ⟨rfl, rfl⟩
theorem fill_width (A : Option Addr) (cap : Nat) (n : Int) (h0 : 0 < n) (h1 : n ≤ 1048576) (w : World) :
    Calls Try.prog 18 #[.slice A 0 cap, .int .i64 n] w fun e w' => e = .returned (.tuple #[.slice none 0 0, .int .i64 5]) ∧ w = w' := by
  have hne' : (n != 0) = true := by simp; omega
  go_enter Try.func18, Try.ntmps18
  go_wp2_with (go_at_call 26; refine (checkSize_ok n ?_ h1 _).mono ?_; omega; rintro e w' ⟨rfl, rfl⟩)
  go_ret2
  exact ⟨rfl, rfl⟩
theorem fill_none (A : Option Addr) (cap : Nat) (w : World) :
    Calls Try.prog 18 #[.slice A 0 cap, .int .i64 0] w fun e w' => e = .returned (.tuple #[.slice (some ⟨w.heap.size, 0, none⟩) 0 0, .int .i64 0]) ∧ w.alloc (.cells (cellsB []) 5) = w' := by
  have hmk : ∀ w, (Instr.makeSlice 25 (.int .i64 0) (.int .i64 0)).run Try.prog w = .ok (.slice (some ⟨w.heap.size, 0, none⟩) 0 0) (w.alloc (.cells (cellsB []) 5)) := make_u8 0 (by omega)
  go_enter Try.func18, Try.ntmps18
  go_wp2_with (go_at_call 26; refine (checkSize_ok 0 (by decide) (by decide) _).mono ?_; rintro e w' ⟨rfl, rfl⟩)
  refine wp_loop_rounds 1 ?_; rw [rounds_succ]
  go_wp2
  go_ret2
  exact ⟨rfl, rfl⟩
set_option maxRecDepth 100000 in
set_option maxHeartbeats 1000000 in
theorem fill_any (A : Option Addr) (xs : List UInt8) (cap n : Nat) (w : World) (h : Txt w A xs) (h0 : 0 < xs.length) (hl : xs.length ≤ 140737488355328) (hn : n ≤ 1048576) :
    Calls Try.prog 18 #[.slice A xs.length cap, .int .i64 n] w fun e w' =>
      e = .returned (.tuple #[.slice (some ⟨w.heap.size, 0, none⟩) n n, .int .i64 0]) ∧ w.alloc (.cells (cellsB (fillB xs n)) 5) = w' := by
  have hmk := make_u8 n (by omega)
  have hz : ((xs.length : Int) == 0) = false := by simp; intro e; simp [e] at h0
  have HX := Lib.hid h; clear h
  go_enter Try.func18, Try.ntmps18
  go_wp2_with (go_at_call 26; refine (checkSize_ok n (by omega) (by omega) _).mono ?_; rintro e w' ⟨rfl, rfl⟩)
  have HZ : Hid (partB (fillAt xs) n 0 = List.replicate n 0) := partB_zero _ n
  go_loopw [24] (fun i wr => ∃ k : Nat, k ≤ n ∧ i = .int .i64 k ∧ wr = w.alloc (.cells (cellsB (partB (fillAt xs) n k)) 5)) (fun i _ => n - (intOf i).toNat)
  case atStart => exact ⟨0, Nat.zero_le _, rfl, by rw [HZ.out]⟩
  case round =>
    obtain ⟨k, hk, rfl, rfl⟩ := hrel
    by_cases hlt : k < n
    · obtain ⟨C, hC⟩ : ∃ C, C = cellsB (partB (fillAt xs) n k) := ⟨_, rfl⟩
      rw [← hC]
      have hsz : k < C.size := by rw [hC, cellsB_size, partB_length]; exact hlt
      have HC := Lib.hid hC; clear hC
      have hmod : k % xs.length < xs.length := Nat.mod_lt _ h0
      obtain ⟨b, off, c, rfl, hb, hc, hcell⟩ := HX.out.at_ hmod
      have HCC := Lib.hid hc; clear hc
      go_wp2
      go_roundw
      case rel => exact ⟨k + 1, by omega, by go_num, by rw [HC.out, cellsB_set, ← partB_succ _ n k, fillB_at HCC.out]⟩
      case measure => simp [intOf]; omega
    · have HF : Hid (partB (fillAt xs) n k = fillB xs n) := by
        obtain rfl : n = k := by omega
        rw [partB_full]; simp [fillB, Hid]
      go_wp2
      go_ret2
      exact ⟨rfl, by rw [HF.out]⟩

/-- copy over the whole of a row that was just made. -/
theorem run_copy_all (A : Option Addr) (xs : List UInt8) (cap n : Nat) (w : World) (h : Txt w A xs) (hn : n ≤ xs.length) :
    (Builtin.copy_ #[25, 25] 3 #[.slice (some ⟨w.heap.size, 0, none⟩) n n, .slice A xs.length cap]).run Try.prog (w.alloc (.cells (cellsB (List.replicate n 0)) 5)) =
      .ok (goInt n) (w.alloc (.cells (cellsB (xs.take n)) 5)) := by
  have hsz : (Try.prog.info? 5).map (·.size) = some 1 := by kernel_rfl
  rcases Nat.eq_zero_or_pos n with rfl | h0
  · have := run_copy_none (P := Try.prog) (w.alloc (.cells (cellsB (List.replicate 0 0)) 5)) 25 25 3 5 (some ⟨w.heap.size, 0, none⟩) A 0 0 xs.length cap Try.underlying25 hsz (by simp)
    simpa using this
  · obtain ⟨b, off, rfl, hb, hc⟩ := h (by omega)
    have hlen : (((xs.take n).map fun c => Value.int .u8 (c.toNat : Int))).length = n := by simp; omega
    have := run_copy_row (P := Try.prog) (w.alloc (.cells (cellsB (List.replicate n 0)) 5)) 25 25 3 5 w.heap.size 0 n n ⟨b, off, none⟩ xs.length cap
      (cellsB (List.replicate n 0)) 5 ((xs.take n).map fun c => Value.int .u8 (c.toNat : Int)) Try.underlying25 hsz (by simp [World.alloc, -World.alloc_eq]) (by rw [hlen]; exact (Nat.min_eq_right hn).symm)
      (fun j v hj => by
        have hjn : j < n := by
          rcases Nat.lt_or_ge j n with hk | hk
          · exact hk
          · rw [List.getElem?_eq_none (by rw [hlen]; exact hk)] at hj; cases hj
        have hg : xs[j]? = some xs[j] := List.getElem?_eq_getElem (by omega)
        have hv : v = .int .u8 (xs[j].toNat : Int) := by
          rw [List.getElem?_map, List.getElem?_take_of_lt hjn, hg] at hj
          exact (Option.some.inj hj).symm
        have ha : (⟨b, off, none⟩ : Addr).add j = ⟨b, off + j, none⟩ := by unfold Addr.add; split <;> simp_all
        rw [ha, hv, World.cell?_alloc_lt _ _ _ hb]
        exact hc j _ hg)
      (by rw [hlen, cellsB_size]; simp) (by intro v hv; obtain ⟨c, _, rfl⟩ := List.mem_map.1 hv; rfl)
    rw [this, hlen]
    congr 1
    have : (World.alloc w (.cells (cellsB (List.replicate n 0)) 5)).setRow w.heap.size ((cellsB (List.replicate n 0)).toList.take 0 ++ (xs.take n).map (fun c => Value.int .u8 (c.toNat : Int)) ++ (cellsB (List.replicate n 0)).toList.drop (0 + n)).toArray = w.alloc (.cells (cellsB (xs.take n)) 5) := by
      rw [show (cellsB (List.replicate n 0)).toList.drop (0 + n) = [] from by rw [List.drop_eq_nil_of_le]; simp [cellsB]]
      rw [World.setRow_alloc_new]
      simp [cellsB, List.map_take]
    exact this
theorem trim_any (A : Option Addr) (xs : List UInt8) (cap : Nat) (w : World) (h : Txt w A xs) (hl : xs.length ≤ 140737488355328) :
    Calls Try.prog 17 #[.slice A xs.length cap] w fun e w' =>
      e = .returned (.slice (some ⟨w.heap.size, 0, none⟩) (trimN xs) (trimN xs)) ∧ w.alloc (.cells (cellsB (trimB xs)) 5) = w' := by
  have hle := trimN_le xs
  obtain ⟨n, hn⟩ : ∃ n, n = trimN xs := ⟨_, rfl⟩
  have hn2 : lastI (fun c => !spcB c) xs xs.length = (n : Int) - 1 := by
    have := lastI_lo (fun c => !spcB c) xs xs.length
    rw [hn]; unfold trimN; omega
  have ht : trimB xs = xs.take n := by rw [hn]; rfl
  rw [ht, ← hn]
  rw [← hn] at hle
  have hmk := make_u8 n (by omega)
  have hcp := run_copy_all A xs cap n w h hle
  have HL := Lib.hid hn2; clear hn2 hn ht
  go_enter Try.func17, Try.ntmps17
  go_wp2_with (go_at_call 28; refine (last_any A xs cap _ _ notSpace_any _ h hl).mono ?_; rintro e w' ⟨rfl, rfl⟩; rw [HL.out])
  go_ret
  exact ⟨rfl, rfl⟩
end Go.Proofs.Ytmcehldfeppkbaa
