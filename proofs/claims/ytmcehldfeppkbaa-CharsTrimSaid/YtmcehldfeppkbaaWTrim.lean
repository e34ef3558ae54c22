/-
  The walk of the law CharsTrim: true for every text.
-/
import Derived.Test.YtmcehldfeppkbaaOrder
import Derived.Test.YtmcehldfeppkbaaWFit
namespace Go.Proofs.Ytmcehldfeppkbaa
open Go.RowKit
set_option linter.unusedVariables false
set_option linter.unusedSimpArgs false

theorem trimN_of {l : List UInt8} {m : Nat} (h : lastI (fun c => !spcB c) l l.length = lastI (fun c => !spcB c) l m) (he : m = 0 ∨ ∃ k c, m = k + 1 ∧ l[k]? = some c ∧ c.toNat ≠ 32) : trimN l = m := by
  unfold trimN
  rw [h]
  rcases he with rfl | ⟨k, c, rfl, hc, hne⟩
  · simp [lastI]
  · have e : spcB c = false := by simp [spcB, hne]
    simp only [lastI, List.getD, hc, Option.getD_some, e]
    simp
theorem fit_trim (l : List UInt8) : fitB (trimB l) l.length false = l := by
  rw [fitB_pad]
  apply List.ext_getElem
  · simp
  · intro i h1 h2
    simp only [List.getElem_map, List.getElem_range]
    rw [trimB_pad]
    exact padB_some (List.getElem?_eq_getElem h2)

/-- What the second loop of CharsTrim knows: the row at block g may be written; the row behind it holds the text; below g nothing has turned. -/
structure Bump (w wr : World) (g m : Nat) (l : List UInt8) : Prop where
  cell : ∀ j, j < m → ∃ v : Int, 0 ≤ v ∧ v ≤ 255 ∧ wr.cell? ⟨g, j, none⟩ = some (.int .u8 v)
  free : ∀ j, j < m → wr.frozen? ⟨g, j, none⟩ = false
  lt : g + 1 < wr.heap.size
  back : ∀ j c, l[j]? = some c → wr.cell? ⟨g + 1, j, none⟩ = some (.int .u8 c.toNat)
  below : Below g w wr
theorem Bump.store {w wr : World} {g m : Nat} {l : List UInt8} (h : Bump w wr g m l) (k : Nat) (hk : k < m) (v : Int) (h0 : 0 ≤ v) (h1 : v ≤ 255) : Bump w (wr.setCell ⟨g, k, none⟩ (.int .u8 v)) g m l where
  cell := by
    intro j hj
    by_cases e : k = j
    · subst e
      obtain ⟨u, _, _, hu⟩ := h.cell k hj
      exact ⟨v, h0, h1, World.cell?_setCell_same wr _ _ hu⟩
    · obtain ⟨u, hu0, hu1, hu⟩ := h.cell j hj
      exact ⟨u, hu0, hu1, by rw [World.cell?_setCell_other wr (a := ⟨g, k, none⟩) (b := ⟨g, j, none⟩) _ (by intro e2; injection e2 with _ e3; exact e e3)]; exact hu⟩
  free := by intro j hj; rw [World.frozen?_setCell]; exact h.free j hj
  lt := by have := h.lt; simpa [World.setCell] using this
  back := by
    intro j c hj
    rw [World.cell?_setCell_other wr (a := ⟨g, k, none⟩) (b := ⟨g + 1, j, none⟩) _ (by intro e2; injection e2 with e3; omega)]
    exact h.back j c hj
  below := h.below.setCell (Nat.le_refl _) _
theorem Bump.made (w : World) (t : TypeId) (a l : List UInt8) : Bump w ((w.alloc (.cells (cellsB a) t)).alloc (.cells (cellsB l) t)) w.heap.size a.length l where
  cell := by
    intro j hj
    have hg : a[j]? = some a[j] := List.getElem?_eq_getElem hj
    refine ⟨a[j].toNat, by omega, by have := u8lt a[j]; omega, ?_⟩
    rw [World.cell?_alloc_lt _ _ _ (by simp)]
    obtain ⟨b, off, e, _, hc⟩ := Txt.new w t a (by omega)
    injection e with e; injection e with e1 e2
    have := hc j _ hg
    rw [← e1, ← e2, Nat.zero_add] at this
    exact this
  free := by
    intro j hj
    simp [World.frozen?, World.alloc, -World.alloc_eq, Array.getElem?_push]
  lt := by simp
  back := by
    intro j c hj
    have hl : 0 < l.length := by
      rcases Nat.eq_zero_or_pos l.length with h0 | h0
      · rw [List.eq_nil_of_length_eq_zero h0] at hj; simp at hj
      · exact h0
    obtain ⟨b, off, e, _, hc⟩ := Txt.new (w.alloc (.cells (cellsB a) t)) t l hl
    injection e with e; injection e with e1 e2
    have := hc j _ hj
    rw [← e1, ← e2, Nat.zero_add] at this
    simpa using this
  below := ((Below.refl _ _).alloc (Nat.le_refl _) _).alloc (by simp) _
theorem Bump.txt {w wr : World} {g m : Nat} {l : List UInt8} (h : Bump w wr g m l) : Txt wr (some ⟨g + 1, 0, none⟩) l := fun _ =>
  ⟨g + 1, 0, rfl, h.lt, fun j c hj => by simpa using h.back j c hj⟩

theorem fit_exact (W : World) (A : Option Addr) (xs out : List UInt8) (m cap n : Nat) (h : Txt W A xs) (hx : xs.length = m) (hm : m ≤ 140737488355328) (hn : n ≤ 1048576) (ho : fitB xs n false = out) :
    Calls Try.prog 15 #[.slice A m cap, .int .i64 n, .bool false] W fun e w' => e = .returned (.tuple #[.slice (some ⟨W.heap.size, 0, none⟩) n n, .int .i64 0]) ∧ W.alloc (.cells (cellsB out) 5) = w' := by
  subst hx ho
  exact fit_any A xs cap n false W h hm hn

set_option maxRecDepth 100000 in
set_option maxHeartbeats 4000000 in
theorem trim_walk (A : Option Addr) (xs : List UInt8) (cap : Nat) (w : World) (h : Txt w A xs) (hl0 : xs.length ≤ maxLen) :
    Calls Try.prog 8 #[.slice A xs.length cap] w fun e w' => e = .returned (.bool true) ∧ Below w.heap.size w w' := by
  by_cases h300 : (300 : Int) < xs.length
  · unfold maxLen at hl0
    go_enter Try.func8, Try.ntmps8
    go_wp2_with fail
    refine (lives_any _).mono ?_; rintro e w' ⟨rfl, hb⟩
    go_wp2
    go_ret
    exact ⟨rfl, hb⟩
  have hl : xs.length ≤ 140737488355328 := by omega
  clear hl0
  have hcv := run_str A xs cap w h
  obtain ⟨t, ht⟩ : ∃ t, t = strB xs := ⟨_, rfl⟩
  rw [← ht] at hcv
  have hts : t.size = xs.length := by rw [ht]; exact strB_size xs
  have HT := Lib.hid ht; clear ht
  have HTS := Lib.hid hts; clear hts
  have HX := Lib.hid h; clear h
  go_enter Try.func8, Try.ntmps8
  go_wp2
  go_loop [3] (fun z => ∃ m : Nat, m ≤ xs.length ∧ z = .int .i64 m ∧ lastI (fun c => !spcB c) xs xs.length = lastI (fun c => !spcB c) xs m) (fun z => (intOf z).toNat)
  case atStart => exact ⟨xs.length, Nat.le_refl _, rfl, rfl⟩
  case round =>
    obtain ⟨m, hm, rfl, he⟩ := hrel
    have HE := Lib.hid he; clear he
    by_cases hgo : ∃ k c, m = k + 1 ∧ xs[k]? = some c ∧ c.toNat = 32
    · obtain ⟨k, c, rfl, hc, h32⟩ := hgo
      obtain ⟨b, off, c', rfl, hb, hc', hcell⟩ := HX.out.at_ (k := k) (by omega)
      obtain rfl : c = c' := by rw [hc] at hc'; injection hc'
      have hcell2 : w.cell? ⟨b, off + k, none⟩ = some (.int .u8 32) := by rw [hcell, h32]; rfl
      have HD : Hid (lastI (fun c => !spcB c) xs (k + 1) = lastI (fun c => !spcB c) xs k) := by
        show _ = _
        have : spcB c = true := by simp [spcB, h32]
        simp [lastI, List.getD, hc, this]
      clear hc hc' hcell h32
      rw [show (((k + 1 : Nat)) : Int) = (k : Int) + 1 from by omega]
      go_wp2
      go_round
      case rel => exact ⟨k, by omega, by go_num, by rw [HE.out, HD.out]⟩
      case measure => simp only [intOf]; omega
    · have hN : trimN xs = m := trimN_of HE.out (by
        rcases m with _ | k
        · exact .inl rfl
        · refine .inr ⟨k, xs[k], rfl, List.getElem?_eq_getElem (by omega), fun e => hgo ⟨k, xs[k], rfl, List.getElem?_eq_getElem (by omega), e⟩⟩)
      have hmt : m ≤ t.size := by rw [HTS.out]; exact hm
      have HN := Lib.hid hN; clear hN
      have HTL : Hid (trimB xs = (t.extract 0 m).data.toList) := by
        show _ = _
        rw [HT.out]
        unfold trimB
        rw [HN.out]
        simp [strB]
      rcases m with _ | k
      · clear hgo
        go_wp2_with fail
        refine (trim_any A xs cap w HX.out hl).mono ?_; rintro e w' ⟨rfl, rfl⟩
        rw [HN.out]
        go_wp2_with fail
        refine (bytes_lit _ _ (trimB xs) 0 _ (Txt.new w _ _) (by rw [trimB_length]; exact HN.out) (by omega) (by rw [HTL.out]; simp)).mono ?_; rintro e w' ⟨rfl, rfl⟩
        go_wp2_with fail
        refine (fit_exact _ _ (trimB xs) xs 0 0 xs.length (Txt.new w _ _) (by rw [trimB_length]; exact HN.out) (by omega) (by omega) (fit_trim xs)).mono ?_; rintro e w' ⟨rfl, rfl⟩
        have HS : Hid (Bump w ((w.alloc (.cells (cellsB (trimB xs)) 5)).alloc (.cells (cellsB xs) 5)) w.heap.size 0 xs) := by
          have := Bump.made w 5 (trimB xs) xs
          rw [trimB_length, HN.out] at this
          exact this
        go_wp2
        go_loopw [8] (fun i wr => ∃ j : Nat, j ≤ 0 ∧ i = .int .i64 j ∧ Hid (Bump w wr w.heap.size 0 xs)) (fun i _ => 0 - (intOf i).toNat)
        case atStart => exact ⟨0, Nat.zero_le _, rfl, HS⟩
        case round =>
          obtain ⟨j, hj, rfl, HB⟩ := hrel
          by_cases hlt : j < 0
          · exact absurd hlt (Nat.not_lt_zero j)
          · have hbw : Below w.heap.size w wr := HB.out.below
            have hcv2 := run_str A xs cap wr (HX.out.below hbw)
            rw [← HT.out] at hcv2
            have HW := Lib.hid hbw; clear hbw
            go_wp2_with fail
            refine (bytes_lit wr _ xs xs.length t HB.out.txt rfl hl (by rw [HT.out]; rfl)).mono ?_; rintro e w' ⟨rfl, rfl⟩
            go_wp2_with fail
            refine (lives_any _).mono ?_; rintro e w' ⟨rfl, hb⟩
            have hbl := HW.out.trans (hb.mono HW.out.size)
            clear hb
            go_wp2
            go_ret
            exact ⟨rfl, hbl⟩
      · obtain ⟨b, off, c, rfl, hb, hc, hcell⟩ := HX.out.at_ (k := k) (by omega)
        have hne : ((c.toNat : Int) == 32) = false := by
          have : c.toNat ≠ 32 := fun e => hgo ⟨k, c, rfl, hc, e⟩
          simp; omega
        clear hgo hc
        rw [show (((k + 1 : Nat)) : Int) = (k : Int) + 1 from by omega]
        go_wp2_with fail
        refine (trim_any (some ⟨b, off, none⟩) xs cap w HX.out hl).mono ?_; rintro e w' ⟨rfl, rfl⟩
        rw [HN.out]
        go_wp2_with fail
        refine (bytes_lit _ _ (trimB xs) (k + 1) _ (Txt.new w _ _) (by rw [trimB_length]; exact HN.out) (by omega) HTL.out).mono ?_; rintro e w' ⟨rfl, rfl⟩
        go_wp2_with fail
        refine (fit_exact _ _ (trimB xs) xs (k + 1) (k + 1) xs.length (Txt.new w _ _) (by rw [trimB_length]; exact HN.out) (by omega) (by omega) (fit_trim xs)).mono ?_; rintro e w' ⟨rfl, rfl⟩
        have HS : Hid (Bump w ((w.alloc (.cells (cellsB (trimB xs)) 5)).alloc (.cells (cellsB xs) 5)) w.heap.size (k + 1) xs) := by
          have := Bump.made w 5 (trimB xs) xs
          rw [trimB_length, HN.out] at this
          exact this
        go_wp2
        go_loopw [8] (fun i wr => ∃ j : Nat, j ≤ (k + 1) ∧ i = .int .i64 j ∧ Hid (Bump w wr w.heap.size (k + 1) xs)) (fun i _ => (k + 1) - (intOf i).toNat)
        case atStart => exact ⟨0, Nat.zero_le _, rfl, HS⟩
        case round =>
          obtain ⟨j, hj, rfl, HB⟩ := hrel
          by_cases hlt : j < (k + 1)
          · obtain ⟨v, v0, v1, hcj⟩ := HB.out.cell j hlt
            have hfj := HB.out.free j hlt
            go_wp2
            go_roundw
            case rel => exact ⟨j + 1, by omega, by go_num, HB.out.store j hlt _ (by omega) (by omega)⟩
            case measure => simp only [intOf] <;> omega
          · have hbw : Below w.heap.size w wr := HB.out.below
            have hcv2 := run_str (some ⟨b, off, none⟩) xs cap wr (HX.out.below hbw)
            rw [← HT.out] at hcv2
            have HW := Lib.hid hbw; clear hbw
            go_wp2_with fail
            refine (bytes_lit wr _ xs xs.length t HB.out.txt rfl hl (by rw [HT.out]; rfl)).mono ?_; rintro e w' ⟨rfl, rfl⟩
            go_wp2_with fail
            refine (lives_any _).mono ?_; rintro e w' ⟨rfl, hb⟩
            have hbl := HW.out.trans (hb.mono HW.out.size)
            clear hb
            go_wp2
            go_ret
            exact ⟨rfl, hbl⟩
end Go.Proofs.Ytmcehldfeppkbaa
