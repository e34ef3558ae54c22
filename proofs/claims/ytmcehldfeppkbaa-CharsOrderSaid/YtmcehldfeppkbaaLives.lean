/-
  The law's own function lives returns true: the examples of the chapter. It writes nothing that was there.
-/
import Derived.Test.YtmcehldfeppkbaaFold
import Derived.Test.YtmcehldfeppkbaaMore
import Derived.Lib.SlBytesConst
import Derived.Handy
namespace Go.Proofs.Ytmcehldfeppkbaa
open Go.RowKit
set_option linter.unusedVariables false
set_option linter.unusedSimpArgs false

theorem isDigits_lit (s : ByteArray) (b : Bool) (hs : s.size ≤ 140737488355328) (h : isDigitsB s.data.toList = b) (w : World) : Calls Try.prog 10 #[.string s] w fun e w' => e = .returned (.bool b) ∧ w = w' := by
  subst h; exact isDigits_any s hs w
theorem isName_lit (s : ByteArray) (b : Bool) (hs : s.size ≤ 140737488355328) (h : isNameB s.data.toList = b) (w : World) : Calls Try.prog 11 #[.string s] w fun e w' => e = .returned (.bool b) ∧ w = w' := by
  subst h; exact isName_any s hs w
theorem fold_lit (s t : ByteArray) (hs : s.size ≤ 140737488355328) (h : foldB s.data.toList = t.data.toList) (w : World) : Calls Try.prog 13 #[.string s] w fun e w' => e = .returned (.string t) ∧ Below w.heap.size w w' := by
  have ht : strB (foldB s.data.toList) = t := by rw [h]; rfl
  have := fold_any s hs w
  rw [ht] at this; exact this

/-- A new text: the slice value, of n bytes and no more room, holds them; what was there is as it was. -/
def Gives (W : World) (n : Nat) (out : List UInt8) (v : Value) (w' : World) : Prop := ∃ A, v = .slice A n n ∧ Hid (Txt w' A out) ∧ Below W.heap.size W w'

theorem gives_new (W : World) (t : TypeId) (n : Nat) (out : List UInt8) (h : out.length = n) : Gives W n out (.slice (some ⟨W.heap.size, 0, none⟩) n n) (W.alloc (.cells (cellsB out) t)) :=
  ⟨_, rfl, Txt.new W t out, (Below.refl _ _).alloc (Nat.le_refl _) _⟩
theorem fill_lit (W : World) (A : Option Addr) (xs out : List UInt8) (m n : Nat) (k : Int) (h : Txt W A xs) (hx : xs.length = m) (h0 : 0 < m) (hm : m ≤ 140737488355328) (hk : k = n) (hn : n ≤ 1048576) (ho : fillB xs n = out) :
    Calls Try.prog 18 #[.slice A m m, .int .i64 k] W fun e w' => ∃ v, e = .returned (.tuple #[v, .int .i64 0]) ∧ Gives W n out v w' := by
  subst hx hk ho
  refine (fill_any A xs xs.length n W h h0 hm hn).mono ?_
  rintro e w' ⟨rfl, rfl⟩
  exact ⟨_, rfl, gives_new W _ n _ (fillB_length _ _)⟩
theorem fit_lit (W : World) (A : Option Addr) (xs out : List UInt8) (m n : Nat) (k : Int) (left : Bool) (h : Txt W A xs) (hx : xs.length = m) (hm : m ≤ 140737488355328) (hk : k = n) (hn : n ≤ 1048576) (ho : fitB xs n left = out) :
    Calls Try.prog 15 #[.slice A m m, .int .i64 k, .bool left] W fun e w' => ∃ v, e = .returned (.tuple #[v, .int .i64 0]) ∧ Gives W n out v w' := by
  subst hx hk ho
  refine (fit_any A xs xs.length n left W h hm hn).mono ?_
  rintro e w' ⟨rfl, rfl⟩
  exact ⟨_, rfl, gives_new W _ n _ (fitB_length _ _ _)⟩
theorem trim_lit (W : World) (A : Option Addr) (xs out : List UInt8) (m n : Nat) (h : Txt W A xs) (hx : xs.length = m) (hm : m ≤ 140737488355328) (hn : trimN xs = n) (ho : trimB xs = out) :
    Calls Try.prog 17 #[.slice A m m] W fun e w' => ∃ v, e = .returned v ∧ Gives W n out v w' := by
  subst hx hn ho
  refine (trim_any A xs xs.length W h hm).mono ?_
  rintro e w' ⟨rfl, rfl⟩
  exact ⟨_, rfl, gives_new W _ _ _ (trimB_length _)⟩
theorem bytes_lit (W : World) (A : Option Addr) (xs : List UInt8) (n : Nat) (s : ByteArray) (h : Txt W A xs) (hx : xs.length = n) (hm : n ≤ 140737488355328) (hs : xs = s.data.toList) :
    Calls Try.prog 19 #[.slice A n n, .string s] W fun e w' => e = .returned (.int .i64 0) ∧ W = w' := by
  subst hx
  have := bytes_any A xs xs.length s W h hm hm
  rw [if_pos ⟨hs, Nat.le_refl _⟩] at this
  exact this
theorem compare_lit (W : World) (A A' : Option Addr) (xs ys : List UInt8) (m n : Nat) (r : Int) (h : Txt W A xs) (h' : Txt W A' ys) (hx : xs.length = m) (hy : ys.length = n) (hm : m ≤ 140737488355328) (hn : n ≤ 140737488355328) (hr : cmpB xs ys = r) :
    Calls Try.prog 16 #[.slice A m m, .slice A' n n] W fun e w' => e = .returned (.int .i64 r) ∧ W = w' := by
  subst hx hy hr
  exact compare_any A A' xs ys _ _ W h h' hm hn
/-- A row that a literal has laid, with its mark. -/
theorem Txt.marked (w : World) (C : Array Value) (t : TypeId) (fr : Nat × Nat) (l : List UInt8) (h : C = cellsB l) : Txt (w.alloc (.cells C t fr)) (some ⟨w.heap.size, 0, none⟩) l := fun _ =>
  ⟨w.heap.size, 0, rfl, by simp, fun j c hj => by
    have := cellsB_get l j c hj
    rw [h]
    simp [World.cell?, World.alloc, -World.alloc_eq, this]⟩

theorem Txt.marked' {w : World} {C : Array Value} {t : TypeId} {fr : Nat × Nat} {g : Nat} (l : List UInt8) (h : C = cellsB l) (hg : g = w.heap.size) : Txt (w.alloc (.cells C t fr)) (some ⟨g, 0, none⟩) l := by
  subst hg; exact Txt.marked w C t fr l h
theorem Gives.old {W w w' : World} {n : Nat} {out : List UInt8} {v : Value} (h : Gives W n out v w') (hb : Below w.heap.size w W) : Below w.heap.size w w' := by
  obtain ⟨_, _, _, h⟩ := h
  exact hb.trans (h.mono hb.size)
theorem run_const_at (W : World) (C : Array Value) (n c m : Nat) (hm : m = W.heap.size) :
    (convert 25 25 (.slice (some ⟨m, 0, none⟩) n c)).run Try.prog (W.alloc (.cells C 5)) = .ok (.slice (some ⟨m, 0, none⟩) n c) (W.alloc (.cells C 5 (C.size, C.size + 1))) := by
  subst hm
  exact Lib.run_convert_bytes_const (P := Try.prog) W 25 5 C n c Try.underlying25 Try.underlying5

set_option maxRecDepth 100000 in
set_option maxHeartbeats 4000000 in
theorem lives_any (w : World) : Calls Try.prog 9 #[] w fun e w' => e = .returned (.bool true) ∧ Below w.heap.size w w' := by
  have hkc := run_const_at
  go_enter Try.func9, Try.ntmps9
  go_wp2_with fail
  refine (isDigits_lit _ true (by decide) (by decide) _).mono ?_; rintro e w' ⟨rfl, rfl⟩
  go_wp2_with fail
  refine (isDigits_lit _ false (by decide) (by decide) _).mono ?_; rintro e w' ⟨rfl, rfl⟩
  go_wp2_with fail
  refine (isDigits_lit _ false (by decide) (by decide) _).mono ?_; rintro e w' ⟨rfl, rfl⟩
  go_wp2_with fail
  refine (isName_lit _ true (by decide) (by decide) _).mono ?_; rintro e w' ⟨rfl, rfl⟩
  go_wp2_with fail
  refine (isName_lit _ true (by decide) (by decide) _).mono ?_; rintro e w' ⟨rfl, rfl⟩
  go_wp2_with fail
  refine (isName_lit _ false (by decide) (by decide) _).mono ?_; rintro e w' ⟨rfl, rfl⟩
  go_wp2_with fail
  refine (isName_lit _ false (by decide) (by decide) _).mono ?_; rintro e w' ⟨rfl, rfl⟩
  go_wp2_with fail
  refine (isName_lit _ false (by decide) (by decide) _).mono ?_; rintro e w' ⟨rfl, rfl⟩
  go_wp2_with fail
  refine (fold_lit _ ⟨#[65, 90, 45, 57, 123]⟩ (by decide) (by decide) _).mono ?_; rintro e w1 ⟨rfl, b1⟩
  go_wp2_with fail
  -- Fill("ab", 5)
  refine (fill_lit _ _ [97, 98] [97, 98, 97, 98, 97] 2 5 5 (Txt.marked' _ rfl rfl) rfl (by decide) (by decide) rfl (by decide) (by decide)).mono ?_; rintro e w2 ⟨_, rfl, A1, rfl, t1, b2⟩
  have b2 := b1.trans ((((Below.refl _ _).alloc (Nat.le_refl _) _).trans (b2.mono (by simp))).mono b1.size)
  clear b1
  go_wp2_with fail
  -- Fill(nil, 0)
  refine (fill_none _ _ _).mono ?_; rintro e w3 ⟨rfl, h3⟩
  have t1 : Hid (Txt w3 A1 [97, 98, 97, 98, 97]) := by rw [← h3]; exact t1.out.alloc _
  have b3 : Below w.heap.size w w3 := by rw [← h3]; exact b2.alloc b2.size _
  clear h3 b2
  go_wp2_with fail
  -- Fill(nil, 1)
  refine (fill_width _ _ 1 (by decide) (by decide) _).mono ?_; rintro e w' ⟨rfl, rfl⟩
  go_wp2_with fail
  -- Fit("abc", 5)
  refine (fit_lit _ _ [97, 98, 99] [97, 98, 99, 32, 32] 3 5 5 false (Txt.marked' _ rfl rfl) rfl (by decide) rfl (by decide) (by decide)).mono ?_; rintro e w4 ⟨_, rfl, A2, rfl, t2, b4⟩
  have b4 := ((Below.refl _ _).alloc (Nat.le_refl _) _).trans (b4.mono (by simp))
  have t1 : Hid (Txt w4 A1 _) := t1.out.below b4
  have b4 := b3.trans (b4.mono b3.size)
  clear b3
  go_wp2_with fail
  -- Fit("abc", 2)
  refine (fit_lit _ _ [97, 98, 99] [97, 98] 3 2 2 false (Txt.marked' _ rfl rfl) rfl (by decide) rfl (by decide) (by decide)).mono ?_; rintro e w5 ⟨_, rfl, A3, rfl, t3, b5⟩
  have b5 := ((Below.refl _ _).alloc (Nat.le_refl _) _).trans (b5.mono (by simp))
  have t1 : Hid (Txt w5 A1 _) := t1.out.below b5
  have t2 : Hid (Txt w5 A2 _) := t2.out.below b5
  have b5 := b4.trans (b5.mono b4.size)
  clear b4
  go_wp2_with fail
  -- Fit("abc", 5, left)
  refine (fit_lit _ _ [97, 98, 99] [32, 32, 97, 98, 99] 3 5 5 true (Txt.marked' _ rfl rfl) rfl (by decide) rfl (by decide) (by decide)).mono ?_; rintro e w6 ⟨_, rfl, A4, rfl, t4, b6⟩
  have b6 := ((Below.refl _ _).alloc (Nat.le_refl _) _).trans (b6.mono (by simp))
  have t1 : Hid (Txt w6 A1 _) := t1.out.below b6
  have t2 : Hid (Txt w6 A2 _) := t2.out.below b6
  have t3 : Hid (Txt w6 A3 _) := t3.out.below b6
  have b6 := b5.trans (b6.mono b5.size)
  clear b5
  go_wp2_with fail
  -- Fit("abc", 2, left)
  refine (fit_lit _ _ [97, 98, 99] [98, 99] 3 2 2 true (Txt.marked' _ rfl rfl) rfl (by decide) rfl (by decide) (by decide)).mono ?_; rintro e w7 ⟨_, rfl, A5, rfl, t5, b7⟩
  have b7 := ((Below.refl _ _).alloc (Nat.le_refl _) _).trans (b7.mono (by simp))
  have t1 : Hid (Txt w7 A1 _) := t1.out.below b7
  have t2 : Hid (Txt w7 A2 _) := t2.out.below b7
  have t3 : Hid (Txt w7 A3 _) := t3.out.below b7
  have t4 : Hid (Txt w7 A4 _) := t4.out.below b7
  have b7 := b6.trans (b7.mono b6.size)
  clear b6
  go_wp2_with fail
  refine (bytes_lit _ _ [97, 98, 97, 98, 97] 5 _ t1.out rfl (by decide) (by decide)).mono ?_; rintro e w' ⟨rfl, rfl⟩
  go_wp2_with fail
  refine (bytes_lit _ _ [97, 98, 99, 32, 32] 5 _ t2.out rfl (by decide) (by decide)).mono ?_; rintro e w' ⟨rfl, rfl⟩
  go_wp2_with fail
  refine (bytes_lit _ _ [97, 98] 2 _ t3.out rfl (by decide) (by decide)).mono ?_; rintro e w' ⟨rfl, rfl⟩
  go_wp2_with fail
  refine (bytes_lit _ _ [32, 32, 97, 98, 99] 5 _ t4.out rfl (by decide) (by decide)).mono ?_; rintro e w' ⟨rfl, rfl⟩
  go_wp2_with fail
  refine (bytes_lit _ _ [98, 99] 2 _ t5.out rfl (by decide) (by decide)).mono ?_; rintro e w' ⟨rfl, rfl⟩
  go_wp2_with fail
  refine (trim_lit _ _ [32, 97, 32, 32] [32, 97] 4 2 (Txt.marked' _ rfl rfl) rfl (by decide) (by decide) (by decide)).mono ?_; rintro e w8 ⟨_, rfl, A6, rfl, t6, b8⟩
  have b8 := b7.trans ((((Below.refl _ _).alloc (Nat.le_refl _) _).trans (b8.mono (by simp))).mono b7.size)
  clear b7 t1 t2 t3 t4 t5
  go_wp2_with fail
  refine (bytes_lit _ _ [32, 97] 2 _ t6.out rfl (by decide) (by decide)).mono ?_; rintro e w' ⟨rfl, rfl⟩
  clear t6
  go_wp2_with fail
  refine (compare_lit _ _ _ [65, 66] [65, 66, 32] 2 3 0 ((Txt.marked' _ rfl rfl).alloc _) (Txt.marked' _ rfl (by simp)) rfl rfl (by decide) (by decide) (by decide)).mono ?_; rintro e w' ⟨rfl, rfl⟩
  go_wp2_with fail
  refine (compare_lit _ _ _ [65] [65, 33] 1 2 (-1) ((Txt.marked' _ rfl (by simp)).alloc _) (Txt.marked' _ rfl (by simp)) rfl rfl (by decide) (by decide) (by decide)).mono ?_; rintro e w' ⟨rfl, rfl⟩
  go_wp2_with fail
  refine (compare_lit _ _ _ [66] [65, 126] 1 2 1 ((Txt.marked' _ rfl (by simp)).alloc _) (Txt.marked' _ rfl (by simp)) rfl rfl (by decide) (by decide) (by decide)).mono ?_; rintro e w' ⟨rfl, rfl⟩
  go_wp2_with fail
  refine (compare_lit _ _ _ [65] [65, 0] 1 2 1 ((Txt.marked' _ rfl (by simp)).alloc _) (Txt.marked' _ rfl (by simp)) rfl rfl (by decide) (by decide) (by decide)).mono ?_; rintro e w' ⟨rfl, rfl⟩
  have hs8 := b8.size
  go_wp2
  go_ret
  exact ⟨rfl, by go_grown⟩
end Go.Proofs.Ytmcehldfeppkbaa
