/-
  Texts of this seat, merged: Base Plain Text Print TokS TokP TokR TokM TokW Mem App Cpy FoldP Rf3p.
-/
import Derived.Test.YtpalfhfbgfnacaaGreatDoorRows
import Derived.WalkKit
import Derived.WalkSpells
import Derived.WalkLawsBesides
import Derived.Laws.BytesArg
import Derived.Lib.Hide
import Derived.Lib.ConvBytes
import Derived.Lib.ReplaceLaws
import Derived.Lib.Replace
import Derived.Lib.CountLaws
import Derived.Lib.IndexLaws
import Derived.Below
import Derived.OneCell
import Derived.Laws.AppendOwn
import Derived.Laws.OwnMore
import Derived.Lib.SmallJoins
import Derived.Maps.AppendAt
import Derived.Laws.CopyRow
import Derived.Sort.Walk0
/-
  Plain words for the texts of this seat: bytes, a slice of bytes that reads as a list, the cells of a new row. No program is named here.
-/
namespace Go.Proofs.YtpalfhfbgfnacaaGreatDoor
open Go.RowKit
set_option linter.unusedVariables false
set_option linter.unusedSimpArgs false

/-! ### Bytes -/
def digB (c : UInt8) : Bool := decide (48 ≤ c.toNat) && decide (c.toNat ≤ 57)
def capB (c : UInt8) : Bool := decide (65 ≤ c.toNat) && decide (c.toNat ≤ 90)
def prtB (c : UInt8) : Bool := decide (32 ≤ c.toNat) && decide (c.toNat ≤ 126)
def nameB (c : UInt8) : Bool := capB c || digB c || decide (c.toNat = 45)
def spcB (c : UInt8) : Bool := decide (c.toNat = 32)
def smallB (c : UInt8) : Bool := decide (97 ≤ c.toNat) && decide (c.toNat ≤ 122)
def upB (c : UInt8) : UInt8 := if smallB c = true then UInt8.ofNat (c.toNat - 32) else c

theorem u8lt (c : UInt8) : (c.toNat : Int) < 256 := by have := c.toNat_lt; omega
theorem u8_eq {a b : UInt8} (h : a.toNat = b.toNat) : a = b := by
  have := congrArg UInt8.ofNat h; simpa using this

/-- The place of the first byte that is wanted, or -1. -/
def firstI (p : UInt8 → Bool) : Nat → List UInt8 → Int
  | _, [] => -1
  | k, c :: l => if p c = true then (k : Int) else firstI p (k + 1) l
theorem firstI_none (p : UInt8 → Bool) : ∀ (l : List UInt8) (k : Nat), l.all (fun c => !p c) = true → firstI p k l = -1
  | [], _, _ => rfl
  | c :: l, k, h => by
    simp only [List.all_cons, Bool.and_eq_true, Bool.not_eq_true'] at h
    simp [firstI, h.1, firstI_none p l (k + 1) h.2]
theorem firstI_some (p : UInt8 → Bool) : ∀ (l : List UInt8) (k : Nat), l.all (fun c => !p c) = false → 0 ≤ firstI p k l
  | [], _, h => by simp at h
  | c :: l, k, h => by
    by_cases hc : p c = true
    · simp [firstI, hc]
    · simp only [firstI, hc]
      refine firstI_some p l (k + 1) ?_
      simpa [hc] using h
theorem firstI_drop (p : UInt8 → Bool) (l : List UInt8) (k : Nat) (c : UInt8) (h : l[k]? = some c) :
    firstI p k (l.drop k) = if p c = true then (k : Int) else firstI p (k + 1) (l.drop (k + 1)) := by
  have hk : k < l.length := by
    rcases Nat.lt_or_ge k l.length with hk | hk
    · exact hk
    · rw [List.getElem?_eq_none hk] at h; cases h
  rw [List.drop_eq_getElem_cons hk]
  rw [List.getElem?_eq_getElem hk] at h
  injection h with h
  rw [h]
  rfl

/-- The place of the last byte that is wanted among the first n, or -1. -/
def lastI (p : UInt8 → Bool) (l : List UInt8) : Nat → Int
  | 0 => -1
  | k + 1 => if p (l.getD k 0) = true then (k : Int) else lastI p l k
theorem lastI_lo (p : UInt8 → Bool) (l : List UInt8) : ∀ k, -1 ≤ lastI p l k ∧ lastI p l k < k
  | 0 => by simp [lastI]
  | k + 1 => by
    have := lastI_lo p l k
    simp only [lastI]
    split <;> omega

/-! ### A slice of bytes that reads as a list; nil is let in -/
def Txt (w : World) (A : Option Addr) (xs : List UInt8) : Prop :=
  0 < xs.length → ∃ b off, A = some ⟨b, off, none⟩ ∧ b < w.heap.size ∧ ∀ j c, xs[j]? = some c → w.cell? ⟨b, off + j, none⟩ = some (.int .u8 c.toNat)
theorem Txt.nil (w : World) (A : Option Addr) : Txt w A [] := fun h => absurd h (by simp)
theorem Txt.keep {w w' : World} {A : Option Addr} {xs : List UInt8} (h : Txt w A xs) (hs : w.heap.size ≤ w'.heap.size) (hk : ∀ p : Addr, p.block < w.heap.size → w'.cell? p = w.cell? p) : Txt w' A xs := fun hl => by
  obtain ⟨b, off, e, hb, hc⟩ := h hl
  exact ⟨b, off, e, by omega, fun j c hj => (hk ⟨b, off + j, none⟩ hb).trans (hc j c hj)⟩
theorem Txt.below {w w' : World} {A : Option Addr} {xs : List UInt8} (h : Txt w A xs) (hb : Below w.heap.size w w') : Txt w' A xs := h.keep hb.size fun _ hp => hb.cell hp
theorem Txt.alloc {w : World} {A : Option Addr} {xs : List UInt8} (h : Txt w A xs) (o : Obj) : Txt (w.alloc o) A xs := h.below ((Below.refl _ _).alloc (Nat.le_refl _) o)
theorem Txt.at_ {w : World} {A : Option Addr} {xs : List UInt8} (h : Txt w A xs) {k : Nat} (hk : k < xs.length) :
    ∃ b off c, A = some ⟨b, off, none⟩ ∧ b < w.heap.size ∧ xs[k]? = some c ∧ w.cell? ⟨b, off + k, none⟩ = some (.int .u8 c.toNat) := by
  obtain ⟨b, off, e, hb, hc⟩ := h (by omega)
  exact ⟨b, off, xs[k], e, hb, List.getElem?_eq_getElem hk, hc k _ (List.getElem?_eq_getElem hk)⟩

/-- The cells of a row of bytes. -/
def cellsB (l : List UInt8) : Array Value := (l.map fun c => Value.int .u8 c.toNat).toArray
theorem cellsB_size (l : List UInt8) : (cellsB l).size = l.length := by simp [cellsB]
theorem cellsB_get (l : List UInt8) (j : Nat) (c : UInt8) (h : l[j]? = some c) : (cellsB l)[j]? = some (.int .u8 c.toNat) := by
  simp [cellsB, h]
theorem Txt.new (w : World) (t : TypeId) (l : List UInt8) : Txt (w.alloc (.cells (cellsB l) t)) (some ⟨w.heap.size, 0, none⟩) l := fun _ =>
  ⟨w.heap.size, 0, rfl, by simp, fun j c hj => by
    have := cellsB_get l j c hj
    simp [World.cell?, World.alloc, -World.alloc_eq, this]⟩
end Go.Proofs.YtpalfhfbgfnacaaGreatDoor

/-
  Plain words on lists of bytes: comparing padded texts, filling, fitting, trimming, folding. No program is named here.
-/
namespace Go.Proofs.YtpalfhfbgfnacaaGreatDoor
open Go.RowKit
set_option linter.unusedVariables false
set_option linter.unusedSimpArgs false

/-- The byte at a place of the padded text. -/
def padB (l : List UInt8) (k : Nat) : UInt8 := l.getD k 32
theorem padB_some {l : List UInt8} {k : Nat} {c : UInt8} (h : l[k]? = some c) : padB l k = c := by simp [padB, List.getD, h]
theorem padB_out {l : List UInt8} {k : Nat} (h : l.length ≤ k) : padB l k = 32 := by simp [padB, List.getD, List.getElem?_eq_none h]

def cmpFrom (a b : List UInt8) : Nat → Nat → Int
  | 0, _ => 0
  | n + 1, k => if (padB a k).toNat < (padB b k).toNat then -1 else if (padB b k).toNat < (padB a k).toNat then 1 else cmpFrom a b n (k + 1)
def cmpB (a b : List UInt8) : Int := cmpFrom a b (max a.length b.length) 0

theorem cmpFrom_step (a b : List UInt8) (n k : Nat) (h : k < n) :
    cmpFrom a b (n - k) k = if (padB a k).toNat < (padB b k).toNat then -1 else if (padB b k).toNat < (padB a k).toNat then 1 else cmpFrom a b (n - (k + 1)) (k + 1) := by
  rw [show n - k = (n - (k + 1)) + 1 from by omega]
  rfl

def fillAt (l : List UInt8) (i : Nat) : UInt8 := l.getD (i % l.length) 0
def fillB (l : List UInt8) (n : Nat) : List UInt8 := (List.range n).map (fillAt l)
/-- The byte at place i of a text that is fitted: shift is 0, or the length less n. -/
def fitAt (l : List UInt8) (shift : Int) (i : Nat) : UInt8 := if 0 ≤ (i : Int) + shift ∧ (i : Int) + shift < l.length then l.getD ((i : Int) + shift).toNat 0 else 32
theorem fitAt_in {l : List UInt8} {sh : Int} {i : Nat} {c : UInt8} (h0 : 0 ≤ (i : Int) + sh) (h1 : (i : Int) + sh < l.length) (h : l[((i : Int) + sh).toNat]? = some c) : fitAt l sh i = c := by
  unfold fitAt; rw [if_pos ⟨h0, h1⟩]; simp [List.getD, h]
theorem fitAt_zero {l : List UInt8} {i : Nat} {c : UInt8} (h : l[i]? = some c) : fitAt l 0 i = c := by
  have hi : i < l.length := by
    rcases Nat.lt_or_ge i l.length with hk | hk
    · exact hk
    · rw [List.getElem?_eq_none hk] at h; cases h
  exact fitAt_in (by omega) (by omega) (by simpa using h)
theorem fitAt_out {l : List UInt8} {sh : Int} {i : Nat} (h : ¬ (0 ≤ (i : Int) + sh ∧ (i : Int) + sh < l.length)) : fitAt l sh i = 32 := by
  unfold fitAt; rw [if_neg h]
def fitB (l : List UInt8) (n : Nat) (left : Bool) : List UInt8 := (List.range n).map fun i => fitAt l (if left = true then (l.length : Int) - n else 0) i
def trimN (l : List UInt8) : Nat := (lastI (fun c => !spcB c) l l.length + 1).toNat
def trimB (l : List UInt8) : List UInt8 := l.take (trimN l)
def foldB (l : List UInt8) : List UInt8 := l.map upB
def isDigitsB (l : List UInt8) : Bool := !l.isEmpty && l.all digB
def isNameB (l : List UInt8) : Bool := !l.isEmpty && decide (l.length ≤ 30) && !decide ((l.getD 0 0).toNat = 45) && !decide ((l.getD (l.length - 1) 0).toNat = 45) && l.all nameB && l.any capB
def printB (l : List UInt8) : Bool := l.all prtB

theorem fillB_at {l : List UInt8} {i : Nat} {c : UInt8} (h : l[i % l.length]? = some c) : fillAt l i = c := by simp [fillAt, List.getD, h]
theorem trimN_le (l : List UInt8) : trimN l ≤ l.length := by
  have := lastI_lo (fun c => !spcB c) l l.length
  unfold trimN; omega
theorem trimB_length (l : List UInt8) : (trimB l).length = trimN l := by
  have := trimN_le l
  simp [trimB]; omega
theorem fillB_length (l : List UInt8) (n : Nat) : (fillB l n).length = n := by simp [fillB]
theorem fitB_length (l : List UInt8) (n : Nat) (left : Bool) : (fitB l n left).length = n := by simp [fitB]

/-- A row of n cells that is filled from its beginning on: the first k are those of f, the others 0. -/
def partB (f : Nat → UInt8) (n k : Nat) : List UInt8 := (List.range n).map fun i => if i < k then f i else 0
theorem partB_length (f : Nat → UInt8) (n k : Nat) : (partB f n k).length = n := by simp [partB]
theorem partB_zero (f : Nat → UInt8) (n : Nat) : partB f n 0 = List.replicate n 0 := by
  apply List.ext_getElem <;> simp [partB]
theorem partB_full (f : Nat → UInt8) (n : Nat) : partB f n n = (List.range n).map f := by
  apply List.ext_getElem
  · simp [partB]
  · intro i h1 h2; simp [partB] at h1 ⊢; intro h; omega
theorem partB_succ (f : Nat → UInt8) (n k : Nat) : (partB f n k).set k (f k) = partB f n (k + 1) := by
  apply List.ext_getElem
  · simp [partB]
  · intro i h1 h2
    simp only [partB, List.length_set, List.length_map, List.length_range] at h1
    simp only [List.getElem_set, partB, List.getElem_map, List.getElem_range]
    by_cases e : k = i
    · subst e; simp
    · have e2 : (i < k + 1) = (i < k) := by simp; omega
      simp [e, e2]
theorem cellsB_set (l : List UInt8) (k : Nat) (c : UInt8) : (cellsB l).setIfInBounds k (.int .u8 c.toNat) = cellsB (l.set k c) := by
  simp [cellsB, List.map_set]
theorem cellsB_zero (n : Nat) : cellsB (List.replicate n 0) = Array.replicate n (.int .u8 0) := by
  simp [cellsB]
end Go.Proofs.YtpalfhfbgfnacaaGreatDoor

/-
  Plain words on strings as lists of bytes. No program is named here.
-/
namespace Go.Proofs.YtpalfhfbgfnacaaGreatDoor
open Go.RowKit
set_option linter.unusedVariables false
set_option linter.unusedSimpArgs false

/-- The string of a list of bytes. -/
def strL (l : List UInt8) : ByteArray := ⟨l.toArray⟩
theorem strL_data (l : List UInt8) : (strL l).data.toList = l := rfl
theorem strL_of (s : ByteArray) : strL s.data.toList = s := rfl
theorem strL_size (l : List UInt8) : (strL l).size = l.length := rfl
theorem size_data (s : ByteArray) : s.size = s.data.toList.length := Array.length_toList.symm
theorem get_data (s : ByteArray) (k : Nat) (h : k < s.size) : s.data.toList[k]? = some s[k] := by
  have : k < s.data.toList.length := by rw [← size_data]; exact h
  rw [List.getElem?_eq_getElem this]; rfl
theorem str_ext {a b : ByteArray} (h : a.data.toList = b.data.toList) : a = b := by
  rw [← strL_of a, ← strL_of b, h]
theorem extract_data (s : ByteArray) (i j : Nat) : (s.extract i j).data.toList = (s.data.toList.take j).drop i := by
  simp [ByteArray.data_extract, List.extract_eq_take_drop]
  rw [List.drop_take]
theorem append_data (a b : ByteArray) : (a ++ b).data.toList = a.data.toList ++ b.data.toList := by simp

/-- The index of the first byte that is not a space, or the length. -/
def fstN : List UInt8 → Nat
  | [] => 0
  | c :: l => if c.toNat = 32 then fstN l + 1 else 0
theorem fstN_le : ∀ l, fstN l ≤ l.length
  | [] => Nat.le_refl _
  | c :: l => by have := fstN_le l; simp only [fstN, List.length_cons]; split <;> omega
theorem fstN_drop (l : List UInt8) (k : Nat) (c : UInt8) (h : l[k]? = some c) : fstN (l.drop k) = if c.toNat = 32 then fstN (l.drop (k + 1)) + 1 else 0 := by
  have hk : k < l.length := by
    rcases Nat.lt_or_ge k l.length with hk | hk
    · exact hk
    · rw [List.getElem?_eq_none hk] at h; cases h
  rw [List.drop_eq_getElem_cons hk]
  rw [List.getElem?_eq_getElem hk] at h
  injection h with h
  rw [h]; rfl

/-- The number of quotes. -/
def qn (l : List UInt8) : Nat := l.countP fun c => decide (c.toNat = 34)
def openB (l : List UInt8) : Bool := decide (qn l % 2 = 1)
theorem qn_le (l : List UInt8) : qn l ≤ l.length := List.countP_le_length
theorem qn_append (a b : List UInt8) : qn (a ++ b) = qn a + qn b := List.countP_append
theorem qn_take (l : List UInt8) (k : Nat) (c : UInt8) (h : l[k]? = some c) : qn (l.take (k + 1)) = qn (l.take k) + if c.toNat = 34 then 1 else 0 := by
  have hk : k < l.length := by
    rcases Nat.lt_or_ge k l.length with hk | hk
    · exact hk
    · rw [List.getElem?_eq_none hk] at h; cases h
  rw [List.take_succ_eq_append_getElem hk, qn_append]
  rw [List.getElem?_eq_getElem hk] at h
  injection h with h
  rw [h]
  simp [qn, List.countP_cons]

/-- The size of a string in a slot: for a loop's measure. -/
def strSize : Value → Nat | .string t => t.size | _ => 0
theorem strSize_mk (t : ByteArray) : strSize (.string t) = t.size := rfl

/-- What a loop that cuts spaces off the end of s has kept: t. -/
structure Cut (s t : ByteArray) : Prop where
  le : t.size ≤ s.size
  data : t.data.toList = s.data.toList.take t.size
  last : lastI (fun c => !spcB c) s.data.toList s.data.toList.length = lastI (fun c => !spcB c) s.data.toList t.size
theorem Cut.start (s : ByteArray) : Cut s s := ⟨Nat.le_refl _, by rw [List.take_of_length_le (Nat.le_of_eq (size_data s).symm)], by rw [← size_data s]⟩
theorem Cut.at_ {s t : ByteArray} (h : Cut s t) (k : Nat) (hk : k < t.size) : s.data.toList.getD k 0 = t[k] := by
  have h1 := get_data t k hk
  rw [h.data, List.getElem?_take_of_lt hk] at h1
  simp [List.getD, h1]
theorem size_cut (t : ByteArray) (k : Nat) (hk : k ≤ t.size) : (t.extract 0 k).size = k := by
  rw [ByteArray.size_extract]; omega
theorem Cut.step {s t : ByteArray} (h : Cut s t) (h0 : 0 < t.size) (hlast : t.size - 1 < t.size) (h32 : (t[t.size - 1]'hlast).toNat = 32) : Cut s (t.extract 0 (t.size - 1)) := by
  have hsz := size_cut t (t.size - 1) (by omega)
  refine ⟨by rw [hsz]; have := h.le; omega, ?_, ?_⟩
  · rw [hsz, extract_data, h.data, List.drop_zero, List.take_take, Nat.min_eq_left (by omega)]
  · rw [hsz, h.last]
    have e : t.size = (t.size - 1) + 1 := by omega
    have hd := h.at_ (t.size - 1) hlast
    generalize t.size - 1 = m at *
    rw [e]
    simp only [lastI]
    rw [hd]
    simp [spcB, h32]
theorem Cut.done {s t : ByteArray} (h : Cut s t) (he : t.size = 0 ∨ ∃ hlast : t.size - 1 < t.size, (t[t.size - 1]'hlast).toNat ≠ 32) : t = strL (trimB s.data.toList) := by
  have hn : trimN s.data.toList = t.size := by
    unfold trimN
    rw [h.last]
    rcases he with h0 | ⟨hlast, hne⟩
    · rw [h0]; simp [lastI]
    · have e : t.size = (t.size - 1) + 1 := by omega
      have hd := h.at_ (t.size - 1) hlast
      generalize t.size - 1 = m at *
      rw [e]
      simp only [lastI]
      rw [hd]
      simp [spcB, hne]
  apply str_ext
  rw [strL_data, h.data]
  unfold trimB
  rw [hn]
end Go.Proofs.YtpalfhfbgfnacaaGreatDoor

/-
  The contract of package chars' function Printable, alone (for seats that lay no other function of that package).
-/
namespace Go.Proofs.YtpalfhfbgfnacaaGreatDoor
open Go.RowKit
set_option linter.unusedVariables false
set_option linter.unusedSimpArgs false

theorem ret_int {k : IntKind} {a b : Int} (h : a = b) : Ending.returned (.int k a) = .returned (.int k b) := by rw [h]
theorem ret_bool {a b : Bool} (h : a = b) : Ending.returned (.bool a) = .returned (.bool b) := by rw [h]
theorem dec_gt (n : Nat) (k : Nat) : (!decide (n ≤ k)) = decide ((k : Int) < (n : Int)) := by
  rw [Bool.eq_iff_iff]; simp
/-- What a test on a byte is: function K decides p, and leaves the world. -/
structure Tests (K : Nat) (p : UInt8 → Bool) : Prop where
  enter : ∀ (args : Array Value) (w : World), (callFunc K args).run Tryz.prog w = .ok (.enter K args) w
  calls : ∀ (c : UInt8) (w : World), Calls Tryz.prog K #[.int .u8 c.toNat] w fun e w' => e = .returned (.bool (p c)) ∧ w = w'

theorem notPrint_any : Tests 81 (fun c => !prtB c) := by
  refine ⟨fun args w => by kernel_rfl, ?_⟩
  intro c w
  have hlt := u8lt c
  by_cases h : (c.toNat : Int) < 32
  · go_enter Tryz.func81, Tryz.ntmps81
    go_wp2
    go_ret
    exact ⟨ret_bool (by simp [prtB]; omega), rfl⟩
  · go_enter Tryz.func81, Tryz.ntmps81
    go_wp2
    go_ret
    exact ⟨ret_bool (by have h1 : 32 ≤ c.toNat := by omega
                        simp only [prtB, h1, decide_true, Bool.true_and]; exact (dec_gt _ _).symm), rfl⟩
set_option maxHeartbeats 400000 in
theorem first_any (s : ByteArray) (K : Nat) (p : UInt8 → Bool) (hp : Tests K p) (hs : s.size ≤ 140737488355328) (w : World) :
    Calls Tryz.prog 80 #[.string s, .func (.func K) #[] #[]] w fun e w' => e = .returned (.int .i64 (firstI p 0 s.data.toList)) ∧ w = w' := by
  have hen := hp.enter
  have HP := Lib.hid hp.calls; clear hp
  go_enter Tryz.func80, Tryz.ntmps80
  go_wp2
  go_loop [8] (fun i => ∃ k : Nat, k ≤ s.size ∧ i = .int .i64 k ∧ firstI p 0 s.data.toList = firstI p k (s.data.toList.drop k)) (fun i => s.size - (intOf i).toNat)
  case atStart => exact ⟨0, Nat.zero_le _, rfl, by simp⟩
  case round =>
    obtain ⟨k, hk, rfl, he⟩ := hrel
    have HE := Lib.hid he; clear he
    by_cases hlt : k < s.size
    · have hget : s.data.toList[k]? = some s[k] := by simp [hlt]; rfl
      have hd := firstI_drop p s.data.toList k s[k] hget
      have HD := Lib.hid hd; clear hd hget
      go_wp2_with fail
      refine (HP.out _ _).mono ?_
      rintro e w' ⟨rfl, rfl⟩
      cases hpb : p s[k]
      · go_wp2
        go_round
        case rel => exact ⟨k + 1, by omega, by go_num, by rw [HE.out, HD.out, hpb]; simp⟩
        case measure => simp [intOf]; omega
      · go_wp2
        go_ret
        exact ⟨ret_int (by rw [HE.out, HD.out, hpb]; simp), rfl⟩
    · go_wp2
      go_ret
      exact ⟨ret_int (by rw [HE.out, List.drop_of_length_le (by simp; omega)]; rfl), rfl⟩

set_option maxRecDepth 100000 in
theorem printable_any (s : ByteArray) (hs : s.size ≤ 140737488355328) (w : World) : Calls Tryz.prog 50 #[.string s] w fun e w' => e = .returned (.bool (printB s.data.toList)) ∧ w = w' := by
  have h2 : printB s.data.toList = decide (firstI (fun c => !prtB c) 0 s.data.toList < 0) := by
    unfold printB
    cases hall : s.data.toList.all prtB
    · have := firstI_some (fun c => !prtB c) s.data.toList 0 (by simpa using hall)
      simp; omega
    · have := firstI_none (fun c => !prtB c) s.data.toList 0 (by simpa using hall)
      simp [this]
  rw [h2]; clear h2
  go_enter Tryz.func50, Tryz.ntmps50
  go_wp2_with (go_at_call 80; refine (first_any s _ _ notPrint_any hs _).mono ?_; rintro e w' ⟨rfl, rfl⟩)
  go_ret
  exact ⟨rfl, rfl⟩
end Go.Proofs.YtpalfhfbgfnacaaGreatDoor

/-
  Plain words on tokens: what the scanner and the reference compute, on lists of bytes. No program is named here.
-/
namespace Go.Proofs.YtpalfhfbgfnacaaGreatDoor
open Go.RowKit
set_option linter.unusedVariables false
set_option linter.unusedSimpArgs false

def letB (c : UInt8) : Bool := capB c || smallB c
/-- A letter, a digit or a hyphen. -/
def inwB (c : UInt8) : Bool := letB c || digB c || decide (c.toNat = 45)
/-- How many bytes at the beginning are wanted. -/
def spn (p : UInt8 → Bool) : List UInt8 → Nat
  | [] => 0
  | c :: l => if p c = true then spn p l + 1 else 0
/-- A space, or the end. -/
def endT : List UInt8 → Bool
  | [] => true
  | c :: _ => decide (c.toNat = 32)
/-- A period, a comma or a semicolon. -/
def ptB (c : UInt8) : Bool := decide (c.toNat = 46) || decide (c.toNat = 44) || decide (c.toNat = 59)
def trimP (l : List UInt8) : List UInt8 := (l.reverse.dropWhile ptB).reverse

structure Tok where
  kind : Nat
  text : List UInt8
  line : Int
  col : Int
  left : Bool
  deriving DecidableEq

/-- A token that was read, and how many bytes it has, or an error. -/
inductive RdT | bad (e : Nat) | got (kind : Nat) (text : List UInt8) (n : Nat)
  deriving DecidableEq

def allT (r : List UInt8) : List UInt8 := r.take (spn (fun c => !spcB c) r)
def picT (r : List UInt8) : RdT :=
  if trimP (allT r) = [] ∨ 1 < (allT r).length - (trimP (allT r)).length ∨ (trimP (allT r)).any (fun c => decide (c.toNat = 34)) = true then .bad 4
  else .got 4 (foldB (trimP (allT r))) (trimP (allT r)).length
/-- A literal behind its first quote: its characters, and how many bytes it has, with the last quote. -/
def litE : List UInt8 → Option (List UInt8 × Nat)
  | [] => none
  | c :: l => if c.toNat = 34 then match l with
      | [] => some ([], 1)
      | d :: l' => if d.toNat = 34 then (litE l').map (fun x => (34 :: x.1, x.2 + 2)) else some ([], 1)
    else (litE l).map (fun x => (c :: x.1, x.2 + 1))
def litT (r : List UInt8) : RdT :=
  match litE (r.drop 1) with
  | none => .bad 4
  | some (t, n) => if t = [] then .bad 4 else .got 3 t (n + 1)
/-- How many bytes are a word. -/
def wrdN (r : List UInt8) : Nat := if (r.getD 0 0).toNat = 45 then 0 else spn inwB r
def sgN (r : List UInt8) (sep : Bool) : Nat := if sep = true ∧ ((r.getD 0 0).toNat = 43 ∨ (r.getD 0 0).toNat = 45) then 1 else 0
/-- How many bytes are a number. -/
def numN (r : List UInt8) (sep : Bool) : Nat :=
  let g := sgN r sep
  let n := g + spn digB (r.drop g)
  if n < wrdN r then 0
  else if (r.getD n 0).toNat = 46 ∧ 0 < spn digB (r.drop (n + 1)) then n + 1 + spn digB (r.drop (n + 1))
  else if n = g then 0 else n
def numT (r : List UInt8) (n : Nat) : RdT :=
  if 0 < spn inwB (r.drop n) then .bad 4
  else if 18 < (r.take n).countP digB then .bad 5
  else .got 2 (r.take n) n
def notDH (c : UInt8) : Bool := !(digB c || decide (c.toNat = 45))
def wordT (t : List UInt8) : RdT :=
  if isNameB (foldB t) = true then .got 1 (foldB t) t.length
  else if 30 < t.length ∧ (foldB t).any notDH = true ∧ ((foldB t).getD (t.length - 1) 0).toNat ≠ 45 then .bad 5
  else .bad 4
def signsL : List (List UInt8) := [[42, 42], [60, 61], [62, 61], [60, 62], [40], [41], [58], [43], [45], [42], [47], [61], [60], [62]]
def signT (r : List UInt8) : RdT :=
  match signsL.find? (fun x => x.isPrefixOf r) with
  | some x => .got 5 x x.length
  | none => .bad 4
def eqs (r : List UInt8) : Bool := ([61, 61] : List UInt8).isPrefixOf r
def isIS (r : List UInt8) : Bool := decide (foldB (r.take (wrdN r)) = [73, 83])
/-- The token at the beginning of a text that is not empty: e: the word PIC is before it; x: a picture is expected; sep: the position is separated. -/
def readT (e x sep : Bool) (r : List UInt8) : RdT :=
  if x = true ∧ eqs r = false ∧ ¬ (isIS r = true ∧ e = true) then picT r
  else if (r.getD 0 0).toNat = 34 then litT r
  else if (r.getD 0 0).toNat = 46 ∧ endT (r.drop 1) = true then .got 6 [46] 1
  else if eqs r = true then .got 7 [61, 61] 2
  else if 0 < numN r sep then numT r (numN r sep)
  else if 0 < wrdN r then wordT (r.take (wrdN r))
  else signT r

def isWd (s : List UInt8) (t : Tok) : Bool := decide (t.kind = 1) && decide (t.text = s)
def picW (t : Tok) : Bool := isWd [80, 73, 67] t || isWd [80, 73, 67, 84, 85, 82, 69] t
/-- The last token is the word PIC or PICTURE. -/
def endPic (l : List Tok) : Bool := match l.getLast? with | some t => picW t | none => false
def expPic (l : List Tok) : Bool := endPic l || (match l.getLast? with | some t => isWd [73, 83] t && endPic l.dropLast | none => false)
/-- How many bytes at the beginning are separators. -/
def skipN (x : Bool) : List UInt8 → Nat
  | [] => 0
  | c :: l => if c.toNat = 32 ∨ (c.toNat = 44 ∨ c.toNat = 59) ∧ x = false ∧ endT l = true then skipN x l + 1 else 0
def sepAt (t : List UInt8) (j : Nat) : Bool := decide (j = 0) || decide ((t.getD (j - 1) 0).toNat = 32) || decide ((t.getD (j - 1) 0).toNat = 40)

abbrev IMarks := List (Int × Int × Int)
/-- The mark of a place: the last one that does not begin behind it. -/
def pickT (i : Int) (ms : IMarks) (m : Int × Int × Int) : Int × Int × Int := ms.foldl (fun m x => if x.1 ≤ i then x else m) m
def posT (ms : IMarks) (i : Int) : Int × Int :=
  let m := pickT i ms (ms.getD 0 (0, 0, 0))
  (m.2.1, m.2.2 + i - m.1)
def tokAt (ms : IMarks) (j : Nat) (k : Nat) (x : List UInt8) : Tok := ⟨k, x, (posT ms j).1, (posT ms j).2, decide ((posT ms j).2 < 12)⟩
/-- The scanner at a place where a token begins, or the card ends. -/
def scanJ (u : Bool) (t : List UInt8) (ms : IMarks) : Nat → Nat → List Tok → (Nat × Int × Int) ⊕ List Tok
  | 0, _, acc => .inr acc
  | f + 1, j, acc =>
    if t.length ≤ j then .inr acc
    else match readT (endPic acc) (expPic acc) (sepAt t j) (t.drop j) with
      | .bad e => .inl (e, posT ms j)
      | .got k x n =>
        if u = true ∧ acc.length = 65536 then .inl (3, posT ms j)
        else scanJ u t ms f (j + n + skipN (expPic (acc ++ [tokAt ms j k x])) (t.drop (j + n))) (acc ++ [tokAt ms j k x])
def scanC (u : Bool) (t : List UInt8) (ms : IMarks) (acc : List Tok) : (Nat × Int × Int) ⊕ List Tok :=
  scanJ u t ms (t.length + 1) (skipN (expPic acc) t) acc

/-- A card of whatever marks. -/
structure ICard where
  left : Bool
  text : List UInt8
  marks : IMarks
  deriving DecidableEq
def okMk (len : Nat) (ms : IMarks) (k : Nat) (x : Int × Int × Int) : Bool :=
  decide (1 ≤ x.2.1) && decide (8 ≤ x.2.2) && decide (x.2.2 ≤ 72) && (match k with | 0 => decide (x.1 = 0) | j + 1 => decide ((ms.getD j (0, 0, 0)).1 < x.1) && decide (x.1 < len))
def ICard.ok (c : ICard) : Bool := !c.text.isEmpty && !c.marks.isEmpty && (List.range c.marks.length).all (fun k => okMk c.text.length c.marks k (c.marks.getD k (0, 0, 0)))
def scanB (u : Bool) : List ICard → List Tok → (Nat × Int × Int) ⊕ List Tok
  | [], acc => .inr acc
  | c :: L, acc => if c.ok = true then
      match scanC u c.text c.marks acc with
      | .inl f => .inl f
      | .inr acc' => scanB u L acc'
    else .inl (1, 0, 0)

/-! ### Text, Same, Split -/
def dblQ : List UInt8 → List UInt8
  | [] => []
  | c :: l => if c.toNat = 34 then 34 :: 34 :: dblQ l else c :: dblQ l
def fmtT (k : Nat) (x : List UInt8) : List UInt8 :=
  if k = 3 then 34 :: (dblQ x ++ [34]) else if k = 6 then [46] else if k = 7 then [61, 61] else x
def joinT : List (List UInt8) → List UInt8
  | [] => []
  | [x] => x
  | x :: y :: L => x ++ 32 :: joinT (y :: L)
def textT (l : List Tok) : List UInt8 := joinT (l.map fun t => fmtT t.kind t.text)
def sameT : List Tok → List Tok → Bool
  | [], [] => true
  | a :: l, b :: m => decide (a.kind = b.kind) && decide (a.text = b.text) && sameT l m
  | _, _ => false
end Go.Proofs.YtpalfhfbgfnacaaGreatDoor

/-
  Plain lemmas on tokens: how many bytes a token has, spans, places. No program is named here.
-/
namespace Go.Proofs.YtpalfhfbgfnacaaGreatDoor
open Go.RowKit
set_option linter.unusedVariables false
set_option linter.unusedSimpArgs false

theorem lt_of_get {α : Type} {l : List α} {k : Nat} {c : α} (h : l[k]? = some c) : k < l.length := by
  rcases Nat.lt_or_ge k l.length with hk | hk
  · exact hk
  · rw [List.getElem?_eq_none hk] at h; cases h
theorem drop_get {α : Type} {l : List α} {k : Nat} {c : α} (h : l[k]? = some c) : l.drop k = c :: l.drop (k + 1) := by
  rw [List.drop_eq_getElem_cons (lt_of_get h)]
  rw [List.getElem?_eq_getElem (lt_of_get h)] at h
  injection h with h
  rw [h]
theorem spn_le (p : UInt8 → Bool) : ∀ l, spn p l ≤ l.length
  | [] => Nat.le_refl _
  | c :: l => by have := spn_le p l; simp only [spn, List.length_cons]; split <;> omega
theorem spn_drop (p : UInt8 → Bool) (l : List UInt8) (k : Nat) (c : UInt8) (h : l[k]? = some c) : spn p (l.drop k) = if p c = true then spn p (l.drop (k + 1)) + 1 else 0 := by
  rw [drop_get h]; rfl
theorem spn_all (p : UInt8 → Bool) : ∀ (l : List UInt8) (j : Nat) (c : UInt8), j < spn p l → l[j]? = some c → p c = true
  | [], j, c, h, _ => by simp [spn] at h
  | d :: l, j, c, h, hc => by
    simp only [spn] at h
    split at h
    · rename_i hd
      rcases j with _ | j
      · simp at hc; subst hc; exact hd
      · exact spn_all p l j c (by omega) (by simpa using hc)
    · omega
theorem spn_stop (p : UInt8 → Bool) : ∀ (l : List UInt8) (c : UInt8), l[spn p l]? = some c → p c = false
  | [], c, hc => by simp [spn] at hc
  | d :: l, c, hc => by
    simp only [spn] at hc
    split at hc
    · exact spn_stop p l c (by simpa using hc)
    · rename_i hd
      simp at hc; subst hc; simpa using hd
theorem spn_pos {p : UInt8 → Bool} {l : List UInt8} {c : UInt8} (h : l[0]? = some c) : 0 < spn p l ↔ p c = true := by
  cases l with
  | nil => simp at h
  | cons d l =>
    simp at h; subst h
    simp only [spn]
    split <;> simp_all
theorem spn_zero_of {p : UInt8 → Bool} {l : List UInt8} {c : UInt8} (h : l[0]? = some c) (hp : p c = false) : spn p l = 0 := by
  rcases Nat.eq_zero_or_pos (spn p l) with h0 | h0
  · exact h0
  · have := (spn_pos h).1 h0
    rw [hp] at this; cases this
theorem skipN_le (x : Bool) : ∀ l, skipN x l ≤ l.length
  | [] => Nat.le_refl _
  | c :: l => by have := skipN_le x l; simp only [skipN, List.length_cons]; split <;> omega
theorem skipN_drop (x : Bool) (l : List UInt8) (k : Nat) (c : UInt8) (h : l[k]? = some c) : skipN x (l.drop k) = if c.toNat = 32 ∨ (c.toNat = 44 ∨ c.toNat = 59) ∧ x = false ∧ endT (l.drop (k + 1)) = true then skipN x (l.drop (k + 1)) + 1 else 0 := by
  rw [drop_get h]; rfl
theorem skipN_idem (x : Bool) : ∀ l : List UInt8, skipN x (l.drop (skipN x l)) = 0
  | [] => by simp [skipN]
  | c :: l => by
    have ih := skipN_idem x l
    by_cases h : c.toNat = 32 ∨ (c.toNat = 44 ∨ c.toNat = 59) ∧ x = false ∧ endT l = true
    · have e : skipN x (c :: l) = skipN x l + 1 := by simp only [skipN]; rw [if_pos h]
      rw [e]; simpa using ih
    · have e : skipN x (c :: l) = 0 := by simp only [skipN]; rw [if_neg h]
      rw [e, List.drop_zero, e]
/-- A token begins at no space. -/
theorem skip_head {x : Bool} {l : List UInt8} {c : UInt8} (h : (l.drop (skipN x l))[0]? = some c) : c.toNat ≠ 32 := by
  intro h32
  have hi := skipN_idem x l
  generalize l.drop (skipN x l) = r at *
  cases r with
  | nil => simp at h
  | cons d r =>
    simp at h; subst h
    simp only [skipN] at hi
    rw [if_pos (.inl h32)] at hi
    omega
theorem trimP_le (l : List UInt8) : (trimP l).length ≤ l.length := by
  unfold trimP
  rw [List.length_reverse]
  exact Nat.le_trans (List.dropWhile_suffix _).length_le (by simp)
theorem litE_le : ∀ (l : List UInt8) (t : List UInt8) (n : Nat), litE l = some (t, n) → 1 ≤ n ∧ n ≤ l.length
  | [], t, n, h => by simp [litE] at h
  | [c], t, n, h => by
    unfold litE at h
    split at h
    · simp at h; simp [← h.2]
    · simp [litE] at h
  | c :: d :: l, t, n, h => by
    unfold litE at h
    split at h
    · dsimp only at h
      split at h
      · cases hl : litE l with
        | none => rw [hl] at h; simp at h
        | some x =>
          rw [hl] at h; simp at h
          have := litE_le l x.1 x.2 hl
          simp only [List.length_cons]
          omega
      · simp at h; simp [← h.2]
    · cases hl : litE (d :: l) with
      | none => rw [hl] at h; simp at h
      | some x =>
        rw [hl] at h; simp at h
        have := litE_le (d :: l) x.1 x.2 hl
        simp only [List.length_cons] at this ⊢
        omega
theorem sgN_le (r : List UInt8) (sep : Bool) : sgN r sep ≤ 1 := by unfold sgN; split <;> omega
theorem sgN_len {r : List UInt8} (sep : Bool) (h : r ≠ []) : sgN r sep ≤ r.length := by
  have := sgN_le r sep
  have := List.length_pos_iff.2 h
  omega
theorem numN_le {r : List UInt8} {sep : Bool} (h : r ≠ []) : numN r sep ≤ r.length := by
  have hg := sgN_len sep h
  have h1 := spn_le digB (r.drop (sgN r sep))
  rw [List.length_drop] at h1
  unfold numN
  dsimp only
  split
  · omega
  split
  · rename_i hh
    have h2 := spn_le digB (r.drop (sgN r sep + spn digB (r.drop (sgN r sep)) + 1))
    rw [List.length_drop] at h2
    omega
  split <;> omega
theorem wrdN_le (r : List UInt8) : wrdN r ≤ r.length := by unfold wrdN; have := spn_le inwB r; split <;> omega
theorem signT_got {r : List UInt8} {k : Nat} {x : List UInt8} {n : Nat} (h : signT r = .got k x n) : k = 5 ∧ x ∈ signsL ∧ n = x.length ∧ x.isPrefixOf r = true := by
  unfold signT at h
  split at h
  · rename_i y hy
    injection h with h1 h2 h3
    subst h2
    exact ⟨h1.symm, List.mem_of_find?_eq_some hy, h3.symm, List.find?_some (p := fun x : List UInt8 => x.isPrefixOf r) hy⟩
  · cases h
theorem prefix_len {x r : List UInt8} (h : x.isPrefixOf r = true) : x.length ≤ r.length := (List.isPrefixOf_iff_prefix.1 h).length_le
theorem prefix_take {x r : List UInt8} (h : x.isPrefixOf r = true) : r.take x.length = x := by
  obtain ⟨t, rfl⟩ := List.isPrefixOf_iff_prefix.1 h
  simp
theorem readT_le {e x sep : Bool} {r : List UInt8} {k n : Nat} {t : List UInt8} (hr : r ≠ []) (h : readT e x sep r = .got k t n) : 1 ≤ n ∧ n ≤ r.length := by
  have hp := List.length_pos_iff.2 hr
  unfold readT at h
  split at h
  · unfold picT at h
    split at h
    · cases h
    · rename_i hh
      injection h with h1 h2 h3
      have h4 := trimP_le (allT r)
      have h5 : (allT r).length ≤ r.length := by simp [allT]; omega
      have h6 : (trimP (allT r)).length ≠ 0 := fun h0 => hh (.inl (List.eq_nil_of_length_eq_zero h0))
      omega
  split at h
  · unfold litT at h
    split at h
    · cases h
    · rename_i t' n' hl
      split at h
      · cases h
      · injection h with h1 h2 h3
        have := litE_le _ _ _ hl
        rw [List.length_drop] at this
        omega
  split at h
  · injection h with h1 h2 h3; omega
  split at h
  · rename_i he
    injection h with h1 h2 h3
    have := prefix_len he
    simp at this
    omega
  split at h
  · rename_i hn
    unfold numT at h
    split at h
    · cases h
    split at h
    · cases h
    · injection h with h1 h2 h3
      have := numN_le (sep := sep) hr
      omega
  split at h
  · rename_i hn
    have hw := wrdN_le r
    unfold wordT at h
    split at h
    · injection h with h1 h2 h3; rw [← h3, List.length_take]; omega
    split at h <;> cases h
  · obtain ⟨_, hx, rfl, hp2⟩ := signT_got h
    have := prefix_len hp2
    have h1 : ∀ y ∈ signsL, 1 ≤ y.length := by decide
    exact ⟨h1 _ hx, this⟩
end Go.Proofs.YtpalfhfbgfnacaaGreatDoor

/-
  Plain lemmas: strings.ReplaceAll on the doubled quotes of a literal, and where a literal ends. No program is named here.
-/
namespace Go.Proofs.YtpalfhfbgfnacaaGreatDoor
open Go.RowKit
set_option linter.unusedVariables false
set_option linter.unusedSimpArgs false

theorem rep_hit {s old new : List UInt8} {i : Nat} (hne : (old == new) = false) (ho : old ≠ []) (h : Lib.index s old = i) : Lib.replaceAll s old new = s.take i ++ new ++ Lib.replaceAll (s.drop (i + old.length)) old new := by
  unfold Lib.replaceAll Lib.replace Lib.replaceNum
  simp only [hne, Bool.false_eq_true, if_false]
  rw [if_pos (.inl (by decide)), if_pos (.inl (by decide)), Lib.count_hit ho h, Nat.add_comm 1, Lib.replaceK_hit _ _ _ _ _ h]
theorem rep_miss {s old new : List UInt8} (hne : (old == new) = false) (h : Lib.index s old = -1) : Lib.replaceAll s old new = s := by
  unfold Lib.replaceAll Lib.replace Lib.replaceNum
  simp only [hne, Bool.false_eq_true, if_false]
  rw [if_pos (.inl (by decide)), Lib.count_miss h]
  rfl
def rep2 (l : List UInt8) : List UInt8 := Lib.replaceAll l [34, 34] [34]
theorem rep2_nil : rep2 [] = [] := rep_miss (by decide) (by decide)
theorem rep2_pair (l : List UInt8) : rep2 (34 :: 34 :: l) = 34 :: rep2 l := by
  have h : Lib.index (34 :: 34 :: l) [34, 34] = (0 : Nat) := by
    unfold Lib.index
    rw [if_pos (by simp [List.isPrefixOf])]
    rfl
  exact rep_hit (by decide) (by decide) h
theorem rep2_other (c : UInt8) (l : List UInt8) (hc : c.toNat ≠ 34) : rep2 (c :: l) = c :: rep2 l := by
  have hne : c ≠ 34 := fun e => hc (by rw [e]; rfl)
  have hi : Lib.index (c :: l) [34, 34] = if Lib.index l [34, 34] == -1 then -1 else Lib.index l [34, 34] + 1 := by
    rw [Lib.index, if_neg]
    simp only [List.isPrefixOf, Bool.and_eq_true, beq_iff_eq]
    rintro ⟨h, _⟩
    exact hne h.symm
  have hge := Lib.index_ge l [34, 34]
  by_cases hm : Lib.index l [34, 34] = -1
  · rw [hm] at hi
    rw [rep2, rep_miss (by decide) hi, rep2, rep_miss (by decide) hm]
  · obtain ⟨i, hi2⟩ : ∃ i : Nat, Lib.index l [34, 34] = i := ⟨(Lib.index l [34, 34]).toNat, by omega⟩
    rw [hi2, if_neg (by simp)] at hi
    have hi3 : Lib.index (c :: l) [34, 34] = ((i + 1 : Nat) : Int) := by rw [hi]; omega
    rw [rep2, rep_hit (by decide) (by decide) hi3, rep2, rep_hit (by decide) (by decide) hi2]
    rw [List.take_succ_cons]
    simp [Nat.add_right_comm]
theorem litE_rep : ∀ (l : List UInt8) (t : List UInt8) (n : Nat), litE l = some (t, n) → rep2 (l.take (n - 1)) = t
  | [], t, n, h => by simp [litE] at h
  | [c], t, n, h => by
    unfold litE at h
    split at h
    · simp at h; rw [← h.2, h.1]; exact rep2_nil
    · simp [litE] at h
  | c :: d :: l, t, n, h => by
    unfold litE at h
    split at h
    · rename_i hc
      dsimp only at h
      split at h
      · rename_i hd
        cases hl : litE l with
        | none => rw [hl] at h; simp at h
        | some x =>
          rw [hl] at h; simp at h
          have ih := litE_rep l x.1 x.2 hl
          have hle := litE_le l x.1 x.2 hl
          rw [← h.1, ← h.2, show c = 34 from u8_eq hc, show d = 34 from u8_eq hd, show x.2 + 2 - 1 = (x.2 - 1) + 1 + 1 from by omega, List.take_succ_cons, List.take_succ_cons, rep2_pair, ih]
      · simp at h; rw [← h.2, h.1]; exact rep2_nil
    · rename_i hc
      cases hl : litE (d :: l) with
      | none => rw [hl] at h; simp at h
      | some x =>
        rw [hl] at h; simp at h
        have ih := litE_rep (d :: l) x.1 x.2 hl
        have hle := litE_le (d :: l) x.1 x.2 hl
        rw [← h.1, ← h.2, show x.2 + 1 - 1 = (x.2 - 1) + 1 from by omega, List.take_succ_cons, rep2_other _ _ hc, ih]
theorem litE_other (c : UInt8) (l : List UInt8) (hc : c.toNat ≠ 34) : litE (c :: l) = (litE l).map (fun x => (c :: x.1, x.2 + 1)) := by
  cases l <;> simp [litE, hc]
theorem litE_pair (r : List UInt8) : litE (34 :: 34 :: r) = (litE r).map (fun x => (34 :: x.1, x.2 + 2)) := by
  simp [litE]
theorem litE_end (d : UInt8) (r : List UInt8) (hd : d.toNat ≠ 34) : litE (34 :: d :: r) = some ([], 1) := by
  simp [litE, hd]
/-- How many bytes a literal has. -/
def litN (l : List UInt8) : Option Nat := (litE l).map (·.2)
theorem litN_skip : ∀ (i : Nat) (l : List UInt8), i ≤ l.length → (∀ k, k < i → l[k]? ≠ some 34) → litN l = (litN (l.drop i)).map (· + i)
  | 0, l, _, _ => by
    rw [List.drop_zero]
    cases litN l <;> simp
  | i + 1, [], h, _ => by simp at h
  | i + 1, c :: l, h, hq => by
    have hc : c.toNat ≠ 34 := fun e => hq 0 (by omega) (by simp; exact u8_eq e)
    have ih := litN_skip i l (by simpa using h) (fun k hk => by have := hq (k + 1) (by omega); simpa using this)
    have e : litN (c :: l) = (litN l).map (· + 1) := by
      unfold litN
      rw [litE_other c l hc]
      cases litE l <;> rfl
    rw [e, ih, List.drop_succ_cons]
    cases litN (l.drop i) with
    | none => rfl
    | some x => simp; omega
theorem litN_none {l : List UInt8} (h : Lib.indexByte l 34 = -1) : litN l = none := by
  have := litN_skip l.length l (Nat.le_refl _) (fun k hk => Lib.indexByte_none h k)
  rw [this, List.drop_length]
  rfl
theorem litN_some {l : List UInt8} {i : Nat} (h : Lib.indexByte l 34 = i) : litN l = if l[i + 1]? = some 34 then (litN (l.drop (i + 2))).map (· + (i + 2)) else some (i + 1) := by
  obtain ⟨hi, hq⟩ := Lib.indexByte_some h
  have hl := lt_of_get hi
  rw [litN_skip i l (by omega) hq, drop_get hi]
  cases hd : l.drop (i + 1) with
  | nil =>
    have : l[i + 1]? = none := by
      have := congrArg (·[0]?) hd
      simpa using this
    rw [this, if_neg (by simp)]
    simp [litN, litE]
    omega
  | cons d r =>
    have h1 : l[i + 1]? = some d := by
      have := congrArg (·[0]?) hd
      simpa using this
    have h2 : l.drop (i + 2) = r := by
      have := congrArg (List.drop 1) hd
      rw [List.drop_drop] at this
      simpa using this
    rw [h1, h2]
    by_cases hd34 : d = 34
    · subst hd34
      rw [if_pos rfl]
      unfold litN
      rw [litE_pair]
      cases litE r with
      | none => rfl
      | some x => simp; omega
    · rw [if_neg (by simpa using hd34)]
      unfold litN
      have hdn : d.toNat ≠ 34 := fun e => hd34 (u8_eq e)
      rw [litE_end _ _ hdn]
      simp
      omega
theorem lit_bad {l : List UInt8} (h : litN (l.drop 1) = none) : litT l = .bad 4 := by
  unfold litN at h
  unfold litT
  cases hl : litE (l.drop 1) with
  | none => rfl
  | some x => rw [hl] at h; simp at h
theorem lit_got {l : List UInt8} {N : Nat} (hN : 1 ≤ N) (h : litN (l.drop 1) = some (N - 1)) : litT l = if rep2 ((l.take (N - 1)).drop 1) = [] then .bad 4 else .got 3 (rep2 ((l.take (N - 1)).drop 1)) N := by
  unfold litN at h
  unfold litT
  cases hl : litE (l.drop 1) with
  | none => rw [hl] at h; simp at h
  | some x =>
    rw [hl] at h
    simp at h
    have hr := litE_rep _ x.1 x.2 hl
    have e : (l.drop 1).take (x.2 - 1) = (l.take (N - 1)).drop 1 := by rw [List.drop_take]; congr 1; omega
    rw [e] at hr
    have e2 : x.2 + 1 = N := by omega
    rw [hr]
    dsimp only
    rw [e2]
end Go.Proofs.YtpalfhfbgfnacaaGreatDoor

/-
  Plain lemmas on marks: the position of a place, when the marks that have been passed are left out. No program is named here.
-/
namespace Go.Proofs.YtpalfhfbgfnacaaGreatDoor
open Go.RowKit
set_option linter.unusedVariables false
set_option linter.unusedSimpArgs false

abbrev Asc (ms : IMarks) : Prop := ms.Pairwise (fun a b => a.1 < b.1)
def posOf (x : Int × Int × Int) (i : Int) : Int × Int := (x.2.1, x.2.2 + i - x.1)
theorem pickT_skip (i : Int) : ∀ (ms : IMarks) (m : Int × Int × Int), (∀ x ∈ ms, i < x.1) → pickT i ms m = m
  | [], m, _ => rfl
  | x :: ms, m, h => by
    show pickT i ms (if x.1 ≤ i then x else m) = m
    rw [if_neg (by have := h x List.mem_cons_self; omega)]
    exact pickT_skip i ms m fun y hy => h y (List.mem_cons_of_mem _ hy)
/-- The first mark counts if the second one begins behind the place. -/
theorem posT_one {x : Int × Int × Int} {ms : IMarks} {i : Int} (hx : x.1 ≤ i) (h : ∀ y ∈ ms, i < y.1) : posT (x :: ms) i = posOf x i := by
  unfold posT posOf
  have : pickT i (x :: ms) ((x :: ms).getD 0 (0, 0, 0)) = x := by
    show pickT i ms (if x.1 ≤ i then x else x) = x
    rw [if_pos hx]
    exact pickT_skip i ms x h
  rw [this]
theorem posT_tail {x y : Int × Int × Int} {ms : IMarks} {i : Int} (hx : x.1 ≤ i) (hy : y.1 ≤ i) : posT (x :: y :: ms) i = posT (y :: ms) i := by
  unfold posT
  have e1 : pickT i (x :: y :: ms) ((x :: y :: ms).getD 0 (0, 0, 0)) = pickT i ms y := by
    show pickT i ms (if y.1 ≤ i then y else (if x.1 ≤ i then x else x)) = _
    rw [if_pos hy]
  have e2 : pickT i (y :: ms) ((y :: ms).getD 0 (0, 0, 0)) = pickT i ms y := by
    show pickT i ms (if y.1 ≤ i then y else y) = _
    rw [if_pos hy]
  rw [e1, e2]
theorem asc_rest {x y : Int × Int × Int} {ms : IMarks} {i : Int} (h : Asc (x :: y :: ms)) (hy : i < y.1) : ∀ z ∈ y :: ms, i < z.1 := by
  intro z hz
  unfold Asc at h
  rw [List.pairwise_cons, List.pairwise_cons] at h
  rcases List.mem_cons.1 hz with rfl | hz
  · exact hy
  · have := h.2.1 z hz; omega
def MkOk (ms : IMarks) : Prop := ∀ x ∈ ms, 0 ≤ x.1 ∧ x.1 ≤ 134217728 ∧ 8 ≤ x.2.2 ∧ x.2.2 ≤ 72
/-- ms is what is left of ms0 at the place i. -/
structure Left (ms0 ms : IMarks) (i : Nat) : Prop where
  asc : Asc ms
  ok : MkOk ms
  ne : ∃ x r, ms = x :: r ∧ x.1 ≤ i
  same : ∀ j : Nat, i ≤ j → posT ms0 j = posT ms j
theorem Left.more {ms0 ms : IMarks} {i j : Nat} (h : Left ms0 ms i) (hj : i ≤ j) : Left ms0 ms j := by
  obtain ⟨x, r, e, hx⟩ := h.ne
  exact ⟨h.asc, h.ok, ⟨x, r, e, by omega⟩, fun k hk => h.same k (by omega)⟩
theorem Left.pass {ms0 : IMarks} {x y : Int × Int × Int} {r : IMarks} {i : Nat} (h : Left ms0 (x :: y :: r) i) (hy : y.1 ≤ i) : Left ms0 (y :: r) i := by
  obtain ⟨x', r', e, hx⟩ := h.ne
  injection e with e1 e2
  subst e1
  refine ⟨(List.pairwise_cons.1 h.asc).2, fun z hz => h.ok z (List.mem_cons_of_mem _ hz), ⟨y, r, rfl, hy⟩, fun j hj => (h.same j hj).trans (posT_tail (by omega) (by omega))⟩
theorem Left.pos {ms0 : IMarks} {x : Int × Int × Int} {r : IMarks} {i : Nat} (h : Left ms0 (x :: r) i) (hy : ∀ y r', r = y :: r' → (i : Int) < y.1) : posT ms0 i = posOf x i := by
  obtain ⟨x', r', e, hx⟩ := h.ne
  injection e with e1 e2
  subst e1
  rw [h.same i (Nat.le_refl _)]
  refine posT_one hx ?_
  cases r with
  | nil => intro y hy; cases hy
  | cons y r' => exact asc_rest h.asc (hy y r' rfl)
/-- What a valid card's marks are at its beginning. -/
theorem left_of_ok {c : ICard} (h : c.ok = true) (hl : c.text.length ≤ 134217728) : Left c.marks c.marks 0 := by
  unfold ICard.ok at h
  rw [Bool.and_eq_true, Bool.and_eq_true, List.all_eq_true] at h
  obtain ⟨⟨h1, h2⟩, h3⟩ := h
  have hk : ∀ (k : Nat) (x : Int × Int × Int), c.marks[k]? = some x → okMk c.text.length c.marks k x = true := fun k x hx => by
    have := h3 k (List.mem_range.2 (lt_of_get hx))
    rwa [show c.marks.getD k (0, 0, 0) = x from by simp [List.getD, hx]] at this
  have hb : ∀ (k : Nat) (x : Int × Int × Int), c.marks[k]? = some x → 1 ≤ x.2.1 ∧ 8 ≤ x.2.2 ∧ x.2.2 ≤ 72 := fun k x hx => by
    have := hk k x hx
    unfold okMk at this
    simp only [Bool.and_eq_true, decide_eq_true_eq] at this
    exact ⟨this.1.1.1, this.1.1.2, this.1.2⟩
  have h0 : ∀ (x : Int × Int × Int), c.marks[0]? = some x → x.1 = 0 := fun x hx => by
    have := hk 0 x hx
    unfold okMk at this
    simp only [Bool.and_eq_true, decide_eq_true_eq] at this
    exact this.2
  have hs : ∀ (k : Nat) (x y : Int × Int × Int), c.marks[k]? = some x → c.marks[k + 1]? = some y → x.1 < y.1 ∧ y.1 < (c.text.length : Int) := fun k x y hx hy => by
    have := hk (k + 1) y hy
    unfold okMk at this
    simp only [Bool.and_eq_true, decide_eq_true_eq] at this
    rw [show c.marks.getD k (0, 0, 0) = x from by simp [List.getD, hx]] at this
    exact this.2
  have hf : ∀ (k : Nat) (x : Int × Int × Int), c.marks[k]? = some x → 0 ≤ x.1 ∧ x.1 ≤ 134217728 := by
    intro k
    induction k with
    | zero => intro x hx; rw [h0 x hx]; omega
    | succ k ih =>
      intro x hx
      have hlt := lt_of_get hx
      have hy : c.marks[k]? = some c.marks[k] := List.getElem?_eq_getElem (by omega)
      have h4 := hs k _ x hy hx
      have h5 := ih _ hy
      omega
  have hasc : ∀ (i j : Nat) (x y : Int × Int × Int), i < j → c.marks[i]? = some x → c.marks[j]? = some y → x.1 < y.1 := by
    intro i j
    induction j with
    | zero => intro x y hij; omega
    | succ j ih =>
      intro x y hij hx hy
      have hlt := lt_of_get hy
      have hz : c.marks[j]? = some c.marks[j] := List.getElem?_eq_getElem (by omega)
      have h4 := hs j _ y hz hy
      rcases Nat.lt_or_ge i j with h5 | h5
      · have := ih x _ h5 hx hz
        omega
      · have : i = j := by omega
        subst this
        rw [hx] at hz
        injection hz with hz
        rw [hz]; exact h4.1
  refine ⟨?_, ?_, ?_, fun _ _ => rfl⟩
  · rw [Asc, List.pairwise_iff_getElem]
    intro i j hi hj hij
    exact hasc i j _ _ hij (List.getElem?_eq_getElem hi) (List.getElem?_eq_getElem hj)
  · intro x hx
    obtain ⟨k, hk⟩ := List.getElem?_of_mem hx
    have h4 := hb k x hk
    have h5 := hf k x hk
    exact ⟨h5.1, h5.2, h4.2.1, h4.2.2⟩
  · cases hm : c.marks with
    | nil => rw [hm] at h2; simp at h2
    | cons x r =>
      refine ⟨x, r, rfl, ?_⟩
      have := h0 x (by rw [hm]; rfl)
      omega
end Go.Proofs.YtpalfhfbgfnacaaGreatDoor

/-
  Plain lemmas: what the tokens that are scanned look like. No program is named here.
-/
namespace Go.Proofs.YtpalfhfbgfnacaaGreatDoor
open Go.RowKit
set_option linter.unusedVariables false
set_option linter.unusedSimpArgs false

theorem litE_text : ∀ (l : List UInt8) (t : List UInt8) (n : Nat), litE l = some (t, n) → t.length < n
  | [], t, n, h => by simp [litE] at h
  | [c], t, n, h => by
    unfold litE at h
    split at h
    · simp at h; rw [h.1, ← h.2]; decide
    · simp [litE] at h
  | c :: d :: l, t, n, h => by
    unfold litE at h
    split at h
    · dsimp only at h
      split at h
      · cases hl : litE l with
        | none => rw [hl] at h; simp at h
        | some x =>
          rw [hl] at h; simp at h
          have := litE_text l x.1 x.2 hl
          rw [← h.1, ← h.2]; simp only [List.length_cons]; omega
      · simp at h; rw [h.1, ← h.2]; decide
    · cases hl : litE (d :: l) with
      | none => rw [hl] at h; simp at h
      | some x =>
        rw [hl] at h; simp at h
        have := litE_text (d :: l) x.1 x.2 hl
        rw [← h.1, ← h.2]; simp only [List.length_cons]; omega
theorem foldB_len (l : List UInt8) : (foldB l).length = l.length := by simp [foldB]
theorem readT_wf {e x sep : Bool} {r : List UInt8} {k n : Nat} {y : List UInt8} (hr : r ≠ []) (h : readT e x sep r = .got k y n) : 1 ≤ k ∧ k ≤ 7 ∧ y.length ≤ r.length + 1 := by
  have hp := List.length_pos_iff.2 hr
  unfold readT at h
  split at h
  · unfold picT at h
    split at h
    · cases h
    · injection h with h1 h2 h3
      have h4 := trimP_le (allT r)
      have h5 : (allT r).length ≤ r.length := by simp [allT]; omega
      rw [← h2, foldB_len]
      omega
  split at h
  · unfold litT at h
    split at h
    · cases h
    · rename_i t' n' hl
      split at h
      · cases h
      · injection h with h1 h2 h3
        have h4 := litE_le _ _ _ hl
        have h5 := litE_text _ _ _ hl
        rw [List.length_drop] at h4
        rw [← h2]
        omega
  split at h
  · injection h with h1 h2 h3; rw [← h2, ← h1]; simp <;> omega
  split at h
  · injection h with h1 h2 h3; rw [← h2, ← h1]; simp <;> omega
  split at h
  · unfold numT at h
    split at h
    · cases h
    split at h
    · cases h
    · injection h with h1 h2 h3; rw [← h2, ← h1]; simp <;> omega
  split at h
  · unfold wordT at h
    split at h
    · injection h with h1 h2 h3; rw [← h2, ← h1, foldB_len]; simp <;> omega
    split at h <;> cases h
  · obtain ⟨h1, hx, _, hp2⟩ := signT_got h
    have := prefix_len hp2
    omega
def Tok.Wf (t : Tok) : Prop := 1 ≤ t.kind ∧ t.kind ≤ 7 ∧ t.text.length ≤ 134217729
theorem scanJ_wf (u : Bool) (tl : List UInt8) (ms : IMarks) (htl : tl.length ≤ 134217728) : ∀ (f j : Nat) (acc r : List Tok), (∀ t ∈ acc, t.Wf) → scanJ u tl ms f j acc = .inr r → ∀ t ∈ r, t.Wf
  | 0, j, acc, r, ha, h => by
    unfold scanJ at h
    injection h with h
    subst h; exact ha
  | f + 1, j, acc, r, ha, h => by
    unfold scanJ at h
    split at h
    · injection h with h
      subst h; exact ha
    · rename_i hj
      have hne : tl.drop j ≠ [] := by
        intro e
        have := congrArg List.length e
        rw [List.length_drop] at this
        simp at this
        omega
      split at h
      · cases h
      · rename_i k x n hrd
        have hw := readT_wf hne hrd
        rw [List.length_drop] at hw
        split at h
        · cases h
        · refine scanJ_wf u tl ms htl f _ _ r ?_ h
          intro t ht
          rcases List.mem_append.1 ht with ht | ht
          · exact ha t ht
          · rw [List.mem_singleton] at ht
            subst ht
            exact ⟨hw.1, hw.2.1, by show x.length ≤ _; omega⟩
theorem scanB_wf (u : Bool) : ∀ (L : List ICard) (acc r : List Tok), (∀ c ∈ L, c.text.length ≤ 134217728) → (∀ t ∈ acc, t.Wf) → scanB u L acc = .inr r → ∀ t ∈ r, t.Wf
  | [], acc, r, _, ha, h => by
    unfold scanB at h
    injection h with h
    subst h; exact ha
  | c :: L, acc, r, hL, ha, h => by
    unfold scanB at h
    split at h
    · cases hs : scanC u c.text c.marks acc with
      | inl f => rw [hs] at h; cases h
      | inr acc' =>
        rw [hs] at h
        exact scanB_wf u L acc' r (fun c hc => hL c (List.mem_cons_of_mem _ hc)) (scanJ_wf u _ _ (hL c List.mem_cons_self) _ _ _ _ ha hs) h
    · cases h
/-- One token as the law shows it. -/
def showT (t : Tok) : List UInt8 := (([63, 87, 78, 81, 80, 83, 46, 61] : List UInt8).getD t.kind 0) :: (t.text ++ [124])
def showL (l : List Tok) : List UInt8 := l.flatMap showT
theorem showL_snoc (l : List Tok) (t : Tok) : showL (l ++ [t]) = showL l ++ showT t := by simp [showL]
theorem showL_take (l : List Tok) (k : Nat) (t : Tok) (h : l[k]? = some t) : showL (l.take (k + 1)) = showL (l.take k) ++ showT t := by
  rw [List.take_add_one, h]; exact showL_snoc _ _
theorem showL_len : ∀ (l : List Tok), (∀ t ∈ l, t.Wf) → (showL l).length ≤ l.length * 134217732
  | [], _ => by simp [showL]
  | t :: l, h => by
    have ih := showL_len l fun t ht => h t (List.mem_cons_of_mem _ ht)
    have h3 := (h t List.mem_cons_self).2.2
    simp only [showL, List.flatMap_cons, List.length_append, List.length_cons] at ih ⊢
    simp only [showT, List.length_cons, List.length_append, List.length_nil]
    omega
end Go.Proofs.YtpalfhfbgfnacaaGreatDoor

/-
  Words on memory: blocks that are known whole, rows that are owned, told apart by the types of their elements. No program is named here.
-/
namespace Go.Proofs.YtpalfhfbgfnacaaGreatDoor
open Go.RowKit
set_option linter.unusedVariables false
set_option linter.unusedSimpArgs false

/-- Only blocks of one element type have turned, or are new. -/
structure Turns (e : TypeId) (w w' : World) : Prop where
  size : w.heap.size ≤ w'.heap.size
  block : ∀ (k : Nat) (cs : Array Value) (t : TypeId) (fr : Nat × Nat), w.heap[k]? = some (.cells cs t fr) → t ≠ e → w'.heap[k]? = some (.cells cs t fr)
theorem Turns.refl (e : TypeId) (w : World) : Turns e w w := ⟨Nat.le_refl _, fun _ _ _ _ h _ => h⟩
theorem Turns.of_kept {e : TypeId} {w w' : World} (hs : w.heap.size ≤ w'.heap.size) (hk : ∀ k, k < w.heap.size → w'.heap[k]? = w.heap[k]?) : Turns e w w' :=
  ⟨hs, fun k _ _ _ h _ => (hk k (lt_of_block h)).trans h⟩
theorem Turns.of_below {e : TypeId} {w w' : World} (hb : Below w.heap.size w w') : Turns e w w' := Turns.of_kept hb.size hb.block
theorem Turns.trans {e : TypeId} {a b c : World} (h : Turns e a b) (k : Turns e b c) : Turns e a c :=
  ⟨Nat.le_trans h.size k.size, fun i cs t fr hi hn => k.block i cs t fr (h.block i cs t fr hi hn) hn⟩
theorem Turns.setCell {e : TypeId} {w : World} {g : Nat} {cs : Array Value} {fr : Nat × Nat} (hg : w.heap[g]? = some (.cells cs e fr)) (i : Nat) (u : Value) : Turns e w (w.setCell ⟨g, i, none⟩ u) :=
  ⟨by simp, fun k cs' t fr' h hn => by
    have : k ≠ g := fun e' => by subst e'; rw [hg] at h; injection h with h; injection h with h1 h2 h3; exact hn h2.symm
    exact (Below.heap_setCell w ⟨g, i, none⟩ u k this).trans h⟩
theorem Turns.grown {e : TypeId} {w w' : World} {row : Option Nat} (hg : w.grownBy w' row) (hrow : ∀ g, row = some g → ∃ (c : Array Value) (fz : Nat × Nat), w.heap[g]? = some (.cells c e fz)) : Turns e w w' :=
  ⟨hg.size, fun k cs t fr h hn => by
    refine (hg.block k (lt_of_block h) fun e' => ?_).trans h
    obtain ⟨c, fz, hc⟩ := hrow k e'.symm
    rw [hc] at h; injection h with h; injection h with h1 h2 h3; exact hn h2.symm⟩
/-- Only blocks of two element types have turned, or are new. -/
structure Turns2 (e1 e2 : TypeId) (w w' : World) : Prop where
  size : w.heap.size ≤ w'.heap.size
  block : ∀ (k : Nat) (cs : Array Value) (t : TypeId) (fr : Nat × Nat), w.heap[k]? = some (.cells cs t fr) → t ≠ e1 → t ≠ e2 → w'.heap[k]? = some (.cells cs t fr)
theorem Turns.two1 {e1 e2 : TypeId} {w w' : World} (h : Turns e1 w w') : Turns2 e1 e2 w w' := ⟨h.size, fun k cs t fr hk h1 _ => h.block k cs t fr hk h1⟩
theorem Turns.two2 {e1 e2 : TypeId} {w w' : World} (h : Turns e2 w w') : Turns2 e1 e2 w w' := ⟨h.size, fun k cs t fr hk _ h2 => h.block k cs t fr hk h2⟩
theorem Turns2.trans {e1 e2 : TypeId} {a b c : World} (h : Turns2 e1 e2 a b) (k : Turns2 e1 e2 b c) : Turns2 e1 e2 a c :=
  ⟨Nat.le_trans h.size k.size, fun i cs t fr hi h1 h2 => k.block i cs t fr (h.block i cs t fr hi h1 h2) h1 h2⟩
theorem own_kind {w : World} {B : Nat} {e : TypeId} {size : Nat} {v : Value} {n : Nat} {xs : List Value} (h : w.ownsRow B e size v n xs) : ∀ g, v.ownBlock = some g → ∃ (c : Array Value) (fz : Nat × Nat), w.heap[g]? = some (.cells c e fz) := by
  intro g hg
  rcases h.2 with ⟨rfl, _⟩ | ⟨g', cap, cur, rfl, _, hh, _⟩
  · simp [Value.ownBlock] at hg
  · simp [Value.ownBlock] at hg; subst hg; exact ⟨_, _, hh⟩
/-- A row stays owned while blocks of another type turn. -/
theorem own_turns {w w' : World} {B : Nat} {e e' : TypeId} {size : Nat} {v : Value} {n : Nat} {xs : List Value} (h : w.ownsRow B e size v n xs) (ht : Turns e' w w') (hne : e ≠ e') : w'.ownsRow B e size v n xs := by
  refine ⟨h.1, ?_⟩
  rcases h.2 with hn | ⟨g, cap, cur, rfl, hb, hh, rest⟩
  · exact .inl hn
  · exact .inr ⟨g, cap, cur, rfl, hb, ht.block g cur e (0, 0) hh hne, rest⟩
/-- And while nothing that is old turns. -/
theorem own_kept {w w' : World} {B : Nat} {e : TypeId} {size : Nat} {v : Value} {n : Nat} {xs : List Value} (h : w.ownsRow B e size v n xs) (hk : ∀ k, k < w.heap.size → w'.heap[k]? = w.heap[k]?) : w'.ownsRow B e size v n xs := by
  refine ⟨h.1, ?_⟩
  rcases h.2 with hn | ⟨g, cap, cur, rfl, hb, hh, rest⟩
  · exact .inl hn
  · exact .inr ⟨g, cap, cur, rfl, hb, (hk g (lt_of_block hh)).trans hh, rest⟩
/-- The cells of an owned row, by their places. -/
theorem own_at {w : World} {B : Nat} {e : TypeId} {size n cap g : Nat} {xs : List Value} (h : w.ownsRow B e size (.slice (some ⟨g, 0, none⟩) n cap) n xs) (j : Nat) (u : Value) (hu : xs[j]? = some u) : w.cell? ⟨g, j, none⟩ = some u := by
  have hj : j < n * size := by
    have := h.1
    rcases Nat.lt_or_ge j xs.length with h' | h'
    · omega
    · rw [List.getElem?_eq_none h'] at hu; cases hu
  exact (h.cellAt j hj).trans hu
/-- An owned row that has something: its value. -/
theorem own_form {w : World} {B : Nat} {e : TypeId} {size n : Nat} {v : Value} {xs : List Value} (h : w.ownsRow B e size v n xs) (hn : 0 < n) : ∃ g cap, v = .slice (some ⟨g, 0, none⟩) n cap ∧ n ≤ cap ∧ B ≤ g ∧ g < w.heap.size := by
  rcases h.2 with ⟨_, h0⟩ | ⟨g, cap, cur, rfl, hb, hh, hc, _⟩
  · omega
  · exact ⟨g, cap, rfl, hc, hb, lt_of_block hh⟩
/-- Two slices of one owned row: a shorter length. -/
theorem own_cut {w : World} {B : Nat} {e : TypeId} {size n : Nat} {v : Value} {xs : List Value} (h : w.ownsRow B e size v n xs) :
    ∃ v', w.ownsRow B e size v' 0 [] ∧ (v = .slice none 0 0 ∧ v' = .slice none 0 0 ∨ ∃ g cap, v = .slice (some ⟨g, 0, none⟩) n cap ∧ v' = .slice (some ⟨g, 0, none⟩) 0 cap) := by
  rcases h.2 with ⟨rfl, h0⟩ | ⟨g, cap, cur, rfl, hb, hh, hc, hm, hs, _⟩
  · exact ⟨_, World.ownsRow_nil _ _ _ _, .inl ⟨rfl, rfl⟩⟩
  · exact ⟨.slice (some ⟨g, 0, none⟩) 0 cap, ⟨by simp, .inr ⟨g, cap, cur, rfl, hb, hh, Nat.zero_le _, hm, hs, by simp⟩⟩, .inr ⟨g, cap, rfl, rfl⟩⟩
/-- The value of an owned row is a slice of its length. -/
theorem own_sl {w : World} {B : Nat} {e : TypeId} {size n : Nat} {v : Value} {xs : List Value} (h : w.ownsRow B e size v n xs) : ∃ a cap, v = .slice a n cap := by
  rcases h.2 with ⟨rfl, rfl⟩ | ⟨g, cap, cur, rfl, _⟩
  · exact ⟨_, _, rfl⟩
  · exact ⟨_, _, rfl⟩
theorem kept_alloc (w : World) (o : Obj) : ∀ k, k < w.heap.size → (w.alloc o).heap[k]? = w.heap[k]? := fun k hk => Below.heap_alloc w o k hk
end Go.Proofs.YtpalfhfbgfnacaaGreatDoor

/-
  append of one value onto a row of the call's own, as an equation on its run; and the law that takes such an equation in a walk, also under a guard that says yes. No program is named here.
-/
namespace Go.Proofs.YtpalfhfbgfnacaaGreatDoor
open Go.RowKit
set_option linter.unusedVariables false
set_option linter.unusedSimpArgs false

theorem append_one {P : Program} (t e : TypeId) (i : TypeInfo) (z : Value) (bytes : Nat) (ht : P.underlying t = some (.slice e)) (hi : P.info? e = some i) (hz : i.zero = some z) (hsize : i.size = 1) (hby : i.bytes = bytes) (hzs : z.cells.size = 1)
    (base : Nat) (v : Value) (n : Nat) (xs : List Value) (u : Value) (W : World) (hown : W.ownsRow base e 1 v n xs) (h1 : u.oneCell' = true) (h63 : n + 1 ≤ maxLen) (hb : (n + 1) * bytes ≤ 140737488355328) (hbase : base ≤ W.heap.size) :
    ∃ v' w', (Builtin.append_ #[t, t] t #[v, .slice (some ⟨W.heap.size, 0, none⟩) 1 1]).run P (W.alloc (.cells #[u] e)) = .ok v' w' ∧ w'.ownsRow base e 1 v' (n + 1) (xs ++ [u]) ∧ Below base W w' ∧ base ≤ w'.heap.size := by
  obtain ⟨v', w', hrun, hown', hgrow, _, _⟩ := run_append_own_at (P := P) (W.alloc (.cells #[u] e)) base t t e i z 1 bytes ht hi hz hsize hby hzs (by decide) v n xs (hown.alloc _) ⟨W.heap.size, 0, none⟩ 1 1 [u] rfl
    (fun j x hj => by
      match j, hj with
      | 0, hj =>
        simp at hj; subst hj
        simp [Addr.add])
    (fun x hx => by simp at hx; subst hx; exact h1) h63 hb (by simp; omega)
  refine ⟨v', w', hrun, hown', ((Below.refl _ _).alloc hbase _).trans ((Below.refl _ _).grown hgrow (by simp; omega) (fun k hk => (hown.lt k hk).1)), ?_⟩
  have := hgrow.size
  simp at this
  omega

/-- append of which the run is known. -/
theorem wp_append_run {P : Program} {ops : Array Oper} {rest : List Oper} {o : Oper} {a : Act} {w : World} {Q : Exit → Act → World → Prop} (hw : Region.wanted o (yielded ops a.tmps) = true) (s x : Operand) (ats : Array TypeId)
    (ho : o.op = .call { callee := .builtin .append, args := #[s, x], argTypes := ats }) (v y v' : Value) (w' : World) (hs : a.eval s = v) (hx : a.eval x = y) (hrun : (Builtin.append_ ats o.type #[v, y]).run P w = .ok v' w')
    (h : wpList P ops Q rest (a.put o.dst v') w') : wpList P ops Q (o :: rest) a w :=
  wpList_step fun K hK => by
    rw [if_pos hw]
    unfold Oper.wp
    simp [execOp, ho, resolve, invoke, builtin, hs, hx, hrun, Result.andThen]
    exact hK _ _ h
end Go.Proofs.YtpalfhfbgfnacaaGreatDoor

/-
  copy of elements of several cells into a row that is known whole, as an equation on its run. No program is named here.
-/
namespace Go.Proofs.YtpalfhfbgfnacaaGreatDoor
open Go.RowKit
set_option linter.unusedVariables false
set_option linter.unusedSimpArgs false

theorem run_copy_many {P : Program} (w : World) (dT sT ty elem : TypeId) (size : Nat) (g dLen dCap : Nat) (a : Addr) (sLen sCap : Nat) (cur : Array Value) (t : TypeId) (cs : List Value)
    (hu : P.underlying dT = some (.slice elem)) (hs : (P.info? elem).map (·.size) = some size)
    (hg : w.heap[g]? = some (.cells cur t (0, 0))) (hn : cs.length = Nat.min sLen dLen * size)
    (hsrc : ∀ j v, cs[j]? = some v → w.cell? (a.add j) = some v) (hfit : cs.length = cur.size) (h1 : ∀ v ∈ cs, v.oneCell' = true) :
    (Builtin.copy_ #[dT, sT] ty #[.slice (some ⟨g, 0, none⟩) dLen dCap, .slice (some a) sLen sCap]).run P w = .ok (goInt (Nat.min sLen dLen)) (w.setRow g cs.toArray) := by
  have hl := run_loadCells_list (P := P) w a cs hsrc
  have hst := run_storeCells_at P g 0 t cs 0 cur w hg (by omega) h1
  simp only [Nat.add_zero, Nat.zero_add, List.take_zero, List.nil_append] at hst
  rw [List.drop_of_length_le (by simp; omega), List.append_nil] at hst
  cases hq : P.info? elem with
  | none => simp [hq] at hs
  | some i =>
    have hi : i.size = size := by simpa [hq] using hs
    simp [Builtin.copy_, run_underlying hu, Builtin.lenOf, Builtin.firstCells, sizeOf, typeInfo, hq, hi, ← hn, hl, hst]
/-- Nothing goes over where there is no source. -/
theorem run_copy_void {P : Program} (w : World) (dT sT ty elem : TypeId) (d : Option Addr) (a : Option Addr) (dLen dCap sLen sCap : Nat) (hu : P.underlying dT = some (.slice elem)) (hs : ((P.info? elem).map (·.size)).isSome = true) (hn : Nat.min sLen dLen = 0) :
    (Builtin.copy_ #[dT, sT] ty #[.slice d dLen dCap, .slice a sLen sCap]).run P w = .ok (goInt 0) w := by
  cases hq : P.info? elem with
  | none => simp [hq] at hs
  | some i =>
    have hl : ∀ (x : Addr), (loadCells x 0).run P w = .ok #[] w := fun x => by simpa using run_loadCells_list (P := P) w x [] (by simp)
    cases d <;> cases a <;> simp [Builtin.copy_, run_underlying hu, Builtin.lenOf, Builtin.firstCells, sizeOf, typeInfo, hq, hn, storeCells, hl]
end Go.Proofs.YtpalfhfbgfnacaaGreatDoor

/-
  The contracts of package chars' IsName and Fold, over stage 2's text Print (made out of XChars, XStr and XFold).
-/
namespace Go.Proofs.YtpalfhfbgfnacaaGreatDoor
open Go.RowKit
set_option linter.unusedVariables false
set_option linter.unusedSimpArgs false

theorem dec_le (n : Nat) (k : Nat) : decide (n ≤ k) = decide ((n : Int) ≤ (k : Int)) := by simp
theorem ne_nat (n k : Nat) : ((n : Int) != (k : Int)) = !decide (n = k) := by
  rw [Bool.eq_iff_iff]; simp; omega
theorem isDigit_any (c : UInt8) (w : World) : Calls Tryz.prog 131 #[.int .u8 c.toNat] w fun e w' => e = .returned (.bool (digB c)) ∧ w = w' := by
  have hlt := u8lt c
  by_cases h : 48 ≤ (c.toNat : Int)
  · go_enter Tryz.func131, Tryz.ntmps131
    go_wp2
    go_ret
    exact ⟨ret_bool (by have h1 : 48 ≤ c.toNat := by omega
                        simp only [digB, h1, decide_true, Bool.true_and]; exact (dec_le _ _).symm), rfl⟩
  · go_enter Tryz.func131, Tryz.ntmps131
    go_wp2
    go_ret
    exact ⟨ret_bool (by have h1 : ¬ 48 ≤ c.toNat := by omega
                        simp [digB, h1]), rfl⟩
theorem isCapital_any (c : UInt8) (w : World) : Calls Tryz.prog 130 #[.int .u8 c.toNat] w fun e w' => e = .returned (.bool (capB c)) ∧ w = w' := by
  have hlt := u8lt c
  by_cases h : 65 ≤ (c.toNat : Int)
  · go_enter Tryz.func130, Tryz.ntmps130
    go_wp2
    go_ret
    exact ⟨ret_bool (by have h1 : 65 ≤ c.toNat := by omega
                        simp only [capB, h1, decide_true, Bool.true_and]; exact (dec_le _ _).symm), rfl⟩
  · go_enter Tryz.func130, Tryz.ntmps130
    go_wp2
    go_ret
    exact ⟨ret_bool (by have h1 : ¬ 65 ≤ c.toNat := by omega
                        simp [capB, h1]), rfl⟩
theorem capital_any : Tests 130 capB := ⟨fun args w => by kernel_rfl, fun c w => isCapital_any c w⟩
theorem strange_any : Tests 129 (fun c => !nameB c) := by
  refine ⟨fun args w => by kernel_rfl, ?_⟩
  intro c w
  have hlt := u8lt c
  cases h : capB c
  · cases h2 : digB c
    · go_enter Tryz.func129, Tryz.ntmps129
      go_wp2_with (first | (go_at_call 131; refine (isDigit_any c _).mono ?_; rintro e w' ⟨rfl, rfl⟩) | (go_at_call 130; refine (isCapital_any c _).mono ?_; rintro e w' ⟨rfl, rfl⟩))
      go_ret
      exact ⟨ret_bool (by simp only [nameB, h, h2, Bool.false_or]; exact ne_nat _ 45), rfl⟩
    · go_enter Tryz.func129, Tryz.ntmps129
      go_wp2_with (first | (go_at_call 131; refine (isDigit_any c _).mono ?_; rintro e w' ⟨rfl, rfl⟩) | (go_at_call 130; refine (isCapital_any c _).mono ?_; rintro e w' ⟨rfl, rfl⟩))
      go_ret
      exact ⟨ret_bool (by simp [nameB, h, h2]), rfl⟩
  · go_enter Tryz.func129, Tryz.ntmps129
    go_wp2_with (first | (go_at_call 131; refine (isDigit_any c _).mono ?_; rintro e w' ⟨rfl, rfl⟩) | (go_at_call 130; refine (isCapital_any c _).mono ?_; rintro e w' ⟨rfl, rfl⟩))
    go_ret
    exact ⟨ret_bool (by simp [nameB, h]), rfl⟩

/-- The string of a list of bytes. -/
def strB (l : List UInt8) : ByteArray := ⟨l.toArray⟩
theorem strB_data (l : List UInt8) : (strB l).data.toList = l := rfl
theorem strB_toList (l : List UInt8) : (strB l).toList = l := ByteArray.toList_eq _
theorem strB_of (s : ByteArray) : strB s.data.toList = s := rfl
theorem strB_size (l : List UInt8) : (strB l).size = l.length := by simp [strB, ByteArray.size]
set_option maxRecDepth 100000 in
theorem run_str (A : Option Addr) (xs : List UInt8) (cap : Nat) (w : World) (h : Txt w A xs) :
    (convert 66 9 (.slice A xs.length cap)).run Tryz.prog w = .ok (.string (strB xs)) w := by
  rcases Nat.eq_zero_or_pos xs.length with h0 | h0
  · obtain rfl : xs = [] := List.eq_nil_of_length_eq_zero h0
    rw [run_convert_bytes_string w 66 9 5 A _ cap Tryz.underlying66 Tryz.underlying5 Tryz.underlying9]
    rcases A with _ | a
    · simp [Conv.bytesToString]; rfl
    · refine (run_bytesToString w a _ cap [] ?_).trans rfl
      exact run_loadCells_list (P := Tryz.prog) w a [] (fun j v hj => by simp at hj)
  · obtain ⟨b, off, rfl, hb, hc⟩ := h h0
    have := run_convert_bytes_arg (P := Tryz.prog) w 66 5 Tryz.underlying66 Tryz.underlying5 b off xs.length cap (xs.map fun c => (c.toNat : Int)) (by simp) (fun i hi => by
      rw [hc i _ (List.getElem?_eq_getElem hi)]
      simp [List.getD, hi]) 9 Tryz.underlying9
    refine this.trans ?_
    congr 2
    show strOfNums (xs.map fun c => (c.toNat : Int)) = strB xs
    unfold strOfNums strB
    congr 1
    simp [Function.comp_def]

theorem all_not (p : UInt8 → Bool) (l : List UInt8) (b : Bool) (h : l.any p = b) : l.all (fun c => !p c) = !b := by
  subst h
  induction l with
  | nil => rfl
  | cons c l ih => rw [List.all_cons, List.any_cons, ih]; simp
/-- How far a text has been folded. -/
def foldTo (l : List UInt8) (k : Nat) : List UInt8 := (l.take k).map upB ++ l.drop k
theorem foldTo_length (l : List UInt8) (k : Nat) : (foldTo l k).length = l.length := by
  simp [foldTo]; omega
theorem foldTo_zero (l : List UInt8) : foldTo l 0 = l := by simp [foldTo]
theorem foldTo_full (l : List UInt8) (k : Nat) (h : l.length ≤ k) : foldTo l k = foldB l := by
  simp [foldTo, foldB, List.take_of_length_le h, List.drop_of_length_le h]
theorem foldTo_at (l : List UInt8) (k : Nat) (c : UInt8) (h : l[k]? = some c) : (foldTo l k)[k]? = some c := by
  have hk : k < l.length := by
    rcases Nat.lt_or_ge k l.length with hk | hk
    · exact hk
    · rw [List.getElem?_eq_none hk] at h; cases h
  unfold foldTo
  rw [List.getElem?_append_right (by simp; omega)]
  simp [Nat.min_eq_left (Nat.le_of_lt hk), h]
theorem foldTo_succ (l : List UInt8) (k : Nat) (c : UInt8) (h : l[k]? = some c) : (foldTo l k).set k (upB c) = foldTo l (k + 1) := by
  have hk : k < l.length := by
    rcases Nat.lt_or_ge k l.length with hk | hk
    · exact hk
    · rw [List.getElem?_eq_none hk] at h; cases h
  have hc : l[k] = c := by rw [List.getElem?_eq_getElem hk] at h; injection h
  unfold foldTo
  rw [List.set_append_right _ _ (by simp; omega), List.take_succ_eq_append_getElem hk, List.drop_eq_getElem_cons hk]
  simp [Nat.min_eq_left (Nat.le_of_lt hk), hc]
theorem set_same (l : List UInt8) (k : Nat) (c : UInt8) (h : l[k]? = some c) : l.set k c = l := by
  apply List.ext_getElem?
  intro i
  rw [List.getElem?_set]
  split
  · rename_i e; subst e
    rw [h]; split
    · rfl
    · rename_i hk; rw [List.getElem?_eq_none (by omega)] at h; cases h
  · rfl
/-- Block g of the world is a row of bytes of the call's own, which begins with l; below g the world is as it was. -/
structure RowAt (w0 wr : World) (g : Nat) (l : List UInt8) : Prop where
  lt : g < wr.heap.size
  cell : ∀ j c, l[j]? = some c → wr.cell? ⟨g, j, none⟩ = some (.int .u8 c.toNat)
  free : ∀ j, j < l.length → wr.frozen? ⟨g, j, none⟩ = false
  below : Below g w0 wr
theorem RowAt.store {w0 wr : World} {g : Nat} {l : List UInt8} (h : RowAt w0 wr g l) (k : Nat) (c : UInt8) (hk : k < l.length) : RowAt w0 (wr.setCell ⟨g, k, none⟩ (.int .u8 c.toNat)) g (l.set k c) where
  lt := by have := h.lt; simpa [World.setCell] using this
  cell := by
    intro j d hj
    rw [List.getElem?_set] at hj
    split at hj
    · rename_i e; subst e
      injection hj with hj; subst hj
      exact World.cell?_setCell_same wr _ _ (h.cell k _ (List.getElem?_eq_getElem hk))
    · rename_i e
      rw [World.cell?_setCell_other wr (a := ⟨g, k, none⟩) (b := ⟨g, j, none⟩) _ (by intro e2; injection e2 with _ e3; exact e e3)]
      exact h.cell j d hj
  free := by intro j hj; rw [World.frozen?_setCell]; exact h.free j (by simpa using hj)
  below := h.below.setCell (Nat.le_refl _) _
theorem RowAt.txt {w0 wr : World} {g : Nat} {l : List UInt8} (h : RowAt w0 wr g l) : Txt wr (some ⟨g, 0, none⟩) l := fun _ =>
  ⟨g, 0, rfl, h.lt, fun j c hj => by simpa using h.cell j c hj⟩
theorem RowAt.made (w : World) (t : TypeId) (s : ByteArray) : RowAt w (Lib.bytesWorld w t s) w.heap.size s.data.toList where
  lt := by rw [Lib.bytesWorld_size]; omega
  cell := by
    intro j c hj
    have hk : j < s.data.toList.length := by
      rcases Nat.lt_or_ge j s.data.toList.length with hk | hk
      · exact hk
      · rw [List.getElem?_eq_none hk] at hj; cases hj
    rw [Lib.bytesWorld_cell w t s j (by rw [show s.size = s.data.toList.length from Array.length_toList.symm]; exact hk)]
    simp only [List.getD, hj, Option.getD_some]
  free := by
    intro j hj
    have hs : j < s.size := by rw [show s.size = s.data.toList.length from Array.length_toList.symm]; exact hj
    have hb : s.size ≤ (Lib.bytesCells w t s).size := by simp only [Lib.bytesCells, Array.size_append, Array.size_map]; exact Nat.le_add_right _ _
    simp only [World.frozen?, Lib.bytesWorld_at_new]
    simp
    omega
  below := ⟨rfl, rfl, rfl, by rw [Lib.bytesWorld_size]; omega, fun k hk => Lib.bytesWorld_at_old w t s k hk⟩
set_option maxRecDepth 100000 in
theorem isName_any (s : ByteArray) (hs : s.size ≤ 140737488355328) (w : World) : Calls Tryz.prog 117 #[.string s] w fun e w' => e = .returned (.bool (isNameB s.data.toList)) ∧ w = w' := by
  have hd : s.toList = s.data.toList := ByteArray.toList_eq s
  have hsz : s.size = s.data.toList.length := Array.length_toList.symm
  by_cases h0 : s.toList = []
  · have h1 : s.toList.isEmpty = true := by simp [h0]
    have h2 : isNameB s.data.toList = false := by rw [← hd]; simp [isNameB, h0]
    rw [h2]; clear h2 hd hsz
    go_enter Tryz.func117, Tryz.ntmps117
    go_wp2
    go_ret
    exact ⟨rfl, rfl⟩
  have h1 : s.toList.isEmpty = false := by simp [h0]
  have hpos : 0 < s.size := by
    rw [hsz, ← hd]; exact List.length_pos_iff.2 h0
  have hlast : s.size - 1 < s.size := by omega
  by_cases h30 : (30 : Int) < s.size
  · have h2 : isNameB s.data.toList = false := by
      have : ¬ s.data.toList.length ≤ 30 := by omega
      simp only [isNameB, this, decide_false, Bool.and_false, Bool.false_and]
    have h30' : decide ((30 : Int) < s.size) = true := by simpa using h30
    rw [h2]; clear h2 hd hsz
    go_enter Tryz.func117, Tryz.ntmps117
    go_wp2
    go_ret
    exact ⟨rfl, rfl⟩
  have h30' : decide ((30 : Int) < s.size) = false := by simp; omega
  have hle : s.data.toList.length ≤ 30 := by omega
  have hg0 : s.data.toList.getD 0 0 = s[0] := by
    have : s.data.toList[0]? = some s[0] := by simp [hpos]; rfl
    simp [List.getD, this]
  have hgl : s.data.toList.getD (s.data.toList.length - 1) 0 = (s[s.size - 1]'hlast) := by
    have : s.data.toList[s.size - 1]? = some (s[s.size - 1]'hlast) := by simp [hlast]; rfl
    rw [← hsz]
    simp [List.getD, this]
  by_cases ha : s[0].toNat = 45
  · have h2 : isNameB s.data.toList = false := by
      simp only [isNameB, hg0, ha, decide_true, Bool.not_true, Bool.and_false, Bool.false_and]
    have ha' : ((s[0].toNat : Int) == 45) = true := by simp; omega
    rw [h2]; clear h2 hd hsz ha hg0 hgl hle
    go_enter Tryz.func117, Tryz.ntmps117
    go_wp2
    go_ret
    exact ⟨rfl, rfl⟩
  have ha' : ((s[0].toNat : Int) == 45) = false := by simp; omega
  by_cases hb : (s[s.size - 1]'hlast).toNat = 45
  · have h2 : isNameB s.data.toList = false := by
      simp only [isNameB, hgl, hb, decide_true, Bool.not_true, Bool.and_false, Bool.false_and]
    have hb' : (((s[s.size - 1]'hlast).toNat : Int) == 45) = true := by simp; omega
    rw [h2]; clear h2 hd hsz ha hb hg0 hgl hle
    go_enter Tryz.func117, Tryz.ntmps117
    go_wp2
    go_ret
    exact ⟨rfl, rfl⟩
  have hb' : (((s[s.size - 1]'hlast).toNat : Int) == 45) = false := by simp; omega
  have hn : isNameB s.data.toList = (s.data.toList.all nameB && s.data.toList.any capB) := by
    have e : s.data.toList.isEmpty = false := by rw [← hd]; exact h1
    simp only [isNameB, hg0, hgl, ha, hb, hle, e, decide_true, decide_false, Bool.not_false, Bool.true_and]
  rw [hn]; clear hn hd ha hb hg0 hgl hle hsz
  cases hall : s.data.toList.all nameB
  · have hf := firstI_some (fun c => !nameB c) s.data.toList 0 (by simpa using hall)
    have hf' : decide (firstI (fun c => !nameB c) 0 s.data.toList < 0) = false := by simp; omega
    clear hall
    go_enter Tryz.func117, Tryz.ntmps117
    go_wp2_with (go_at_call 80; refine (first_any s _ _ strange_any hs _).mono ?_; rintro e w' ⟨rfl, rfl⟩)
    go_ret
    exact ⟨rfl, rfl⟩
  · have hf := firstI_none (fun c => !nameB c) s.data.toList 0 (by simpa using hall)
    clear hall
    cases hany : s.data.toList.any capB
    · have hc := firstI_none capB s.data.toList 0 (all_not capB _ _ hany)
      clear hany
      go_enter Tryz.func117, Tryz.ntmps117
      go_wp2_with fail
      refine (first_any s _ _ strange_any hs _).mono ?_; rintro e w' ⟨rfl, rfl⟩
      rw [hf]
      go_wp2_with fail
      refine (first_any s _ _ capital_any hs _).mono ?_; rintro e w' ⟨rfl, rfl⟩
      rw [hc]
      go_wp2
      go_ret
      exact ⟨rfl, rfl⟩
    · have hc := firstI_some capB s.data.toList 0 (all_not capB _ _ hany)
      have hc' : decide (0 ≤ firstI capB 0 s.data.toList) = true := by simpa using hc
      clear hany
      go_enter Tryz.func117, Tryz.ntmps117
      go_wp2_with fail
      refine (first_any s _ _ strange_any hs _).mono ?_; rintro e w' ⟨rfl, rfl⟩
      rw [hf]
      go_wp2_with fail
      refine (first_any s _ _ capital_any hs _).mono ?_; rintro e w' ⟨rfl, rfl⟩
      go_wp2
      go_ret
      exact ⟨rfl, rfl⟩
theorem upB_small (c : UInt8) (h0 : 97 ≤ (c.toNat : Int)) (h1 : (c.toNat : Int) ≤ 122) : (upB c).toNat = (c.toNat : Int) - 97 + 65 := by
  have hs : smallB c = true := by simp [smallB]; omega
  have hlt := c.toNat_lt
  unfold upB
  rw [if_pos hs, UInt8.toNat_ofNat_of_lt' (by show c.toNat - 32 < 256; omega)]
  omega
theorem upB_else (c : UInt8) (h : ¬ (97 ≤ (c.toNat : Int) ∧ (c.toNat : Int) ≤ 122)) : upB c = c := by
  have hs : smallB c = false := by simp [smallB]; omega
  simp [upB, hs]
set_option maxRecDepth 100000 in
set_option maxHeartbeats 1000000 in
theorem fold_any (s : ByteArray) (hs : s.size ≤ 140737488355328) (w : World) : Calls Tryz.prog 112 #[.string s] w fun e w' => e = .returned (.string (strB (foldB s.data.toList))) ∧ Below w.heap.size w w' := by
  have hcv := fun W : World => Lib.run_convert_string_bytes (P := Tryz.prog) W 9 66 5 s Tryz.underlying9 Tryz.underlying66 Tryz.underlying5
  have HL : Hid (s.size = s.data.toList.length) := Array.length_toList.symm
  have HM : Hid (RowAt w (Lib.bytesWorld w 5 s) w.heap.size s.data.toList) := RowAt.made w _ s
  obtain ⟨g, hg⟩ : ∃ g, g = w.heap.size := ⟨_, rfl⟩
  go_enter Tryz.func112, Tryz.ntmps112
  go_wp2
  have HM2 := HM.out; clear HM
  generalize Lib.bytesWorld w 5 s = w1 at HM2 ⊢
  rw [← hg] at HM2 ⊢
  have HG := Lib.hid hg; clear hg hcv
  have HM := Lib.hid HM2; clear HM2
  obtain ⟨cp, hcp⟩ : ∃ cp, cp = grownCap w s.size 0 5 := ⟨_, rfl⟩
  rw [← hcp]; clear hcp
  go_loopw [10] (fun i wr => ∃ k : Nat, k ≤ s.size ∧ i = .int .i64 k ∧ RowAt w wr g (foldTo s.data.toList k)) (fun i _ => s.size - (intOf i).toNat)
  case atStart => exact ⟨0, Nat.zero_le _, rfl, by rw [foldTo_zero]; exact HM.out⟩
  case round =>
    obtain ⟨k, hk, rfl, hrow⟩ := hrel
    by_cases hlt : k < s.size
    · have hkl : k < s.data.toList.length := by rw [← HL.out]; exact hlt
      obtain ⟨c, hc⟩ : ∃ c, s.data.toList[k]? = some c := ⟨_, List.getElem?_eq_getElem hkl⟩
      have hcell := hrow.cell k c (foldTo_at _ k c hc)
      have hfree := hrow.free k (by rw [foldTo_length]; exact hkl)
      have hclt := u8lt c
      have HR := Lib.hid hrow; clear hrow
      have HC := Lib.hid hc; clear hc
      by_cases h0 : 97 ≤ (c.toNat : Int)
      · by_cases h1 : (c.toNat : Int) ≤ 122
        · go_wp2
          go_roundw
          case rel => exact ⟨k + 1, by omega, by go_num, by rw [← foldTo_succ _ k c HC.out, ← upB_small c h0 h1]; exact HR.out.store k _ (by rw [foldTo_length]; exact hkl)⟩
          case measure => simp [intOf]; omega
        · go_wp2
          go_roundw
          case rel => exact ⟨k + 1, by omega, by go_num, by rw [← foldTo_succ _ k c HC.out, upB_else c (by omega), set_same _ k c (foldTo_at _ k c HC.out)]; exact HR.out⟩
          case measure => simp [intOf]; omega
      · go_wp2
        go_roundw
        case rel => exact ⟨k + 1, by omega, by go_num, by rw [← foldTo_succ _ k c HC.out, upB_else c (by omega), set_same _ k c (foldTo_at _ k c HC.out)]; exact HR.out⟩
        case measure => simp [intOf]; omega
    · have hrow2 : RowAt w wr g (foldB s.data.toList) := by
        rw [← foldTo_full _ k (by rw [← HL.out]; omega)]; exact hrow
      have hcv := run_str (some ⟨g, 0, none⟩) (foldB s.data.toList) cp wr hrow2.txt
      rw [show (foldB s.data.toList).length = s.size from by rw [HL.out]; simp [foldB]] at hcv
      have hbel : Below w.heap.size w wr := by rw [← HG.out]; exact hrow.below
      clear hrow hrow2
      go_wp2
      go_ret
      exact ⟨rfl, hbel⟩
end Go.Proofs.YtpalfhfbgfnacaaGreatDoor

/-
  Plain words on the reference of layer 3 (columnsevenref03), on lists of bytes: its tests, its numbers, its tokens; they are those of the scanner. No program is named here.
-/
namespace Go.Proofs.YtpalfhfbgfnacaaGreatDoor
open Go.RowKit
set_option linter.unusedVariables false
set_option linter.unusedSimpArgs false

/-- The byte at a place, if there is one, is wanted. -/
def atB (p : UInt8 → Bool) (l : List UInt8) (k : Nat) : Bool := match l[k]? with | some c => p c | none => false
theorem atB_some {p : UInt8 → Bool} {l : List UInt8} {k : Nat} {c : UInt8} (h : l[k]? = some c) : atB p l k = p c := by unfold atB; rw [h]
theorem atB_none {p : UInt8 → Bool} {l : List UInt8} {k : Nat} (h : l.length ≤ k) : atB p l k = false := by unfold atB; rw [List.getElem?_eq_none h]
theorem atB_drop (p : UInt8 → Bool) (l : List UInt8) (i k : Nat) : atB p (l.drop i) k = atB p l (i + k) := by unfold atB; rw [List.getElem?_drop]
theorem atB_true {p : UInt8 → Bool} {l : List UInt8} {k : Nat} (h : atB p l k = true) : ∃ c, l[k]? = some c ∧ p c = true := by
  unfold atB at h
  cases hc : l[k]? with
  | none => rw [hc] at h; cases h
  | some c => rw [hc] at h; exact ⟨c, rfl, h⟩
theorem spn_atB (p : UInt8 → Bool) (l : List UInt8) (i : Nat) : spn p (l.drop i) = if atB p l i = true then spn p (l.drop (i + 1)) + 1 else 0 := by
  cases h : l[i]? with
  | none =>
    have : l.length ≤ i := List.getElem?_eq_none_iff.1 h
    rw [atB_none this, List.drop_of_length_le this]; rfl
  | some c => rw [spn_drop p l i c h, atB_some h]
theorem spn_pos_at (p : UInt8 → Bool) (l : List UInt8) (i : Nat) : 0 < spn p (l.drop i) ↔ atB p l i = true := by
  rw [spn_atB]
  split <;> simp_all
theorem spn_end (p : UInt8 → Bool) (l : List UInt8) (i : Nat) : atB p l (i + spn p (l.drop i)) = false := by
  rw [← atB_drop]
  cases h : (l.drop i)[spn p (l.drop i)]? with
  | none => exact atB_none (List.getElem?_eq_none_iff.1 h)
  | some c => rw [atB_some h]; exact spn_stop p _ c h
theorem spn_lt (p : UInt8 → Bool) : ∀ (l : List UInt8) (n : Nat), (∀ j, j < n → atB p l j = true) → n ≤ spn p l
  | _, 0, _ => Nat.zero_le _
  | [], n + 1, h => by have := h 0 (by omega); simp [atB] at this
  | c :: l, n + 1, h => by
    have h0 : p c = true := by have := h 0 (by omega); simpa [atB] using this
    have := spn_lt p l n (fun j hj => by have := h (j + 1) (by omega); simpa [atB] using this)
    simp only [spn]
    rw [if_pos h0]; omega
theorem spn_in (p : UInt8 → Bool) (l : List UInt8) (j : Nat) (h : j < spn p l) : atB p l j = true := by
  have hl : j < l.length := Nat.lt_of_lt_of_le h (spn_le p l)
  have hc : l[j]? = some l[j] := List.getElem?_eq_getElem hl
  rw [atB_some hc]
  exact spn_all p l j _ h hc
theorem dig_inw {c : UInt8} (h : digB c = true) : inwB c = true := by simp [inwB, h]
theorem atB_mono {p q : UInt8 → Bool} (hpq : ∀ c, p c = true → q c = true) {l : List UInt8} {k : Nat} (h : atB p l k = true) : atB q l k = true := by
  obtain ⟨c, hc, hp⟩ := atB_true h
  rw [atB_some hc]; exact hpq c hp
/-- The byte at a place is c. -/
def isAt (l : List UInt8) (k : Nat) (c : Nat) : Bool := atB (fun b => decide (b.toNat = c)) l k
theorem isAt_getD {l : List UInt8} {k c : Nat} (hc : c ≠ 0) : isAt l k c = decide ((l.getD k 0).toNat = c) := by
  unfold isAt
  cases h : l[k]? with
  | none =>
    rw [atB_none (List.getElem?_eq_none_iff.1 h)]
    simp only [List.getD, h, Option.getD_none]
    have : ¬ (0 : UInt8).toNat = c := fun e => hc (by rw [← e]; rfl)
    simp [this]
    exact this
  | some b => rw [atB_some h]; simp [List.getD, h]
/-- What the reference's numeral returns at the place i. -/
def numR (i : Nat) (r : List UInt8) (sep : Bool) : Int × Int :=
  if numN r sep = 0 then (0, 0) else if atB inwB r (numN r sep) = true then (-1, 0) else (((i + numN r sep : Nat) : Int), (((r.take (numN r sep)).countP digB : Nat) : Int))
/-- Where the digits in front of the point end. -/
def intN (r : List UInt8) (sep : Bool) : Nat := sgN r sep + spn digB (r.drop (sgN r sep))
def dotAt (r : List UInt8) (n : Nat) : Bool := isAt r n 46 && atB digB r (n + 1)
theorem numN_eq (r : List UInt8) (sep : Bool) : numN r sep = if intN r sep < wrdN r then 0 else if dotAt r (intN r sep) = true then intN r sep + 1 + spn digB (r.drop (intN r sep + 1)) else if intN r sep = sgN r sep then 0 else intN r sep := by
  unfold numN
  dsimp only
  show (if intN r sep < wrdN r then 0 else if (r.getD (intN r sep) 0).toNat = 46 ∧ 0 < spn digB (r.drop (intN r sep + 1)) then _ else _) = _
  have : ((r.getD (intN r sep) 0).toNat = 46 ∧ 0 < spn digB (r.drop (intN r sep + 1))) ↔ dotAt r (intN r sep) = true := by
    unfold dotAt
    rw [Bool.and_eq_true, isAt_getD (by decide), decide_eq_true_iff, spn_pos_at]
  simp only [this]
  rfl
theorem wrd_sign {r : List UInt8} {sep : Bool} (h : sgN r sep = 1) : wrdN r = 0 := by
  unfold sgN at h
  split at h
  · rename_i hh
    unfold wrdN
    split
    · rfl
    · rename_i h45
      rcases hh.2 with h43 | h43
      · cases r with
        | nil => simp at h43
        | cons c r =>
          simp at h43
          have : inwB c = false := by simp [inwB, letB, capB, smallB, digB, h43]
          simp [spn, this]
      · exact absurd h43 h45
  · cases h
theorem sg_cases (r : List UInt8) (sep : Bool) : sgN r sep = 0 ∨ sgN r sep = 1 := by unfold sgN; split <;> simp
theorem dot_not_word {r : List UInt8} {n : Nat} (h : isAt r n 46 = true) : atB inwB r n = false := by
  obtain ⟨c, hc, h46⟩ := atB_true h
  rw [atB_some hc]
  simp at h46
  simp [inwB, letB, capB, smallB, digB, h46]
theorem wrd_le_of {r : List UInt8} {n : Nat} (h : atB inwB r n = false) : wrdN r ≤ n := by
  unfold wrdN
  split
  · omega
  · rcases Nat.lt_or_ge n (spn inwB r) with h1 | h1
    · rw [spn_in inwB r n h1] at h; cases h
    · exact h1
theorem digs_in (r : List UInt8) (g j : Nat) (h1 : g ≤ j) (h2 : j < g + spn digB (r.drop g)) : atB digB r j = true := by
  have := spn_in digB (r.drop g) (j - g) (by omega)
  rwa [atB_drop, show g + (j - g) = j from by omega] at this
/-- No number: no digit and no point with a digit. -/
theorem num_none {i : Nat} {r : List UInt8} {sep : Bool} (h1 : atB digB r (sgN r sep) = false) (h2 : dotAt r (sgN r sep) = false) : numR i r sep = (0, 0) := by
  have h3 : intN r sep = sgN r sep := by unfold intN; rw [spn_atB, h1]; rfl
  have : numN r sep = 0 := by
    rw [numN_eq, h3, h2]
    split
    · rfl
    · simp
  unfold numR; rw [if_pos this]
/-- A word: a letter or a hyphen behind the digits, and no sign. -/
theorem num_word {i : Nat} {r : List UInt8} {sep : Bool} (h0 : sgN r sep = 0) (h1 : atB digB r 0 = true) (h2 : atB inwB r (intN r sep) = true) : numR i r sep = (0, 0) := by
  have : numN r sep = 0 := by
    rw [numN_eq, if_pos]
    have hi : intN r sep = spn digB r := by unfold intN; rw [h0, List.drop_zero]; omega
    have hs : intN r sep < spn inwB r := by
      refine spn_lt inwB r (intN r sep + 1) fun j hj => ?_
      rcases Nat.lt_or_ge j (intN r sep) with hj2 | hj2
      · exact atB_mono (fun c => dig_inw) (spn_in digB r j (by omega))
      · rw [show j = intN r sep from by omega]; exact h2
    unfold wrdN
    rw [if_neg]
    · exact hs
    · intro h45
      obtain ⟨c, hc, hd⟩ := atB_true h1
      simp [List.getD, hc] at h45
      simp [digB, h45] at hd
  unfold numR; rw [if_pos this]
theorem int_wrd {r : List UInt8} {sep : Bool} (h : sgN r sep = 0 → atB inwB r (intN r sep) = false) : ¬ intN r sep < wrdN r := by
  rcases sg_cases r sep with h0 | h1
  · have := wrd_le_of (h h0); omega
  · rw [wrd_sign h1]; omega
/-- A number with a point. -/
theorem num_dot {r : List UInt8} {sep : Bool} (h : dotAt r (intN r sep) = true) : numN r sep = intN r sep + 1 + spn digB (r.drop (intN r sep + 1)) := by
  rw [numN_eq, if_neg (int_wrd fun _ => dot_not_word (by unfold dotAt at h; rw [Bool.and_eq_true] at h; exact h.1)), if_pos h]
/-- A number without a point. -/
theorem num_int {r : List UInt8} {sep : Bool} (h : dotAt r (intN r sep) = false) (h2 : sgN r sep = 0 → atB inwB r (intN r sep) = false) (h3 : atB digB r (sgN r sep) = true) : numN r sep = intN r sep := by
  rw [numN_eq, if_neg (int_wrd h2), h, if_neg (by simp), if_neg]
  have : 0 < spn digB (r.drop (sgN r sep)) := (spn_pos_at _ _ _).2 h3
  unfold intN; omega
theorem numR_of {i : Nat} {r : List UInt8} {sep : Bool} {N : Nat} (h : numN r sep = N) (h0 : 0 < N) : numR i r sep = if atB inwB r N = true then (-1, 0) else (((i + N : Nat) : Int), (((r.take N).countP digB : Nat) : Int)) := by
  unfold numR; rw [h, if_neg (by omega)]
theorem count_digs (r : List UInt8) (g d : Nat) (h : ∀ j, g ≤ j → j < g + d → atB digB r j = true) : (r.take (g + d)).countP digB = (r.take g).countP digB + d := by
  induction d with
  | zero => rfl
  | succ d ih =>
    have h1 := ih fun j h1 h2 => h j h1 (by omega)
    obtain ⟨c, hc, hp⟩ := atB_true (h (g + d) (by omega) (by omega))
    rw [← Nat.add_assoc, List.take_add_one, hc, List.countP_append, h1]
    simp [hp]
    omega

/-! ### words -/
def nameR (l : List UInt8) : Bool := l.any letB && decide ((l.getD 0 0).toNat ≠ 45) && decide ((l.getD (l.length - 1) 0).toNat ≠ 45)
def wrdR (t : List UInt8) : RdT := if nameR t = true then if 30 < t.length then .bad 5 else .got 1 (foldB t) t.length else .bad 4
theorem upB_toNat (c : UInt8) : (upB c).toNat = if smallB c = true then c.toNat - 32 else c.toNat := by
  have := c.toNat_lt
  unfold upB
  split
  · rw [UInt8.toNat_ofNat']; omega
  · rfl
theorem cap_up {c : UInt8} : capB (upB c) = letB c := by
  have hu := upB_toNat c
  unfold letB
  cases hs : smallB c
  · rw [hs, if_neg (by simp)] at hu
    unfold capB; rw [hu]; simp
  · rw [hs, if_pos rfl] at hu
    unfold smallB at hs
    simp at hs
    unfold capB; rw [hu]
    have e1 : decide (65 ≤ c.toNat - 32) = true := by simp; omega
    have e2 : decide (c.toNat - 32 ≤ 90) = true := by simp; omega
    rw [e1, e2]; simp
theorem hyp_up {c : UInt8} : ((upB c).toNat = 45) ↔ c.toNat = 45 := by
  have hu := upB_toNat c
  rw [hu]
  split
  · rename_i hs
    unfold smallB at hs
    simp at hs
    omega
  · rfl
theorem name_up {c : UInt8} (h : inwB c = true) : nameB (upB c) = true := by
  have hu := upB_toNat c
  unfold inwB letB at h
  unfold nameB
  cases hs : smallB c
  · rw [hs, if_neg (by simp)] at hu
    rw [hs] at h
    unfold capB digB; rw [hu]
    unfold capB digB at h
    simpa using h
  · rw [cap_up]
    simp [letB, hs]
theorem notDH_up {c : UInt8} (h : inwB c = true) : notDH (upB c) = letB c := by
  have hu := upB_toNat c
  unfold notDH
  cases hs : smallB c
  · rw [hs, if_neg (by simp)] at hu
    unfold digB; rw [hu]
    unfold inwB letB at h
    unfold letB
    rw [hs] at h ⊢
    unfold capB digB at *
    by_cases h1 : 65 ≤ c.toNat ∧ c.toNat ≤ 90
    · have e1 : ¬ c.toNat ≤ 57 := by omega
      have e2 : ¬ c.toNat = 45 := by omega
      simp [h1, e1, e2]
    · by_cases h2 : 48 ≤ c.toNat ∧ c.toNat ≤ 57
      · have e1 : ¬ 65 ≤ c.toNat := by omega
        simp [h2, e1]
      · have h3 : c.toNat = 45 := by
          simp at h
          omega
        simp [h3]
  · rw [hs, if_pos rfl] at hu
    unfold smallB at hs
    simp at hs
    unfold digB; rw [hu]
    have e1 : ¬ (c.toNat - 32) ≤ 57 := by omega
    have e2 : ¬ (c.toNat - 32) = 45 := by omega
    simp [letB, smallB, hs, e1, e2]
theorem getD_fold (l : List UInt8) (k : Nat) : ((foldB l).getD k 0).toNat = 45 ↔ (l.getD k 0).toNat = 45 := by
  unfold foldB
  cases h : l[k]? with
  | none => simp [List.getD, h]
  | some c => simp only [List.getD, List.getElem?_map, h, Option.map_some, Option.getD_some]; exact hyp_up
theorem wordT_R {t : List UInt8} (hall : t.all inwB = true) (hne : t ≠ []) (h0 : (t.getD 0 0).toNat ≠ 45) : wordT t = wrdR t := by
  have hl : (foldB t).length = t.length := by simp [foldB]
  have hlen := List.length_pos_iff.2 hne
  have hany : (foldB t).any notDH = t.any letB := by
    unfold foldB
    rw [List.any_map]
    rw [Bool.eq_iff_iff, List.any_eq_true, List.any_eq_true]
    rw [List.all_eq_true] at hall
    exact ⟨fun ⟨c, hc, hp⟩ => ⟨c, hc, by rw [← notDH_up (hall c hc)]; exact hp⟩, fun ⟨c, hc, hp⟩ => ⟨c, hc, by show notDH (upB c) = true; rw [notDH_up (hall c hc)]; exact hp⟩⟩
  have hcap : (foldB t).any capB = t.any letB := by
    unfold foldB
    rw [List.any_map]
    congr 1
    funext c; exact cap_up
  have hnm : (foldB t).all nameB = true := by
    unfold foldB
    rw [List.all_map, List.all_eq_true]
    rw [List.all_eq_true] at hall
    exact fun c hc => name_up (hall c hc)
  have hemp : (foldB t).isEmpty = false := by
    cases t with
    | nil => exact absurd rfl hne
    | cons c l => rfl
  have hf0 : decide (((foldB t).getD 0 0).toNat = 45) = false := by
    rw [decide_eq_false_iff_not, getD_fold]; exact h0
  have hfl : decide (((foldB t).getD (t.length - 1) 0).toNat = 45) = decide ((t.getD (t.length - 1) 0).toNat = 45) := by
    rw [Bool.eq_iff_iff, decide_eq_true_iff, decide_eq_true_iff, getD_fold]
  have hgl : ((foldB t).getD (t.length - 1) 0).toNat ≠ 45 ↔ (t.getD (t.length - 1) 0).toNat ≠ 45 := by rw [Ne, getD_fold]
  have hd0 : decide ((t.getD 0 0).toNat ≠ 45) = true := by simpa using h0
  unfold wordT wrdR nameR isNameB
  rw [hl, hemp, hf0, hfl, hnm, hcap, hany, hd0]
  simp only [hgl]
  have h31 : 30 < t.length ↔ ¬ t.length ≤ 30 := by omega
  simp only [h31]
  clear hfl hgl hf0 hd0 hall hany hcap hnm
  generalize (t.getD (t.length - 1) 0).toNat = z
  by_cases ha : t.any letB = true <;> by_cases hz : z = 45 <;> by_cases h30 : t.length ≤ 30 <;> simp [ha, hz, h30]

/-! ### the token -/
theorem letB_spc {c : UInt8} (h : letB c = true ∨ digB c = true) : inwB c = true ∧ c.toNat ≠ 45 := by
  unfold inwB
  unfold letB capB smallB digB at *
  simp at h
  refine ⟨?_, by omega⟩
  simp
  omega
theorem inw_split {c : UInt8} (h : inwB c = true) : letB c = true ∨ digB c = true ∨ c.toNat = 45 := by
  unfold inwB at h
  simp at h
  rcases h with (h | h) | h
  · exact .inl h
  · exact .inr (.inl h)
  · exact .inr (.inr h)
/-- IS, and no word goes on behind it. -/
def isR (r : List UInt8) : Bool := decide (foldB (r.take 2) = [73, 83]) && !atB inwB r 2
theorem up_is {c : UInt8} {u : Nat} (h : (upB c).toNat = u) (h1 : 65 ≤ u) (h2 : u ≤ 90) : letB c = true := by
  rw [← cap_up]
  unfold capB
  rw [h]; simp [h1, h2]
theorem isIS_R (r : List UInt8) : isIS r = isR r := by
  unfold isIS isR
  rw [Bool.eq_iff_iff, Bool.and_eq_true, decide_eq_true_iff, decide_eq_true_iff, Bool.not_eq_true']
  constructor
  · intro h
    have hl := congrArg List.length h
    have hle := wrdN_le r
    have h2 : wrdN r = 2 := by
      simp only [foldB, List.length_map, List.length_take, List.length_cons, List.length_nil] at hl
      omega
    rw [h2] at h
    refine ⟨h, ?_⟩
    unfold wrdN at h2
    split at h2
    · cases h2
    · have := spn_end inwB r 0
      rw [List.drop_zero, h2] at this
      exact this
  · rintro ⟨h, h2⟩
    match r, h, h2 with
    | [], h, _ => simp [foldB] at h
    | [a], h, _ => simp [foldB] at h
    | a :: b :: r', h, h2 =>
      simp [foldB] at h
      have ha : letB a = true := up_is (u := 73) (by rw [h.1]; rfl) (by omega) (by omega)
      have hb : letB b = true := up_is (u := 83) (by rw [h.2]; rfl) (by omega) (by omega)
      have ha2 := letB_spc (.inl ha)
      have hb2 := letB_spc (.inl hb)
      have h3 : spn inwB r' = 0 := by
        have := spn_atB inwB (a :: b :: r') 2
        rw [h2] at this
        simpa using this
      have hw : wrdN (a :: b :: r') = 2 := by
        unfold wrdN
        rw [if_neg (by simpa using ha2.2)]
        simp [spn, ha2.1, hb2.1, h3]
      rw [hw]
      simp [foldB, h.1, h.2]
/-- The token that the reference finds. -/
def tokR (e x sep : Bool) (r : List UInt8) : RdT :=
  if e = true ∧ isR r = true then .got 1 [73, 83] 2
  else if x = true ∧ eqs r = false then picT r
  else if isAt r 0 34 = true then litT r
  else if isAt r 0 46 = true ∧ endT (r.drop 1) = true then .got 6 [46] 1
  else if eqs r = true then .got 7 [61, 61] 2
  else if 0 < numN r sep then numT r (numN r sep)
  else if atB digB r 0 = true ∨ atB letB r 0 = true then wrdR (r.take (spn inwB r))
  else signT r
theorem take_all (p : UInt8 → Bool) (r : List UInt8) : (r.take (spn p r)).all p = true := by
  rw [List.all_eq_true]
  intro c hc
  obtain ⟨k, hk⟩ := List.getElem?_of_mem hc
  have hlt := lt_of_get hk
  rw [List.length_take] at hlt
  rw [List.getElem?_take_of_lt (by omega)] at hk
  exact spn_all p r k c (by omega) hk
theorem readT_R {e x sep : Bool} {r : List UInt8} (hr : r ≠ []) (hex : e = true → x = true) : readT e x sep r = tokR e x sep r := by
  have hwd : 0 < wrdN r ↔ (atB digB r 0 = true ∨ atB letB r 0 = true) := by
    cases r with
    | nil => exact absurd rfl hr
    | cons c r =>
      unfold wrdN
      simp only [List.getD_cons_zero, atB, List.getElem?_cons_zero]
      split
      · rename_i h45
        have h1 : digB c = false := by simp [digB, h45]
        have h2 : letB c = false := by simp [letB, capB, smallB, h45]
        simp [h1, h2]
      · rename_i h45
        rw [spn_pos (c := c) rfl]
        constructor
        · intro h
          rcases inw_split h with h | h | h
          · exact .inr h
          · exact .inl h
          · exact absurd h h45
        · rintro (h | h)
          · exact (letB_spc (.inr h)).1
          · exact (letB_spc (.inl h)).1
  have hww : 0 < wrdN r → wordT (r.take (wrdN r)) = wrdR (r.take (spn inwB r)) := by
    intro hp
    have h45 : (r.getD 0 0).toNat ≠ 45 := by
      intro h; unfold wrdN at hp; rw [if_pos h] at hp; omega
    have hw : wrdN r = spn inwB r := by unfold wrdN; rw [if_neg h45]
    rw [hw]
    rw [hw] at hp
    refine wordT_R (take_all _ _) ?_ ?_
    · intro h
      have := congrArg List.length h
      rw [List.length_take] at this
      have h1 := spn_le inwB r
      have e0 : ([] : List UInt8).length = 0 := rfl
      omega
    · cases r with
      | nil => exact absurd rfl hr
      | cons c r =>
        obtain ⟨m, hm⟩ : ∃ m, spn inwB (c :: r) = m + 1 := ⟨spn inwB (c :: r) - 1, by omega⟩
        rw [hm, List.take_succ_cons]
        simpa using h45
  unfold readT tokR
  rw [isIS_R]
  have hq : ((r.getD 0 0).toNat = 34) ↔ isAt r 0 34 = true := by rw [isAt_getD (by decide), decide_eq_true_iff]
  have hp : ((r.getD 0 0).toNat = 46) ↔ isAt r 0 46 = true := by rw [isAt_getD (by decide), decide_eq_true_iff]
  simp only [hq, hp]
  by_cases hi : e = true ∧ isR r = true
  · rw [if_pos hi, if_neg (by rintro ⟨_, _, h⟩; exact h ⟨hi.2, hi.1⟩)]
    have hR := hi.2
    have hI : isIS r = true := by rw [isIS_R]; exact hR
    unfold isR at hR
    rw [Bool.and_eq_true, decide_eq_true_iff, Bool.not_eq_true'] at hR
    match r, hr, hR with
    | [], h, _ => exact absurd rfl h
    | [a], _, h => simp [foldB] at h
    | a :: b :: r', _, ⟨h, h2⟩ =>
      simp [foldB] at h
      have ha : letB a = true := up_is (u := 73) (by rw [h.1]; rfl) (by omega) (by omega)
      have hb : letB b = true := up_is (u := 83) (by rw [h.2]; rfl) (by omega) (by omega)
      have hau : a.toNat = 73 ∨ a.toNat = 105 := by
        have := upB_toNat a
        rw [h.1] at this
        split at this
        · rename_i hs
          unfold smallB at hs; simp at hs
          have : (73 : UInt8).toNat = 73 := rfl
          omega
        · have : (73 : UInt8).toNat = 73 := rfl
          omega
      have hw : wrdN (a :: b :: r') = 2 := by
        unfold isIS at hI
        rw [decide_eq_true_iff] at hI
        have hl := congrArg List.length hI
        have hle := wrdN_le (a :: b :: r')
        simp only [foldB, List.length_map, List.length_take, List.length_cons, List.length_nil] at hl
        simp only [List.length_cons] at hle
        omega
      have n34 : isAt (a :: b :: r') 0 34 = false := by simp [isAt, atB]; omega
      have n46 : isAt (a :: b :: r') 0 46 = false := by simp [isAt, atB]; omega
      have nq : eqs (a :: b :: r') = false := by
        have : ¬ a = 61 := fun e => by rw [e] at hau; revert hau; decide
        have : ¬ (61 : UInt8) = a := fun e => this e.symm
        simp [eqs, List.isPrefixOf, this]
      have nn : numN (a :: b :: r') sep = 0 := by
        have hs0 : sgN (a :: b :: r') sep = 0 := by
          unfold sgN; rw [if_neg]; rintro ⟨_, h⟩; simp at h; omega
        have hd : digB a = false := by simp [digB]; omega
        rw [numN_eq, if_pos]
        unfold intN
        rw [hs0, hw]
        simp [spn, hd]
      rw [n34, n46, nq, nn, hw]
      rw [if_neg (by simp), if_neg (by simp), if_neg (by simp), if_neg (by simp), if_pos (by omega)]
      rw [wordT_R (t := List.take 2 (a :: b :: r')) (by simp [(letB_spc (.inl ha)).1, (letB_spc (.inl hb)).1]) (by simp) (by simpa using (letB_spc (.inl ha)).2)]
      have hbn := (letB_spc (.inl hb)).2
      have han := (letB_spc (.inl ha)).2
      simp [wrdR, nameR, ha, hbn, han, foldB, h.1, h.2]
  · rw [if_neg hi]
    by_cases hx : x = true ∧ eqs r = false
    · rw [if_pos ⟨hx.1, hx.2, fun h => hi ⟨h.2, h.1⟩⟩, if_pos hx]
    · rw [if_neg (fun h => hx ⟨h.1, h.2.1⟩), if_neg hx]
      repeat' split
      all_goals first
        | rfl
        | (exact hww (by assumption))
        | (exfalso; simp_all; done)
        | skip
end Go.Proofs.YtpalfhfbgfnacaaGreatDoor
