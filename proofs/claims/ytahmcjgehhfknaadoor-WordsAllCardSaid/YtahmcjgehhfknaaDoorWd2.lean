/-
  The closure that puts a word with a beginning into the map (words.classes), and the iterator of strings.FieldsSeq on texts of ASCII bytes.
-/
import Derived.Test.YtahmcjgehhfknaaDoorWd1
import Derived.Test.YtahmcjgehhfknaaDoorShelf
import Derived.RangeFuncNested
import Derived.RangeFuncBound
import Derived.RangeFuncCalls
import Derived.RangeFuncLeaves
import Derived.Shelf.Abstract
import Derived.Shelf.RegionOpen
import Derived.WalkKit
import Derived.OwnWalkIn
import Derived.TacticsInMore
import Derived.LoopNIn
import Derived.LoopIn
import Derived.Maps.OwnIn
import Derived.Lib.Fields
import Derived.Lib.LaidTab
namespace Go.Proofs.YtahmcjgehhfknaaDoor
open Go.RowKit Go.Shelf
open Go.Maps (Keyed)
set_option linter.unusedVariables false
set_option linter.unusedSimpArgs false

attribute [local go_sem] Oper.semAt_some
def putM (beg : List UInt8) (c : Int) (m : Upd) (x : List UInt8) : Upd := if Lib.hasPrefix x beg = true then upd m x c else m
set_option maxRecDepth 100000 in
set_option maxHeartbeats 2000000 in
/-- put(word, c). -/
theorem c_put (x beg : ByteArray) (c : Int) (hc : (Lit.int .u8 c).wf = true) (B M b n : Nat) (m : Upd) (hn : n < maxLen) (hx : x.size ≤ maxLen) (w : World) (hB : w.cell? ⟨B, 0, none⟩ = some (.string beg)) (hM : w.cell? ⟨M, 0, none⟩ = some (.map (some b)))
    (h : SM w 26 .u8 b n m) :
    Calls Tryd.prog 39 #[.string x, .int .u8 c, .pointer (some ⟨B, 0, none⟩), .pointer (some ⟨M, 0, none⟩)] w fun e w' =>
      (∃ v, e = .returned v) ∧ SM w' 26 .u8 b (n + 1) (putM beg.data.toList c m x.data.toList) ∧ w.grownBy w' (some b) := by
  obtain ⟨D, hown, hkv⟩ := h
  by_cases hp : Lib.hasPrefix x.data.toList beg.data.toList = true
  · have hm : putM beg.data.toList c m x.data.toList = upd m x.data.toList c := by unfold putM; rw [if_pos hp]
    rw [hm]; clear hm
    have HP := Lib.hid hp
    go_enter Tryd.func39, Tryd.ntmps39
    go_wp2_with (first
      | (go_at_call 29; refine (Tryd.strings_HasPrefix x beg _).mono ?_; rintro e w' ⟨rfl, rfl⟩)
      | (at_mapUpdate; refine wpList_mapUpdate_own _ rfl _ _ _ 62 rfl 9 26 keyedS Tryd.underlying62 _ b n D rfl hown hn _ _ _ rfl rfl (keyS x hx) _ [] (plainElem_int Tryd.underlying26 hc) ?_; intro w1 hown1 hgrow1))
    go_end0
    exact ⟨⟨_, rfl⟩, ⟨_, hown1, hkv.put _ _⟩, hgrow1⟩
  · have hm : putM beg.data.toList c m x.data.toList = m := by unfold putM; rw [if_neg hp]
    rw [hm]; clear hm
    have hp' : Lib.hasPrefix x.data.toList beg.data.toList = false := by simpa using hp
    clear hp
    go_enter Tryd.func39, Tryd.ntmps39
    go_wp2_with (go_at_call 29; refine (Tryd.strings_HasPrefix x beg _).mono ?_; rintro e w' ⟨rfl, rfl⟩)
    go_end0
    exact ⟨⟨_, rfl⟩, ⟨_, hown.mono (by omega), hkv⟩, ⟨rfl, rfl, rfl, Nat.le_refl _, fun _ _ _ => rfl⟩⟩

/-! ### The iterator of strings.FieldsSeq -/
abbrev Wrd := { x : ByteArray // x.size ≤ maxLen }
def Wrd.l (x : Wrd) : List UInt8 := x.1.data.toList
def KeepsCells (W W' : World) : Prop := ∀ (i : Nat) (o : Obj), W.heap[i]? = some o → o.isCells = true → W'.heap[i]? = some o
theorem KeepsCells.refl (W : World) : KeepsCells W W := fun _ _ h _ => h
theorem KeepsCells.trans {A B C : World} (h : KeepsCells A B) (k : KeepsCells B C) : KeepsCells A C := fun i o hi ho => k i o (h i o hi ho) ho
theorem KeepsCells.cell {W W' : World} (h : KeepsCells W W') {a : Addr} {v : Value} (hc : W.cell? a = some v) : W'.cell? a = some v := by
  obtain ⟨o, ho, hb⟩ := cells_of_cell hc
  exact (World.cell?_of_block ((h _ o ho hb).trans ho.symm)).trans hc
theorem keepsCells_b (W : World) (l : Nat) (o o' : Obj) (h : W.heap[l]? = some o) (ho : o.isCells = false) : KeepsCells W (W.putObj l o') := fun i p hi hp => by
  by_cases e : i = l
  · subst e; rw [hi] at h; injection h with h; subst h; rw [hp] at ho; cases ho
  · rw [World.putObj_heap_other e]; exact hi
theorem keepsCells_grown {W W' : World} {b : Nat} {o : Obj} (hg : W.grownBy W' (some b)) (hb : W.heap[b]? = some o) (ho : o.isCells = false) : KeepsCells W W' := fun i p hi hp => by
  refine (hg.block i (Array.getElem?_eq_some_iff.1 hi).1 (fun e => ?_)).trans hi
  injection e with e
  subst e; rw [hi] at hb; injection hb with hb; subst hb; rw [hp] at ho; cases ho
def iOf : Value → Int | .int _ q => q | _ => 0
/-- The table strings.asciiSpace lies in the world. -/
def SpTab (w : World) : Prop := ∀ c : Nat, c < 256 → w.cell? ⟨0, c, none⟩ = some (.int .u8 (if Lib.isSp (UInt8.ofNat c) then 1 else 0))

theorem seq_one {s : ByteArray} {k : Nat} {x : UInt8} (h : s.data.toList[k]? = some x) : (s.extract k (k + 1)).data.toList = [x] := by
  rw [Lib.extract_data, Lib.drop_at h]
  simp
theorem seq_more {s : ByteArray} {st k : Nat} {x : UInt8} (hk : st < k) (h : s.data.toList[k]? = some x) : (s.extract st k).data.toList ++ [x] = (s.extract st (k + 1)).data.toList := by
  rw [Lib.extract_data, Lib.extract_data, show k + 1 - st = (k - st) + 1 from by omega, List.take_add_one, List.getElem?_drop, show st + (k - st) = k from by omega, h]
  rfl
theorem seq_size {s : ByteArray} {st k : Nat} (hk : k ≤ s.size) (hs : s.size ≤ 100000) : (s.extract st k).size ≤ maxLen := by
  rw [ByteArray.size_extract]; unfold maxLen; omega
theorem seq_ne {s : ByteArray} {st k : Nat} (hk : st < k) (hs : k ≤ s.size) : (s.extract st k).data.toList ≠ [] := by
  intro h
  have := congrArg List.length h
  rw [← Lib.size_eq, ByteArray.size_extract] at this
  simp at this
  omega
set_option maxRecDepth 100000 in
set_option maxHeartbeats 4000000 in
theorem seq1_in (F : Fence) (n : Nat) (hf : F.fn 61) (hro : F.round = none) (hn : 1 ≤ n) (l Bn : Nat) (s : ByteArray) (hs : s.size ≤ 100000) (ha : ∀ (j : Nat) b, s.data.toList[j]? = some b → b.toNat < 128) (J Jx : List Wrd → World → Prop)
    (hY : ∀ pre x W, J pre W → pre.length < (Lib.fields s.data.toList).length → YieldAt F (n - 1) Tryd.prog l #[.string x.1] W fun e W' =>
      (e = .returned (.bool true) ∧ J (pre ++ [x]) W' ∧ KeepsCells W W') ∨ (e = .returned (.bool false) ∧ Jx (pre ++ [x]) W'))
    (W : World) (hBn : W.cell? ⟨Bn, 0, none⟩ = some (.string s)) (hT : SpTab W) (h0 : J [] W) :
    CallsIn F n Tryd.prog 61 #[.func (.yield l) #[] #[], .pointer (some ⟨Bn, 0, none⟩)] W fun e W' => (∃ v, e = .returned v) ∧
      ((∃ ys : List Wrd, ys.map Wrd.l = Lib.fields s.data.toList ∧ J ys W') ∨ (∃ pre, True ∧ Jx pre W')) := by
  have HA := Lib.hid ha
  clear ha
  have HTB := Lib.hid hT
  clear hT
  refine callsIn_of_wp Tryd.func61 rfl hf ?_ hro
  simp only [Tryd.ntmps61, List.size_toArray, List.length_cons, List.length_nil, Nat.reduceAdd, Nat.reduceSub, Array.replicate_succ, Array.replicate_zero, List.push_toArray, List.append_toArray, List.nil_append, List.cons_append]
  gi_wp2
  gi_loopw [3, 4] (fun s3 s4 wr => ∃ (pre : List Wrd) (k : Nat) (cur : List UInt8), s4 = .int .i64 k ∧ k ≤ s.size ∧ (pre.map Wrd.l) ++ Lib.fieldsGo cur (s.data.toList.drop k) = Lib.fields s.data.toList ∧
      ((cur = [] ∧ s3 = .int .i64 (-1)) ∨ (∃ st : Nat, st < k ∧ s3 = .int .i64 st ∧ cur = (s.extract st k).data.toList)) ∧ J pre wr ∧ KeepsCells W wr)
    (fun s3 s4 _ => s.size - (iOf s4).toNat)
  case atStart => exact ⟨[], 0, [], rfl, Nat.zero_le _, rfl, .inl ⟨rfl, rfl⟩, h0, KeepsCells.refl _⟩
  case round =>
    obtain ⟨pre, k, cur, rfl, hk, hcut, hst, hJ, hkc⟩ := hrel
    have hc1 := hkc.cell hBn
    by_cases hkn : k < s.size
    · have hkz : (k : Int) < (s.size : Int) := by omega
      obtain ⟨x, hx⟩ : ∃ x : UInt8, s[k] = x := ⟨_, rfl⟩
      have hxl : s.data.toList[k]? = some x := by rw [← hx]; exact Lib.data_getElem? s k hkn
      have hx128 : x.toNat < 128 := HA.out k x hxl
      have hxz : (x.toNat : Int) < 256 := by omega
      have hx128z : (x.toNat : Int) < 128 := by omega
      have hTx : wr.cell? ⟨0, x.toNat, none⟩ = some (.int .u8 (if Lib.isSp x then 1 else 0)) := by
        have := hkc.cell (HTB.out x.toNat (by omega)); simpa using this
      rw [Lib.drop_at hxl] at hcut
      have HX := Lib.hid hxl
      clear hxl
      cases hsx : Lib.isSp x
      · rw [hsx] at hTx
        simp only [Bool.false_eq_true, if_false] at hTx
        rw [Lib.fieldsGo_more _ _ _ hsx] at hcut
        have HC := Lib.hid hcut
        clear hcut
        rcases hst with ⟨rfl, rfl⟩ | ⟨st, hsk, rfl, rfl⟩
        · gi_wp2
          go_roundw
          case rel => exact ⟨pre, k + 1, [x], rfl, by omega, HC.out, .inr ⟨k, by omega, rfl, (seq_one HX.out).symm⟩, hJ, hkc⟩
          case measure => simp [iOf]; omega
        · have hsz : ¬ ((st : Int) < 0) := by omega
          gi_wp2
          go_roundw
          case rel => exact ⟨pre, k + 1, _, rfl, by omega, HC.out, .inr ⟨st, by omega, rfl, (seq_more hsk HX.out)⟩, hJ, hkc⟩
          case measure => simp [iOf]; omega
      · rw [hsx] at hTx
        simp only [if_true] at hTx
        rcases hst with ⟨rfl, rfl⟩ | ⟨st, hsk, rfl, rfl⟩
        · rw [Lib.fieldsGo_sp _ _ hsx] at hcut
          have HC := Lib.hid hcut
          clear hcut
          gi_wp2
          go_roundw
          case rel => exact ⟨pre, k + 1, [], rfl, by omega, HC.out, .inl ⟨rfl, rfl⟩, hJ, hkc⟩
          case measure => simp [iOf]; omega
        · rw [Lib.fieldsGo_end _ _ _ hsx (seq_ne hsk hk)] at hcut
          have hsz : (0 : Int) ≤ (st : Int) := by omega
          have hsk2 : (st : Int) ≤ (k : Int) := by omega
          have hpl : pre.length < (Lib.fields s.data.toList).length := by rw [← hcut]; simp
          have HC := Lib.hid hcut
          clear hcut
          obtain ⟨fn, tmps, assign, body, hy, hR⟩ := hY pre ⟨s.extract st k, seq_size hk hs⟩ wr hJ hpl
          dsimp only at hy
          gi_wp2
          refine hR.mono ?_
          rintro e W3 (⟨rfl, hJ3, hk3⟩ | ⟨rfl, hJx3⟩)
          · gi_wp2
            go_roundw
            case rel => exact ⟨_, k + 1, [], rfl, by omega, by have h := HC.out; rw [List.map_append, List.append_assoc]; exact h, .inl ⟨rfl, rfl⟩, hJ3, hkc.trans hk3⟩
            case measure => simp [iOf]; omega
          · gi_wp2
            refine bodyPost_ret (results_none rfl _ _ _) rfl ?_
            exact ⟨⟨_, rfl⟩, .inr ⟨_, trivial, hJx3⟩⟩
    · obtain rfl : k = s.size := by omega
      have hnil : s.data.toList.drop s.size = [] := List.drop_eq_nil_of_le (by rw [← Lib.size_eq]; exact Nat.le_refl _)
      rw [hnil] at hcut
      have hkz : ¬ ((s.size : Int) < (s.size : Int)) := by omega
      clear hkn
      rcases hst with ⟨rfl, rfl⟩ | ⟨st, hsk, rfl, rfl⟩
      · have HC := Lib.hid hcut
        clear hcut
        gi_wp2
        go_end0
        exact ⟨⟨_, rfl⟩, .inl ⟨pre, by have h := HC.out; simpa [Lib.fieldsGo] using h, hJ⟩⟩
      · have hne := seq_ne hsk (Nat.le_refl _)
        have hfg : Lib.fieldsGo (s.extract st s.size).data.toList [] = [(s.extract st s.size).data.toList] := by
          unfold Lib.fieldsGo
          rw [if_neg (by simpa using hne)]
        rw [hfg] at hcut
        have hpl : pre.length < (Lib.fields s.data.toList).length := by rw [← hcut]; simp
        have hsz : (0 : Int) ≤ (st : Int) := by omega
        have hsk2 : (st : Int) ≤ (s.size : Int) := by omega
        have HC := Lib.hid hcut
        clear hcut hfg hne
        obtain ⟨fn, tmps, assign, body, hy, hR⟩ := hY pre ⟨s.extract st s.size, seq_size (Nat.le_refl _) hs⟩ wr hJ hpl
        dsimp only at hy
        gi_wp2
        refine hR.mono ?_
        rintro e W3 (⟨rfl, hJ3, hk3⟩ | ⟨rfl, hJx3⟩)
        · gi_wp2
          go_end0
          exact ⟨⟨_, rfl⟩, .inl ⟨_, by have h := HC.out; rw [List.map_append]; exact h, hJ3⟩⟩
        · gi_wp2
          go_end0
          exact ⟨⟨_, rfl⟩, .inr ⟨_, trivial, hJx3⟩⟩

set_option maxHeartbeats 1000000 in
/-- strings.FieldsSeq: the text is boxed, the function value captures the box. -/
theorem seq_in (F : Fence) (n : Nat) (hf : F.fn 40) (hro : F.round = none) (s : ByteArray) (w : World) :
    CallsIn F n Tryd.prog 40 #[.string s] w fun e w' => e = .returned (.func (.func 61) #[] #[.pointer (some ⟨w.heap.size, 0, none⟩)]) ∧ w' = w.alloc (.cells #[.string s] 9) := by
  refine callsIn_of_wp Tryd.func40 rfl hf ?_ hro
  simp only [Tryd.ntmps40, List.size_toArray, List.length_cons, List.length_nil, Nat.reduceAdd, Nat.reduceSub, Array.replicate_succ, Array.replicate_zero, List.push_toArray, List.append_toArray, List.nil_append, List.cons_append]
  gi_wp2
  go_ret
  exact ⟨rfl, rfl⟩

/-- What strings.FieldsSeq hands back yields the fields, in order. -/
theorem seq_stops (F : Fence) (n : Nat) (hf : F.fn 61) (hro : F.round = none) (hn : 1 ≤ n) (Bn : Nat) (s : ByteArray) (hs : s.size ≤ 100000) (ha : ∀ (j : Nat) b, s.data.toList[j]? = some b → b.toNat < 128) (w : World)
    (hc : w.cell? ⟨Bn, 0, none⟩ = some (.string s)) (hT : SpTab w) :
    SeqStopsK F n Tryd.prog 61 #[.pointer (some ⟨Bn, 0, none⟩)] (fun x : Wrd => #[Value.string x.1]) KeepsCells (fun ys => ys.map Wrd.l = Lib.fields s.data.toList) (fun _ => True) (Lib.fields s.data.toList).length w := fun l J Jx W hW _ _ hY h0 =>
  have hb : ∀ {p : Addr} {v : Value}, w.cell? p = some v → W.cell? p = some v := fun {p v} h => (hW.cell (World.block_lt_of_cell? _ _ h)).trans h
  seq1_in F n hf hro hn l Bn s hs ha J Jx hY W (hb hc) (fun c h => hb (hT c h)) h0
end Go.Proofs.YtahmcjgehhfknaaDoor
