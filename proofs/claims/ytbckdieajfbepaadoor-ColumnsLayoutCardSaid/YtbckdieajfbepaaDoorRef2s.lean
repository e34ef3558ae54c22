/-
  The contract of the reference's function Squeeze (columnsevenref02).
-/
import Derived.Test.YtbckdieajfbepaaDoorRef2o
namespace Go.Proofs.YtbckdieajfbepaaDoor
open Go.RowKit
set_option linter.unusedVariables false
set_option linter.unusedSimpArgs false

/-- Is the byte at k a space behind a space, with an even number of quotes up to it? -/
def dropAt (l : List UInt8) (k : Nat) : Bool :=
  match l[k]? with
  | none => false
  | some c => decide (c.toNat = 32) && !openB (l.take (k + 1)) && decide (0 < k) && (match l[k - 1]? with | some p => decide (p.toNat = 32) | none => false)
/-- What Squeeze keeps of the first k bytes. -/
def sqzN (l : List UInt8) : Nat → List UInt8
  | 0 => []
  | k + 1 => if dropAt l k then sqzN l k else sqzN l k ++ (l.take (k + 1)).drop k
def sqzB (l : List UInt8) : List UInt8 := sqzN l l.length
theorem sqzN_le (l : List UInt8) : ∀ k, (sqzN l k).length ≤ k
  | 0 => Nat.le_refl _
  | k + 1 => by
    have := sqzN_le l k
    unfold sqzN
    split
    · omega
    · rw [List.length_append, List.length_drop, List.length_take]; omega
theorem dropAt_of (l : List UInt8) (k : Nat) (c : UInt8) (h : l[k]? = some c) : dropAt l k = (decide (c.toNat = 32) && !openB (l.take (k + 1)) && decide (0 < k) && (match l[k - 1]? with | some p => decide (p.toNat = 32) | none => false)) := by
  unfold dropAt; rw [h]
theorem openB_take (l : List UInt8) (k : Nat) (c : UInt8) (h : l[k]? = some c) : openB (l.take (k + 1)) = if c.toNat = 34 then !openB (l.take k) else openB (l.take k) := by
  unfold openB
  rw [qn_take l k c h]
  split
  · rw [Bool.eq_iff_iff]; simp; omega
  · rfl
theorem sqz_keep (l : List UInt8) (k : Nat) (s : ByteArray) (hs : s.data.toList = l) (t : ByteArray) (ht : t.data.toList = sqzN l k) (h : dropAt l k = false) : (t ++ s.extract k (k + 1)).data.toList = sqzN l (k + 1) := by
  rw [append_data, extract_data, hs, ht]
  show _ = if dropAt l k then _ else _
  rw [h]; rfl
theorem sqz_drop (l : List UInt8) (k : Nat) (t : ByteArray) (ht : t.data.toList = sqzN l k) (h : dropAt l k = true) : t.data.toList = sqzN l (k + 1) := by
  rw [ht]
  show _ = if dropAt l k then _ else _
  rw [h]; rfl

set_option maxHeartbeats 1000000 in
theorem r2squeeze (s : ByteArray) (hs : s.size ≤ 1048576) (w : World) :
    Calls Tryd.prog 16 #[.string s] w fun e w' => e = .returned (.string (strL (sqzB s.data.toList))) ∧ w = w' := by
  have HL := Lib.hid (size_data s)
  go_enter Tryd.func16, Tryd.ntmps16
  go_wp2
  go_loop [3, 4, 5] (fun o q i => ∃ (k : Nat) (t : ByteArray), k ≤ s.size ∧ t.size ≤ k ∧ i = .int .i64 k ∧ o = .string t ∧ q = .bool (openB (s.data.toList.take k)) ∧ Hid (t.data.toList = sqzN s.data.toList k)) (fun _ _ i => s.size - (intOf i).toNat)
  case atStart => exact ⟨0, ⟨#[]⟩, by omega, by decide, rfl, rfl, rfl, rfl⟩
  case round =>
    obtain ⟨k, t, hk, htk, rfl, rfl, rfl, HT⟩ := hrel
    by_cases hlt : k < s.size
    · have hget := get_data s k hlt
      have hd := dropAt_of s.data.toList k _ hget
      have ho := openB_take s.data.toList k _ hget
      have hts : (t ++ s.extract k (k + 1)).size ≤ k + 1 := by
        rw [ByteArray.size_append, ByteArray.size_extract]; omega
      have hkeep : dropAt s.data.toList k = false → Hid ((t ++ s.extract k (k + 1)).data.toList = sqzN s.data.toList (k + 1)) := fun h => sqz_keep _ k s rfl t HT.out h
      have hdrop : dropAt s.data.toList k = true → Hid (t.data.toList = sqzN s.data.toList (k + 1)) := fun h => sqz_drop _ k t HT.out h
      clear hget
      generalize dropAt s.data.toList k = D at *
      by_cases h34 : s[k].toNat = 34
      · have hq : ((s[k].toNat : Int) == 34) = true := by simp; omega
        have hq2 : ((s[k].toNat : Int) == 32) = false := by simp; omega
        rw [if_pos h34] at ho
        have HN := hkeep (by rw [hd]; simp [h34])
        have HQ := Lib.hid ho
        clear hd ho hkeep hdrop h34
        go_wp2
        go_round
        case rel => exact ⟨k + 1, _, by omega, hts, by go_num, rfl, by rw [HQ.out], HN⟩
        case measure => simp [intOf]; omega
      · have hq : ((s[k].toNat : Int) == 34) = false := by simp; omega
        rw [if_neg h34] at ho
        have HQ := Lib.hid ho
        rw [ho] at hd
        clear ho
        generalize openB (s.data.toList.take k) = q at *
        by_cases h32 : s[k].toNat = 32
        · have hq2 : ((s[k].toNat : Int) == 32) = true := by simp; omega
          cases q with
          | true =>
            have HN := hkeep (by rw [hd]; simp)
            clear hd hkeep hdrop h34 h32
            go_wp2
            go_round
            case rel => exact ⟨k + 1, _, by omega, hts, by go_num, rfl, by rw [HQ.out], HN⟩
            case measure => simp [intOf]; omega
          | false =>
            rcases Nat.eq_zero_or_pos k with h0 | h0
            · have HN := hkeep (by rw [hd]; simp [h0])
              clear hd hkeep hdrop h34 h32
              subst h0
              go_wp2
              go_round
              case rel => exact ⟨0 + 1, _, by omega, hts, by go_num, rfl, by rw [HQ.out], HN⟩
              case measure => simp [intOf]; omega
            · obtain ⟨m, rfl⟩ : ∃ m, k = m + 1 := ⟨k - 1, by omega⟩
              have hm : m < s.size := by omega
              have hgm := get_data s m hm
              rw [Nat.add_sub_cancel, hgm] at hd
              by_cases hp : s[m].toNat = 32
              · have hq3 : ((s[m].toNat : Int) == 32) = true := by simp; omega
                have HN := hdrop (by rw [hd]; simp [h32, hp])
                clear hd hkeep hdrop h34 h32 hp hgm
                go_wp2
                go_round
                case rel => exact ⟨m + 1 + 1, _, by omega, by omega, by go_num, rfl, by rw [HQ.out], HN⟩
                case measure => simp [intOf]; omega
              · have hq3 : ((s[m].toNat : Int) == 32) = false := by simp; omega
                have HN := hkeep (by rw [hd]; simp [hp])
                clear hd hkeep hdrop h34 h32 hp hgm
                go_wp2
                go_round
                case rel => exact ⟨m + 1 + 1, _, by omega, hts, by go_num, rfl, by rw [HQ.out], HN⟩
                case measure => simp [intOf]; omega
        · have hq2 : ((s[k].toNat : Int) == 32) = false := by simp; omega
          have HN := hkeep (by rw [hd]; simp [h32])
          clear hd hkeep hdrop h34 h32
          go_wp2
          go_round
          case rel => exact ⟨k + 1, _, by omega, hts, by go_num, rfl, by rw [HQ.out], HN⟩
          case measure => simp [intOf]; omega
    · have hke : Hid (k = s.data.toList.length) := by show _ = _; rw [← HL.out]; omega
      go_wp2
      go_ret
      exact ⟨retS (str_ext (by rw [HT.out, hke.out, strL_data]; rfl)), rfl⟩
end Go.Proofs.YtbckdieajfbepaaDoor
