/-
  The reference's token (columnsevenref03), the rests of its body: the signs.
-/
import Derived.Test.YtpalfhfbgfnacaaGreatDoorRf5
import Derived.Test.YtpalfhfbgfnacaaGreatDoorRf6
namespace Go.Proofs.YtpalfhfbgfnacaaGreatDoor
open Go.RowKit
set_option linter.unusedVariables false
set_option linter.unusedSimpArgs false

def tkV (i : Nat) : RdT → Value
  | .bad e => .tuple #[.agg #[.int .u8 0, .string ⟨#[]⟩, .int .i64 0, .int .i64 0, .bool false], .int .i64 0, .int .i64 e]
  | .got k x n => .tuple #[.agg #[.int .u8 k, .string (strL x), .int .i64 0, .int .i64 0, .bool false], .int .i64 ((i + n : Nat) : Int), .int .i64 0]
theorem tk_bad {i : Nat} {R : RdT} {e : Nat} (h : R = .bad e) : Ending.returned (.tuple #[.agg #[.int .u8 0, .string ⟨#[]⟩, .int .i64 0, .int .i64 0, .bool false], .int .i64 0, .int .i64 e]) = .returned (tkV i R) := by rw [h]; rfl
theorem tk_got {i : Nat} {R : RdT} {k n : Nat} {x : List UInt8} {X : ByteArray} {m : Int} (h : R = .got k x n) (hx : X.data.toList = x) (hm : m = ((i + n : Nat) : Int)) : Ending.returned (.tuple #[.agg #[.int .u8 k, .string X, .int .i64 0, .int .i64 0, .bool false], .int .i64 m, .int .i64 0]) = .returned (tkV i R) := by
  rw [h, hm, ← hx]
  rfl
/-- The result's block, and what lies below. -/
def TW (N : Nat) (w wx : World) : Prop := TokBlk wx N ∧ Below N w wx
theorem TW.below {N : Nat} {w wx wy : World} (h : TW N w wx) (hb : Below wx.heap.size wx wy) : TW N w wy := ⟨h.1.kept hb, h.2.trans (hb.mono (Nat.le_of_lt (lt_of_block h.1)))⟩
theorem plp2 {p : UInt8 → Bool} {l : List UInt8} {k : Nat} {b : Bool} (hk : k + 2 ≤ 140737488355328) (h : atB p l (k + 2) = b) : PlP p l ((k : Int) + 2) b := ⟨k + 2, rfl, hk, h⟩
theorem ext2 (s : ByteArray) (i : Nat) (h : i + 2 ≤ s.size) : (s.extract i (i + 2)).data.toList = (s.data.toList.drop i).take 2 ∧ (s.extract i (i + 2)).size = 2 := by
  have h1 : (s.extract i (i + 2)).data.toList = (s.data.toList.drop i).take 2 := by
    rw [extract_data, List.drop_take]; congr 1; omega
  exact ⟨h1, by rw [ByteArray.size_extract]; omega⟩
theorem ext_n (s : ByteArray) (i k : Nat) (h : i ≤ k) : (s.extract i k).data.toList = (s.data.toList.drop i).take (k - i) := by
  rw [extract_data, List.drop_take]
theorem take2_one {r : List UInt8} (h : r.length ≤ 1) (a b : UInt8) : (r.take 2 == [a, b]) = false := by
  rw [beq_eq_false_iff_ne]
  intro e
  have := congrArg List.length e
  rw [List.length_take] at this
  simp at this
  omega
theorem dec_beq (a b : List UInt8) : decide (a = b) = (a == b) := by rw [Bool.eq_iff_iff]; simp
theorem isAt_head (s : ByteArray) (i c : Nat) (hi : i < s.size) : isAt (s.data.toList.drop i) 0 c = decide (s[i].toNat = c) := by
  unfold isAt
  rw [atB_drop, Nat.add_zero, atB_some (get_data s i hi)]
theorem lit_quote (i : Nat) (l : List UInt8) : (quoteR i l = ([], 0) ∧ litT (l.drop i) = .bad 4) ∨ ∃ t n, quoteR i l = (t, i + 1 + n) ∧ litT (l.drop i) = .got 3 t (n + 1) := by
  unfold quoteR litT
  rw [List.drop_drop]
  cases litE (l.drop (i + 1)) with
  | none => exact .inl ⟨rfl, rfl⟩
  | some x =>
    obtain ⟨t, n⟩ := x
    dsimp only
    by_cases h : t = []
    · left; rw [if_pos h, if_pos h]; exact ⟨rfl, rfl⟩
    · right; rw [if_neg h, if_neg h]; exact ⟨t, n, rfl, rfl⟩
theorem ptB_in (c : UInt8) : inB c [46, 44, 59] = ptB c := by
  unfold inB ptB
  have h : ∀ a : UInt8, decide (a.toNat = c.toNat) = decide (c.toNat = a.toNat) := fun a => by rw [Bool.eq_iff_iff]; simp; exact eq_comm
  simp only [List.any_cons, List.any_nil, h, Bool.or_false, Bool.or_assoc]
  rfl
/-- The byte x stands in y or not. -/
def InP (x : Int) (y : ByteArray) (b : Bool) : Prop := ∃ c : UInt8, x = c.toNat ∧ y.size ≤ 140737488355328 ∧ inB c y.data.toList = b
theorem r3inv (x : Int) (y : ByteArray) (b : Bool) (h : InP x y b) (w : World) : Calls Tryz.prog 30 #[.int .u8 x, .string y] w fun e w' => e = .returned (.bool b) ∧ w = w' := by
  obtain ⟨c, rfl, hy, rfl⟩ := h
  exact r3in c y hy w
theorem spn_top (p : UInt8 → Bool) (l : List UInt8) (i : Nat) : atB p l (i + spn p (l.drop i)) = false := spn_end p l i
theorem r3bl (s : ByteArray) (hs : s.size ≤ 134217728) (x : Int) (b : Bool) (h : ∃ k : Nat, x = k ∧ k ≤ 140737488355328 ∧ endT (s.data.toList.drop k) = b) (w : World) : Calls Tryz.prog 31 #[.string s, .int .i64 x] w fun e w' => e = .returned (.bool b) ∧ w = w' := by
  obtain ⟨k, rfl, hk, rfl⟩ := h
  exact r3blank s k hs hk w
theorem r3lt (s : ByteArray) (hs : s.size ≤ 134217728) (x : Int) (b : Bool) (h : PlP letB s.data.toList x b) (w : World) : Calls Tryz.prog 61 #[.string s, .int .i64 x] w fun e w' => e = .returned (.bool b) ∧ w = w' := by
  obtain ⟨k, rfl, hk, rfl⟩ := h
  exact r3letter s k hs hk w
theorem eq_tl (y : ByteArray) (z : List UInt8) (u : List UInt8) (h : y.data.toList = u) : (y.toList == z) = (u == z) := by rw [ByteArray.toList_eq, h]
/-- The second part of a sequence. -/
def sel2 : Code → Code
  | .seq _ c => c
  | c => c
/-- The rest of the body behind its first twelve parts. -/
def TkRest12 (Q : Exit → Act → World → Prop) (a : Act) (w : World) : Prop :=
  Code.wp Tryz.prog (sel2 (sel2 (sel2 (sel2 (sel2 (sel2 (sel2 (sel2 (sel2 (sel2 (sel2 (sel2 ((Tryz.f32).body.getD .skip))))))))))))) Q a w
def TkPost (i N : Nat) (w0 : World) (R : RdT) (e : Ending) (w' : World) : Prop := e = .returned (tkV i R) ∧ Below N w0 w'
theorem twoS_cases (r : List UInt8) (b1 b2 b3 b4 : Bool) (h1 : (r.take 2 == [42, 42]) = b1) (h2 : (r.take 2 == [60, 61]) = b2) (h3 : (r.take 2 == [62, 61]) = b3) (h4 : (r.take 2 == [60, 62]) = b4) : twoS r = (b1 || (b2 || (b3 || b4))) := by unfold twoS; rw [h1, h2, h3, h4]
set_option maxHeartbeats 4000000 in
set_option maxRecDepth 1000000 in
theorem tok_sign (s : ByteArray) (i N : Nat) (v : Value) (w0 wx : World) (R : RdT) (hs : s.size ≤ 134217728) (hi : i < s.size) (hR : R = signT (s.data.toList.drop i)) (hT : TW N w0 wx)
    (u3 u4 u5 u9 u10 u11 u12 u13 u14 u15 u16 u17 u18 u19 u20 u21 u22 u23 u24 u25 u26 u27 u28 u29 u30 u31 u32 u33 u34 u35 u36 u37 u38 u39 u40 u41 u42 u43 u44 u45 u46 u47 u48 u49 u50 u51 u52 u53 u54 u55 u56 u57 u58 u59 u60 u61 u62 u63 u64 u65 u66 u67 u68 u69 u70 u71 u72 u73 u74 u75 u76 u77 u78 u79 u80 u81 u82 u83 u84 u85 u86 u87 u88 u89 u90 u91 u92 u93 u94 u95 u96 u97 u98 u99 u100 u101 u102 u103 u104 u105 u106 u107 u108 u109 u110 u111 u112 u113 u114 u115 u116 u117 u118 u119 u120 u121 u122 u123 u124 u125 u126 u127 u128 u129 u130 u131 u132 u133 u134 u135 u136 u137 u138 u139 u140 u141 u142 u143 u144 u145 u146 u147 u148 u149 u150 u151 u152 u153 u154 u155 u156 u157 u158 u159 u160 u161 u162 u163 u164 u165 u166 u167 u168 u169 u170 u171 u172 u173 u174 u175 u176 u177 u178 u179 u180 u181 u182 u183 u184 u185 u186 u187 u188 u189 u190 u191 u192 u193 u194 u195 u196 u197 u198 u199 u200 u201 u202 u203 u204 u205 u206 u207 u208 u209 u210 u211 u212 u213 u214 u215 u216 u217 u218 u219 u220 u221 u222 u223 u224 u225 u226 u227 u228 u229 u230 u231 u232 u233 u234 u235 u236 u237 u238 u239 u240 u241 u242 u243 u244 u245 u246 u247 u248 u249 u250 u251 u252 u253 u254 u255 u256 u257 u258 u259 u260 u261 u262 u263 : Value) : TkRest12 (bodyPost Tryz.prog Tryz.f32 (TkPost i N w0 R)) ⟨#[.string s, .int .i64 i, v, u3, u4, u5, .pointer (some ⟨N, 0, none⟩), .int .i64 0, .int .i64 0, u9, u10, u11, u12, u13, u14, u15, u16, u17, u18, u19, u20, u21, u22, u23, u24, u25, u26, u27, u28, u29, u30, u31, u32, u33, u34, u35, u36, u37, u38, u39, u40, u41, u42, u43, u44, u45, u46, u47, u48, u49, u50, u51, u52, u53, u54, u55, u56, u57, u58, u59, u60, u61, u62, u63, u64, u65, u66, u67, u68, u69, u70, u71, u72, u73, u74, u75, u76, u77, u78, u79, u80, u81, u82, u83, u84, u85, u86, u87, u88, u89, u90, u91, u92, u93, u94, u95, u96, u97, u98, u99, u100, u101, u102, u103, u104, u105, u106, u107, u108, u109, u110, u111, u112, u113, u114, u115, u116, u117, u118, u119, u120, u121, u122, u123, u124, u125, u126, u127, u128, u129, u130, u131, u132, u133, u134, u135, u136, u137, u138, u139, u140, u141, u142, u143, u144, u145, u146, u147, u148, u149, u150, u151, u152, u153, u154, u155, u156, u157, u158, u159, u160, u161, u162, u163, u164, u165, u166, u167, u168, u169, u170, u171, u172, u173, u174, u175, u176, u177, u178, u179, u180, u181, u182, u183, u184, u185, u186, u187, u188, u189, u190, u191, u192, u193, u194, u195, u196, u197, u198, u199, u200, u201, u202, u203, u204, u205, u206, u207, u208, u209, u210, u211, u212, u213, u214, u215, u216, u217, u218, u219, u220, u221, u222, u223, u224, u225, u226, u227, u228, u229, u230, u231, u232, u233, u234, u235, u236, u237, u238, u239, u240, u241, u242, u243, u244, u245, u246, u247, u248, u249, u250, u251, u252, u253, u254, u255, u256, u257, u258, u259, u260, u261, u262, u263], []⟩ wx := by
  have HT := Lib.hid hT
  have HR0 := Lib.hid hR
  have hlen : (s.data.toList.drop i).length = s.size - i := by rw [List.length_drop, ← size_data]
  have HLN := Lib.hid hlen
  have u0 := u8lt s[i]
  have hd : s.data.toList.drop i = s[i] :: s.data.toList.drop (i + 1) := drop_get (get_data s i hi)
  have HD := Lib.hid hd
  clear hT hR hlen hd
  unfold TkRest12
  conv => arg 2; whnf
  dsimp only
  obtain ⟨tw, htw⟩ : ∃ tw, twoS (s.data.toList.drop i) = tw := ⟨_, rfl⟩
  have HTW := Lib.hid htw
  go_upto_region 38 with fail
  go_cut [242] (fun b wy => b = .bool tw ∧ wx = wy)
  case first =>
    by_cases h2 : i + 2 ≤ s.size
    · have e2 := (ext2 s i h2).1
      have h4 : (i : Int) + 1 < s.size := by omega
      obtain ⟨b1, h1⟩ : ∃ b, ((s.extract i (i + 2)).toList == [42, 42]) = b := ⟨_, rfl⟩
      obtain ⟨b2, h2'⟩ : ∃ b, ((s.extract i (i + 2)).toList == [60, 61]) = b := ⟨_, rfl⟩
      obtain ⟨b3, h3⟩ : ∃ b, ((s.extract i (i + 2)).toList == [62, 61]) = b := ⟨_, rfl⟩
      obtain ⟨b4, h4'⟩ : ∃ b, ((s.extract i (i + 2)).toList == [60, 62]) = b := ⟨_, rfl⟩
      have HF : Hid (tw = (b1 || (b2 || (b3 || b4)))) := by
        show _ = _
        rw [← htw]
        exact twoS_cases _ b1 b2 b3 b4 (by rw [← h1, eq_tl _ _ _ e2]) (by rw [← h2', eq_tl _ _ _ e2]) (by rw [← h3, eq_tl _ _ _ e2]) (by rw [← h4', eq_tl _ _ _ e2])
      clear htw e2
      cases b1 <;> cases b2 <;> cases b3 <;> cases b4
      all_goals
        go_wp2
        go_meet
        exact ⟨by rw [HF.out]; rfl, rfl⟩
    · have h4 : ¬ (i : Int) + 1 < s.size := by omega
      have hf : tw = false := by
        rw [← htw]
        unfold twoS
        have hl : (s.data.toList.drop i).length ≤ 1 := by have := HLN.out; omega
        rw [take2_one hl, take2_one hl, take2_one hl, take2_one hl]
        rfl
      clear htw
      subst hf
      go_wp2
      go_meet
      exact ⟨rfl, rfl⟩
  case rest =>
    obtain ⟨rfl, rfl⟩ := hcut
    cases tw
    · obtain ⟨b1, hb1⟩ : ∃ b, inB s[i] oneL = b := ⟨_, rfl⟩
      have HR1 : Hid (R = if b1 = true then .got 5 [s[i]] 1 else .bad 4) := by
        show _ = _
        rw [HR0.out, ← hb1, HD.out]
        exact sign_one (by rw [← HD.out]; exact htw)
      have HI : Hid (Calls Tryz.prog 30 #[.int .u8 s[i].toNat, .string ⟨#[40, 41, 58, 43, 45, 42, 47, 61, 60, 62]⟩] wx fun e w' => e = .returned (.bool b1) ∧ wx = w') := by
        have := r3in s[i] ⟨#[40, 41, 58, 43, 45, 42, 47, 61, 60, 62]⟩ (by show 10 ≤ _; omega) wx
        rw [show (⟨#[40, 41, 58, 43, 45, 42, 47, 61, 60, 62]⟩ : ByteArray).data.toList = oneL from rfl, hb1] at this
        exact this
      clear hb1 htw
      cases b1
      · have HR : Hid (R = .bad 4) := HR1.out
        obtain ⟨c0, c1, c2, c3, c4⟩ := HT.out.1.cells
        obtain ⟨f0, f1, f2, f3, f4⟩ := HT.out.1.free
        go_wp2_with (go_at_call 30; refine HI.out.mono ?_; rintro e w' ⟨rfl, rfl⟩)
        obtain ⟨w5, hw5, hb5, d0, d1, d2, d3, d4⟩ := HT.out.1.named HT.out.2 (Nat.le_refl _) (.int .u8 0) (.string ⟨#[]⟩) (.int .i64 0) (.int .i64 0) (.bool false)
        rw [← hw5]
        clear hw5 c0 c1 c2 c3 c4 f0 f1 f2 f3 f4
        refine bodyPost_ret (by simp [results, Tryz.results32, go_sem, d0, d1, d2, d3, d4]; try rfl) rfl ?_
        exact ⟨tk_bad HR.out, hb5⟩
      · have HR : Hid (R = .got 5 [s[i]] 1) := HR1.out
        have HX : Hid ((s.extract i (i + 1)).data.toList = [s[i]]) := by
          show _ = _
          rw [ext_n s i (i + 1) (by omega), HD.out]
          simp
        obtain ⟨c0, c1, c2, c3, c4⟩ := HT.out.1.cells
        obtain ⟨f0, f1, f2, f3, f4⟩ := HT.out.1.free
        go_wp2_with (go_at_call 30; refine HI.out.mono ?_; rintro e w' ⟨rfl, rfl⟩)
        obtain ⟨w5, hw5, hb5, d0, d1, d2, d3, d4⟩ := HT.out.1.named HT.out.2 (Nat.le_refl _) (.int .u8 5) (.string (s.extract i (i + 1))) (.int .i64 0) (.int .i64 0) (.bool false)
        rw [← hw5]
        clear hw5 c0 c1 c2 c3 c4 f0 f1 f2 f3 f4
        refine bodyPost_ret (by simp [results, Tryz.results32, go_sem, d0, d1, d2, d3, d4]; try rfl) rfl ?_
        exact ⟨tk_got HR.out HX.out (by omega), hb5⟩
    · have HR : Hid (R = .got 5 ((s.data.toList.drop i).take 2) 2) := by show _ = _; rw [HR0.out]; exact sign_two htw
      have h2 : i + 2 ≤ s.size := by
        rcases Nat.lt_or_ge (i + 1) s.size with h | h
        · omega
        · exfalso
          have hl : (s.data.toList.drop i).length ≤ 1 := by have := HLN.out; omega
          unfold twoS at htw
          rw [take2_one hl, take2_one hl, take2_one hl, take2_one hl] at htw
          cases htw
      have HX := Lib.hid (ext2 s i h2).1
      clear htw
      obtain ⟨c0, c1, c2, c3, c4⟩ := HT.out.1.cells
      obtain ⟨f0, f1, f2, f3, f4⟩ := HT.out.1.free
      go_wp2
      obtain ⟨w5, hw5, hb5, d0, d1, d2, d3, d4⟩ := HT.out.1.named HT.out.2 (Nat.le_refl _) (.int .u8 5) (.string (s.extract i (i + 2))) (.int .i64 0) (.int .i64 0) (.bool false)
      rw [← hw5]
      clear hw5 c0 c1 c2 c3 c4 f0 f1 f2 f3 f4
      refine bodyPost_ret (by simp [results, Tryz.results32, go_sem, d0, d1, d2, d3, d4]; try rfl) rfl ?_
      exact ⟨tk_got HR.out HX.out (by omega), hb5⟩
end Go.Proofs.YtpalfhfbgfnacaaGreatDoor
