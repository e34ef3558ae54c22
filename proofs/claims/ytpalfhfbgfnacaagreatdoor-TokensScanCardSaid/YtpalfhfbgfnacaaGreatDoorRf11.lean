/-
  The reference's token (columnsevenref03), the rests of its body: literals, periods, pseudo-text.
-/
import Derived.Test.YtpalfhfbgfnacaaGreatDoorRf10
namespace Go.Proofs.YtpalfhfbgfnacaaGreatDoor
open Go.RowKit
set_option linter.unusedVariables false
set_option linter.unusedSimpArgs false

def TkRest4 (Q : Exit → Act → World → Prop) (a : Act) (w : World) : Prop :=
  Code.wp Tryz.prog (sel2 (sel2 (sel2 (sel2 ((Tryz.f32).body.getD .skip))))) Q a w
set_option maxHeartbeats 4000000 in
set_option maxRecDepth 1000000 in
theorem tok_mid (s : ByteArray) (i N : Nat) (v : Value) (w0 wx : World) (R : RdT) (hs : s.size ≤ 134217728) (hi : i < s.size) (hR : R = tok2 (sepAt s.data.toList i) (s.data.toList.drop i)) (hT : TW N w0 wx)
    (u3 u4 u5 u9 u10 u11 u12 u13 u14 u15 u16 u17 u18 u19 u20 u21 u22 u23 u24 u25 u26 u27 u28 u29 u30 u31 u32 u33 u34 u35 u36 u37 u38 u39 u40 u41 u42 u43 u44 u45 u46 u47 u48 u49 u50 u51 u52 u53 u54 u55 u56 u57 u58 u59 u60 u61 u62 u63 u64 u65 u66 u67 u68 u69 u70 u71 u72 u73 u74 u75 u76 u77 u78 u79 u80 u81 u82 u83 u84 u85 u86 u87 u88 u89 u90 u91 u92 u93 u94 u95 u96 u97 u98 u99 u100 u101 u102 u103 u104 u105 u106 u107 u108 u109 u110 u111 u112 u113 u114 u115 u116 u117 u118 u119 u120 u121 u122 u123 u124 u125 u126 u127 u128 u129 u130 u131 u132 u133 u134 u135 u136 u137 u138 u139 u140 u141 u142 u143 u144 u145 u146 u147 u148 u149 u150 u151 u152 u153 u154 u155 u156 u157 u158 u159 u160 u161 u162 u163 u164 u165 u166 u167 u168 u169 u170 u171 u172 u173 u174 u175 u176 u177 u178 u179 u180 u181 u182 u183 u184 u185 u186 u187 u188 u189 u190 u191 u192 u193 u194 u195 u196 u197 u198 u199 u200 u201 u202 u203 u204 u205 u206 u207 u208 u209 u210 u211 u212 u213 u214 u215 u216 u217 u218 u219 u220 u221 u222 u223 u224 u225 u226 u227 u228 u229 u230 u231 u232 u233 u234 u235 u236 u237 u238 u239 u240 u241 u242 u243 u244 u245 u246 u247 u248 u249 u250 u251 u252 u253 u254 u255 u256 u257 u258 u259 u260 u261 u262 u263 : Value) : TkRest4 (bodyPost Tryz.prog Tryz.f32 (TkPost i N w0 R)) ⟨#[.string s, .int .i64 i, v, u3, u4, u5, .pointer (some ⟨N, 0, none⟩), .int .i64 0, .int .i64 0, u9, u10, u11, u12, u13, u14, u15, u16, u17, u18, u19, u20, u21, u22, u23, u24, u25, u26, u27, u28, u29, u30, u31, u32, u33, u34, u35, u36, u37, u38, u39, u40, u41, u42, u43, u44, u45, u46, u47, u48, u49, u50, u51, u52, u53, u54, u55, u56, u57, u58, u59, u60, u61, u62, u63, u64, u65, u66, u67, u68, u69, u70, u71, u72, u73, u74, u75, u76, u77, u78, u79, u80, u81, u82, u83, u84, u85, u86, u87, u88, u89, u90, u91, u92, u93, u94, u95, u96, u97, u98, u99, u100, u101, u102, u103, u104, u105, u106, u107, u108, u109, u110, u111, u112, u113, u114, u115, u116, u117, u118, u119, u120, u121, u122, u123, u124, u125, u126, u127, u128, u129, u130, u131, u132, u133, u134, u135, u136, u137, u138, u139, u140, u141, u142, u143, u144, u145, u146, u147, u148, u149, u150, u151, u152, u153, u154, u155, u156, u157, u158, u159, u160, u161, u162, u163, u164, u165, u166, u167, u168, u169, u170, u171, u172, u173, u174, u175, u176, u177, u178, u179, u180, u181, u182, u183, u184, u185, u186, u187, u188, u189, u190, u191, u192, u193, u194, u195, u196, u197, u198, u199, u200, u201, u202, u203, u204, u205, u206, u207, u208, u209, u210, u211, u212, u213, u214, u215, u216, u217, u218, u219, u220, u221, u222, u223, u224, u225, u226, u227, u228, u229, u230, u231, u232, u233, u234, u235, u236, u237, u238, u239, u240, u241, u242, u243, u244, u245, u246, u247, u248, u249, u250, u251, u252, u253, u254, u255, u256, u257, u258, u259, u260, u261, u262, u263], []⟩ wx := by
  have HT := Lib.hid hT
  have HLN : Hid ((s.data.toList.drop i).length = s.size - i) := by show _ = _; rw [List.length_drop, ← size_data]
  have hq34 := isAt_head s i 34 hi
  have hq46 := isAt_head s i 46 hi
  have u0 := u8lt s[i]
  unfold tok2 at hR
  rw [hq34] at hR
  clear hT
  unfold TkRest4
  conv => arg 2; whnf
  dsimp only
  refine wp_seq_k fun K1 hK1 => ?_
  have HK1 := Lib.hid hK1
  clear hK1
  by_cases h34 : s[i].toNat = 34
  · rw [if_pos (decide_eq_true h34)] at hR
    have e34 : ((s[i].toNat : Int) == 34) = true := by rw [beq_iff_eq]; omega
    have hqu := r3quote s i hs hi wx
    rcases lit_quote i s.data.toList with ⟨hn, hl⟩ | ⟨t, n, hn, hl⟩
    · rw [hn] at hqu
      have HQU : Hid (Calls Tryz.prog 58 #[.string s, .int .i64 i] wx fun e w' => e = .returned (.tuple #[.string ⟨#[]⟩, .int .i64 0]) ∧ wx = w') := hqu
      have HR : Hid (R = .bad 4) := hR.trans hl
      clear hqu hn hl hR h34 hq34 hq46
      obtain ⟨c0, c1, c2, c3, c4⟩ := HT.out.1.cells
      obtain ⟨f0, f1, f2, f3, f4⟩ := HT.out.1.free
      go_wp2_with (go_at_call 58; refine HQU.out.mono ?_; rintro e w' ⟨rfl, rfl⟩)
      obtain ⟨w5, hw5, hb5, d0, d1, d2, d3, d4⟩ := HT.out.1.named HT.out.2 (Nat.le_refl _) (.int .u8 0) (.string ⟨#[]⟩) (.int .i64 0) (.int .i64 0) (.bool false)
      rw [← hw5]
      clear hw5 c0 c1 c2 c3 c4 f0 f1 f2 f3 f4
      refine bodyPost_ret (by simp [results, Tryz.results32, go_sem, d0, d1, d2, d3, d4]; try rfl) rfl ?_
      exact ⟨tk_bad HR.out, hb5⟩
    · rw [hn] at hqu
      obtain ⟨F, hF⟩ : ∃ F, F = strL t := ⟨_, rfl⟩
      have HFD : Hid (F.data.toList = t) := by show _ = _; rw [hF]; rfl
      obtain ⟨M, hM⟩ : ∃ M, M = i + 1 + n := ⟨_, rfl⟩
      have HQU : Hid (Calls Tryz.prog 58 #[.string s, .int .i64 i] wx fun e w' => e = .returned (.tuple #[.string F, .int .i64 M]) ∧ wx = w') := by rw [hF, hM]; exact hqu
      have HR : Hid (R = .got 3 t (n + 1)) := hR.trans hl
      have HMM := Lib.hid hM
      have hM0 : ((M : Int) == 0) = false := by rw [beq_eq_false_iff_ne]; omega
      clear hqu hn hl hR h34 hq34 hq46 hF hM
      obtain ⟨c0, c1, c2, c3, c4⟩ := HT.out.1.cells
      obtain ⟨f0, f1, f2, f3, f4⟩ := HT.out.1.free
      go_wp2_with (go_at_call 58; refine HQU.out.mono ?_; rintro e w' ⟨rfl, rfl⟩)
      obtain ⟨w5, hw5, hb5, d0, d1, d2, d3, d4⟩ := HT.out.1.named HT.out.2 (Nat.le_refl _) (.int .u8 3) (.string F) (.int .i64 0) (.int .i64 0) (.bool false)
      rw [← hw5]
      clear hw5 c0 c1 c2 c3 c4 f0 f1 f2 f3 f4
      refine bodyPost_ret (by simp [results, Tryz.results32, go_sem, d0, d1, d2, d3, d4]; try rfl) rfl ?_
      exact ⟨tk_got HR.out HFD.out (by rw [HMM.out]; omega), hb5⟩
  · rw [if_neg (by simpa using h34)] at hR
    have e34 : ((s[i].toNat : Int) == 34) = false := by rw [beq_eq_false_iff_ne]; omega
    unfold tok3 at hR
    rw [hq46, List.drop_drop] at hR
    obtain ⟨p, hp⟩ : ∃ p, ((s[i].toNat : Int) == 46) = p := ⟨_, rfl⟩
    obtain ⟨en, hen⟩ : ∃ en, endT (s.data.toList.drop (i + 1)) = en := ⟨_, rfl⟩
    have hd46 : decide (s[i].toNat = 46) = p := by rw [← hp, Bool.eq_iff_iff, decide_eq_true_iff, beq_iff_eq]; omega
    rw [hd46, hen] at hR
    have HBL : Hid (∃ k : Nat, ((i : Int) + 1) = k ∧ k ≤ 140737488355328 ∧ endT (s.data.toList.drop k) = en) := ⟨i + 1, rfl, by omega, hen⟩
    have HR0 := Lib.hid hR
    clear h34 hq34 hq46 hen hd46 hR
    go_wp2_with fail
    clear e34
    refine HK1.out _ _ ?_
    refine wp_seq_k fun K2 hK2 => ?_
    have HK2 := Lib.hid hK2
    clear hK2
    by_cases hpe : p = true ∧ en = true
    · have HR : Hid (R = .got 6 [46] 1) := by show _ = _; rw [HR0.out, if_pos hpe]
      obtain ⟨rfl, rfl⟩ := hpe
      obtain ⟨c0, c1, c2, c3, c4⟩ := HT.out.1.cells
      obtain ⟨f0, f1, f2, f3, f4⟩ := HT.out.1.free
      go_wp2_with (go_at_call 31; refine (r3bl s hs _ _ HBL.out _).mono ?_; rintro e w' ⟨rfl, rfl⟩)
      obtain ⟨w5, hw5, hb5, d0, d1, d2, d3, d4⟩ := HT.out.1.named HT.out.2 (Nat.le_refl _) (.int .u8 6) (.string ⟨#[46]⟩) (.int .i64 0) (.int .i64 0) (.bool false)
      rw [← hw5]
      clear hw5 c0 c1 c2 c3 c4 f0 f1 f2 f3 f4
      refine bodyPost_ret (by simp [results, Tryz.results32, go_sem, d0, d1, d2, d3, d4]; try rfl) rfl ?_
      exact ⟨tk_got HR.out rfl (by omega), hb5⟩
    · have HR1 : Hid (R = tok4 (sepAt s.data.toList i) (s.data.toList.drop i)) := by show _ = _; rw [HR0.out, if_neg hpe]
      have hcs : p = false ∨ (p = true ∧ en = false) := by cases p <;> cases en <;> simp_all
      clear hpe HR0
      have HREST : Hid (∀ wy, TW N w0 wy → Hid (R = tok4 (sepAt s.data.toList i) (s.data.toList.drop i)) → True) := fun _ _ _ => trivial
      obtain ⟨q, hq⟩ : ∃ q, eqs (s.data.toList.drop i) = q := ⟨_, rfl⟩
      have HR2 : Hid (R = if q = true then .got 7 [61, 61] 2 else tok5 (sepAt s.data.toList i) (s.data.toList.drop i)) := by show _ = _; rw [HR1.out]; unfold tok4; rw [hq]
      have HQ2 : Hid (i + 2 ≤ s.size → ((s.extract i (i + 2)).toList == [61, 61]) = q) := fun h2 => by
        rw [eq_tl _ _ _ (ext2 s i h2).1, ← eqs_R]; exact hq
      have HQ1 : Hid (¬ i + 2 ≤ s.size → q = false) := fun h2 => by
        rw [← hq, eqs_R]
        exact take2_one (by have := HLN.out; omega) _ _
      clear hq HR1 HREST
      rcases hcs with rfl | ⟨rfl, rfl⟩
      all_goals
        go_wp2_with (go_at_call 31; refine (r3bl s hs _ _ HBL.out _).mono ?_; rintro e w' ⟨rfl, rfl⟩)
        clear hp
        refine HK2.out _ _ ?_
        refine wp_seq_k fun K3 hK3 => ?_
        have HK3 := Lib.hid hK3
        clear hK3
        by_cases h2 : i + 2 ≤ s.size
        · have h3 := HQ2.out h2
          have h4 : (i : Int) + 1 < s.size := by omega
          cases q
          · have HR : Hid (R = tok5 (sepAt s.data.toList i) (s.data.toList.drop i)) := by show _ = _; rw [HR2.out, if_neg (by simp)]
            go_wp2_with fail
            exact HK3.out _ _ (tok_num s i N v w0 wx R hs hi HR.out HT.out _ _ _ _ _ _ _ _ _ _ _ _ _ _ _ _ _ _ _ _ _ _ _ _ _ _ _ _ _ _ _ _ _ _ _ _ _ _ _ _ _ _ _ _ _ _ _ _ _ _ _ _ _ _ _ _ _ _ _ _ _ _ _ _ _ _ _ _ _ _ _ _ _ _ _ _ _ _ _ _ _ _ _ _ _ _ _ _ _ _ _ _ _ _ _ _ _ _ _ _ _ _ _ _ _ _ _ _ _ _ _ _ _ _ _ _ _ _ _ _ _ _ _ _ _ _ _ _ _ _ _ _ _ _ _ _ _ _ _ _ _ _ _ _ _ _ _ _ _ _ _ _ _ _ _ _ _ _ _ _ _ _ _ _ _ _ _ _ _ _ _ _ _ _ _ _ _ _ _ _ _ _ _ _ _ _ _ _ _ _ _ _ _ _ _ _ _ _ _ _ _ _ _ _ _ _ _ _ _ _ _ _ _ _ _ _ _ _ _ _ _ _ _ _ _ _ _ _ _ _ _ _ _ _ _ _ _ _ _ _ _ _ _ _ _ _ _ _ _ _ _ _ _ _ _ _ _ _)
          · have HR : Hid (R = .got 7 [61, 61] 2) := by show _ = _; rw [HR2.out, if_pos rfl]
            obtain ⟨c0, c1, c2, c3, c4⟩ := HT.out.1.cells
            obtain ⟨f0, f1, f2, f3, f4⟩ := HT.out.1.free
            go_wp2
            obtain ⟨w5, hw5, hb5, d0, d1, d2, d3, d4⟩ := HT.out.1.named HT.out.2 (Nat.le_refl _) (.int .u8 7) (.string ⟨#[61, 61]⟩) (.int .i64 0) (.int .i64 0) (.bool false)
            rw [← hw5]
            clear hw5 c0 c1 c2 c3 c4 f0 f1 f2 f3 f4
            refine bodyPost_ret (by simp [results, Tryz.results32, go_sem, d0, d1, d2, d3, d4]; try rfl) rfl ?_
            exact ⟨tk_got HR.out rfl (by omega), hb5⟩
        · have h4 : ¬ (i : Int) + 1 < s.size := by omega
          have h3 := HQ1.out h2
          subst h3
          have HR : Hid (R = tok5 (sepAt s.data.toList i) (s.data.toList.drop i)) := by show _ = _; rw [HR2.out, if_neg (by simp)]
          go_wp2_with fail
          exact HK3.out _ _ (tok_num s i N v w0 wx R hs hi HR.out HT.out _ _ _ _ _ _ _ _ _ _ _ _ _ _ _ _ _ _ _ _ _ _ _ _ _ _ _ _ _ _ _ _ _ _ _ _ _ _ _ _ _ _ _ _ _ _ _ _ _ _ _ _ _ _ _ _ _ _ _ _ _ _ _ _ _ _ _ _ _ _ _ _ _ _ _ _ _ _ _ _ _ _ _ _ _ _ _ _ _ _ _ _ _ _ _ _ _ _ _ _ _ _ _ _ _ _ _ _ _ _ _ _ _ _ _ _ _ _ _ _ _ _ _ _ _ _ _ _ _ _ _ _ _ _ _ _ _ _ _ _ _ _ _ _ _ _ _ _ _ _ _ _ _ _ _ _ _ _ _ _ _ _ _ _ _ _ _ _ _ _ _ _ _ _ _ _ _ _ _ _ _ _ _ _ _ _ _ _ _ _ _ _ _ _ _ _ _ _ _ _ _ _ _ _ _ _ _ _ _ _ _ _ _ _ _ _ _ _ _ _ _ _ _ _ _ _ _ _ _ _ _ _ _ _ _ _ _ _ _ _ _ _ _ _ _ _ _ _ _ _ _ _ _ _ _ _ _ _)
end Go.Proofs.YtpalfhfbgfnacaaGreatDoor
