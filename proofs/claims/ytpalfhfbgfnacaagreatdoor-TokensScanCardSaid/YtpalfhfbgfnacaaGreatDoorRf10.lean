/-
  The reference's token (columnsevenref03), the rests of its body: numbers.
-/
import Derived.Test.YtpalfhfbgfnacaaGreatDoorRf9
namespace Go.Proofs.YtpalfhfbgfnacaaGreatDoor
open Go.RowKit
set_option linter.unusedVariables false
set_option linter.unusedSimpArgs false

def TkRest7 (Q : Exit → Act → World → Prop) (a : Act) (w : World) : Prop :=
  Code.wp Tryz.prog (sel2 (sel2 (sel2 (sel2 (sel2 (sel2 (sel2 ((Tryz.f32).body.getD .skip)))))))) Q a w
set_option maxHeartbeats 4000000 in
set_option maxRecDepth 1000000 in
theorem tok_num (s : ByteArray) (i N : Nat) (v : Value) (w0 wx : World) (R : RdT) (hs : s.size ≤ 134217728) (hi : i < s.size) (hR : R = tok5 (sepAt s.data.toList i) (s.data.toList.drop i)) (hT : TW N w0 wx)
    (u3 u4 u5 u9 u10 u11 u12 u13 u14 u15 u16 u17 u18 u19 u20 u21 u22 u23 u24 u25 u26 u27 u28 u29 u30 u31 u32 u33 u34 u35 u36 u37 u38 u39 u40 u41 u42 u43 u44 u45 u46 u47 u48 u49 u50 u51 u52 u53 u54 u55 u56 u57 u58 u59 u60 u61 u62 u63 u64 u65 u66 u67 u68 u69 u70 u71 u72 u73 u74 u75 u76 u77 u78 u79 u80 u81 u82 u83 u84 u85 u86 u87 u88 u89 u90 u91 u92 u93 u94 u95 u96 u97 u98 u99 u100 u101 u102 u103 u104 u105 u106 u107 u108 u109 u110 u111 u112 u113 u114 u115 u116 u117 u118 u119 u120 u121 u122 u123 u124 u125 u126 u127 u128 u129 u130 u131 u132 u133 u134 u135 u136 u137 u138 u139 u140 u141 u142 u143 u144 u145 u146 u147 u148 u149 u150 u151 u152 u153 u154 u155 u156 u157 u158 u159 u160 u161 u162 u163 u164 u165 u166 u167 u168 u169 u170 u171 u172 u173 u174 u175 u176 u177 u178 u179 u180 u181 u182 u183 u184 u185 u186 u187 u188 u189 u190 u191 u192 u193 u194 u195 u196 u197 u198 u199 u200 u201 u202 u203 u204 u205 u206 u207 u208 u209 u210 u211 u212 u213 u214 u215 u216 u217 u218 u219 u220 u221 u222 u223 u224 u225 u226 u227 u228 u229 u230 u231 u232 u233 u234 u235 u236 u237 u238 u239 u240 u241 u242 u243 u244 u245 u246 u247 u248 u249 u250 u251 u252 u253 u254 u255 u256 u257 u258 u259 u260 u261 u262 u263 : Value) : TkRest7 (bodyPost Tryz.prog Tryz.f32 (TkPost i N w0 R)) ⟨#[.string s, .int .i64 i, v, u3, u4, u5, .pointer (some ⟨N, 0, none⟩), .int .i64 0, .int .i64 0, u9, u10, u11, u12, u13, u14, u15, u16, u17, u18, u19, u20, u21, u22, u23, u24, u25, u26, u27, u28, u29, u30, u31, u32, u33, u34, u35, u36, u37, u38, u39, u40, u41, u42, u43, u44, u45, u46, u47, u48, u49, u50, u51, u52, u53, u54, u55, u56, u57, u58, u59, u60, u61, u62, u63, u64, u65, u66, u67, u68, u69, u70, u71, u72, u73, u74, u75, u76, u77, u78, u79, u80, u81, u82, u83, u84, u85, u86, u87, u88, u89, u90, u91, u92, u93, u94, u95, u96, u97, u98, u99, u100, u101, u102, u103, u104, u105, u106, u107, u108, u109, u110, u111, u112, u113, u114, u115, u116, u117, u118, u119, u120, u121, u122, u123, u124, u125, u126, u127, u128, u129, u130, u131, u132, u133, u134, u135, u136, u137, u138, u139, u140, u141, u142, u143, u144, u145, u146, u147, u148, u149, u150, u151, u152, u153, u154, u155, u156, u157, u158, u159, u160, u161, u162, u163, u164, u165, u166, u167, u168, u169, u170, u171, u172, u173, u174, u175, u176, u177, u178, u179, u180, u181, u182, u183, u184, u185, u186, u187, u188, u189, u190, u191, u192, u193, u194, u195, u196, u197, u198, u199, u200, u201, u202, u203, u204, u205, u206, u207, u208, u209, u210, u211, u212, u213, u214, u215, u216, u217, u218, u219, u220, u221, u222, u223, u224, u225, u226, u227, u228, u229, u230, u231, u232, u233, u234, u235, u236, u237, u238, u239, u240, u241, u242, u243, u244, u245, u246, u247, u248, u249, u250, u251, u252, u253, u254, u255, u256, u257, u258, u259, u260, u261, u262, u263], []⟩ wx := by
  have HT := Lib.hid hT
  have HLN : Hid ((s.data.toList.drop i).length = s.size - i) := by show _ = _; rw [List.length_drop, ← size_data]
  have hnum := r3numeral s i hs hi wx
  have hc := numR_cases i (sepAt s.data.toList i) (s.data.toList.drop i)
  rw [← hR] at hc
  have HT' := hT
  clear hR hT
  unfold TkRest7
  conv => arg 2; whnf
  dsimp only
  refine wp_seq_k fun K1 hK1 => ?_
  have HK1 := Lib.hid hK1
  clear hK1
  rcases hc with ⟨hn, hR⟩ | ⟨hn, hR⟩ | ⟨m, c, h0, hn, h18, hR⟩ | ⟨m, c, h0, hml, hn, h18, hR⟩
  · rw [hn] at hnum
    have HNUM := Lib.hid hnum
    have HR := Lib.hid hR
    clear hnum hn hR
    go_wp2_with (go_at_call 59; refine HNUM.out.mono ?_; rintro e w' ⟨rfl, rfl⟩)
    refine HK1.out _ _ ?_
    refine wp_seq_k fun K2 hK2 => ?_
    have HK2 := Lib.hid hK2
    clear hK2
    go_wp2_with fail
    refine HK2.out _ _ ?_
    refine wp_seq_k fun K3 hK3 => ?_
    have HK3 := Lib.hid hK3
    clear hK3
    go_wp2_with fail
    refine HK3.out _ _ ?_
    refine wp_seq_k fun K4 hK4 => ?_
    have HK4 := Lib.hid hK4
    clear hK4
    go_wp2_with fail
    exact HK4.out _ _ (tok_word s i N v w0 wx R hs hi HR.out HT.out _ _ _ _ _ _ _ _ _ _ _ _ _ _ _ _ _ _ _ _ _ _ _ _ _ _ _ _ _ _ _ _ _ _ _ _ _ _ _ _ _ _ _ _ _ _ _ _ _ _ _ _ _ _ _ _ _ _ _ _ _ _ _ _ _ _ _ _ _ _ _ _ _ _ _ _ _ _ _ _ _ _ _ _ _ _ _ _ _ _ _ _ _ _ _ _ _ _ _ _ _ _ _ _ _ _ _ _ _ _ _ _ _ _ _ _ _ _ _ _ _ _ _ _ _ _ _ _ _ _ _ _ _ _ _ _ _ _ _ _ _ _ _ _ _ _ _ _ _ _ _ _ _ _ _ _ _ _ _ _ _ _ _ _ _ _ _ _ _ _ _ _ _ _ _ _ _ _ _ _ _ _ _ _ _ _ _ _ _ _ _ _ _ _ _ _ _ _ _ _ _ _ _ _ _ _ _ _ _ _ _ _ _ _ _ _ _ _ _ _ _ _ _ _ _ _ _ _ _ _ _ _ _ _ _ _ _ _ _ _ _ _ _ _ _ _ _ _ _ _ _ _ _ _ _ _ _ _)
  · rw [hn] at hnum
    have HNUM := Lib.hid hnum
    have HR : Hid (R = .bad 4) := hR
    clear hnum hn hR
    go_wp2_with (go_at_call 59; refine HNUM.out.mono ?_; rintro e w' ⟨rfl, rfl⟩)
    refine HK1.out _ _ ?_
    obtain ⟨c0, c1, c2, c3, c4⟩ := HT.out.1.cells
    obtain ⟨f0, f1, f2, f3, f4⟩ := HT.out.1.free
    go_wp2
    obtain ⟨w5, hw5, hb5, d0, d1, d2, d3, d4⟩ := HT.out.1.named HT.out.2 (Nat.le_refl _) (.int .u8 0) (.string ⟨#[]⟩) (.int .i64 0) (.int .i64 0) (.bool false)
    rw [← hw5]
    clear hw5 c0 c1 c2 c3 c4 f0 f1 f2 f3 f4
    refine bodyPost_ret (by simp [results, Tryz.results32, go_sem, d0, d1, d2, d3, d4]; try rfl) rfl ?_
    exact ⟨tk_bad HR.out, hb5⟩
  · rw [hn] at hnum
    obtain ⟨M, hM⟩ : ∃ M, M = i + m := ⟨_, rfl⟩
    rw [← hM] at hnum
    have hM0 : 0 < M := by omega
    have hMs : M ≤ s.size + 1000000 ∨ True := .inr trivial
    have HNUM := Lib.hid hnum
    have HR : Hid (R = .bad 5) := hR
    have h18i : (18 : Int) < (c : Int) := by omega
    clear hnum hn hR hM hMs h18
    go_wp2_with (go_at_call 59; refine HNUM.out.mono ?_; rintro e w' ⟨rfl, rfl⟩)
    refine HK1.out _ _ ?_
    refine wp_seq_k fun K2 hK2 => ?_
    have HK2 := Lib.hid hK2
    clear hK2
    go_wp2_with fail
    refine HK2.out _ _ ?_
    obtain ⟨c0, c1, c2, c3, c4⟩ := HT.out.1.cells
    obtain ⟨f0, f1, f2, f3, f4⟩ := HT.out.1.free
    go_wp2
    obtain ⟨w5, hw5, hb5, d0, d1, d2, d3, d4⟩ := HT.out.1.named HT.out.2 (Nat.le_refl _) (.int .u8 0) (.string ⟨#[]⟩) (.int .i64 0) (.int .i64 0) (.bool false)
    rw [← hw5]
    clear hw5 c0 c1 c2 c3 c4 f0 f1 f2 f3 f4
    refine bodyPost_ret (by simp [results, Tryz.results32, go_sem, d0, d1, d2, d3, d4]; try rfl) rfl ?_
    exact ⟨tk_bad HR.out, hb5⟩
  · rw [hn] at hnum
    obtain ⟨M, hM⟩ : ∃ M, M = i + m := ⟨_, rfl⟩
    rw [← hM] at hnum
    have hM0 : 0 < M := by omega
    have hMi : i ≤ M := by omega
    have hMs : M ≤ s.size := by have := HLN.out; omega
    have HNUM := Lib.hid hnum
    have HR : Hid (R = .got 2 ((s.data.toList.drop i).take m) m) := hR
    have HX : Hid ((s.extract i M).data.toList = (s.data.toList.drop i).take m) := by show _ = _; rw [ext_n s i M hMi, hM, Nat.add_sub_cancel_left]
    have HMM := Lib.hid hM
    have h18i : ¬ (18 : Int) < (c : Int) := by omega
    clear hnum hn hR hM h18
    go_wp2_with (go_at_call 59; refine HNUM.out.mono ?_; rintro e w' ⟨rfl, rfl⟩)
    refine HK1.out _ _ ?_
    refine wp_seq_k fun K2 hK2 => ?_
    have HK2 := Lib.hid hK2
    clear hK2
    go_wp2_with fail
    refine HK2.out _ _ ?_
    refine wp_seq_k fun K3 hK3 => ?_
    have HK3 := Lib.hid hK3
    clear hK3
    go_wp2_with fail
    refine HK3.out _ _ ?_
    obtain ⟨c0, c1, c2, c3, c4⟩ := HT.out.1.cells
    obtain ⟨f0, f1, f2, f3, f4⟩ := HT.out.1.free
    go_wp2
    obtain ⟨w5, hw5, hb5, d0, d1, d2, d3, d4⟩ := HT.out.1.named HT.out.2 (Nat.le_refl _) (.int .u8 2) (.string (s.extract i M)) (.int .i64 0) (.int .i64 0) (.bool false)
    rw [← hw5]
    clear hw5 c0 c1 c2 c3 c4 f0 f1 f2 f3 f4
    refine bodyPost_ret (by simp [results, Tryz.results32, go_sem, d0, d1, d2, d3, d4]; try rfl) rfl ?_
    exact ⟨tk_got HR.out HX.out (by rw [HMM.out]), hb5⟩
end Go.Proofs.YtpalfhfbgfnacaaGreatDoor
