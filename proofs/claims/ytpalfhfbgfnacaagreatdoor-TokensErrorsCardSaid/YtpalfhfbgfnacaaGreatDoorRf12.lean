/-
  The reference's token (columnsevenref03), the rests of its body: pictures.
-/
import Derived.Test.YtpalfhfbgfnacaaGreatDoorRf11
namespace Go.Proofs.YtpalfhfbgfnacaaGreatDoor
open Go.RowKit
set_option linter.unusedVariables false
set_option linter.unusedSimpArgs false

def TkRest3 (Q : Exit → Act → World → Prop) (a : Act) (w : World) : Prop :=
  Code.wp Tryz.prog (sel2 (sel2 (sel2 ((Tryz.f32).body.getD .skip)))) Q a w
set_option maxHeartbeats 8000000 in
set_option maxRecDepth 1000000 in
theorem tok_pic (s : ByteArray) (i N : Nat) (v : Value) (w wc : World) (R : RdT) (xp : Bool) (hs : s.size ≤ 134217728) (hi : i < s.size) (h32 : s[i].toNat ≠ 32) (hR : R = tok1 xp (sepAt s.data.toList i) (s.data.toList.drop i)) (hT : TW N w wc)
    (u3 u4 u5 u10 u11 u12 u13 u14 u15 u16 u17 u18 u19 u20 u21 u22 u23 u24 u25 u26 u27 u28 u29 u30 u31 u32 u33 u34 u35 u36 u37 u38 u39 u40 u41 u42 u43 u44 u45 u46 u47 u48 u49 u50 u51 u52 u53 u54 u55 u56 u57 u58 u59 u60 u61 u62 u63 u64 u65 u66 u67 u68 u69 u70 u71 u72 u73 u74 u75 u76 u77 u78 u79 u80 u81 u82 u83 u84 u85 u86 u87 u88 u89 u90 u91 u92 u93 u94 u95 u96 u97 u98 u99 u100 u101 u102 u103 u104 u105 u106 u107 u108 u109 u110 u111 u112 u113 u114 u115 u116 u117 u118 u119 u120 u121 u122 u123 u124 u125 u126 u127 u128 u129 u130 u131 u132 u133 u134 u135 u136 u137 u138 u139 u140 u141 u142 u143 u144 u145 u146 u147 u148 u149 u150 u151 u152 u153 u154 u155 u156 u157 u158 u159 u160 u161 u162 u163 u164 u165 u166 u167 u168 u169 u170 u171 u172 u173 u174 u175 u176 u177 u178 u179 u180 u181 u182 u183 u184 u185 u186 u187 u188 u189 u190 u191 u192 u193 u194 u195 u196 u197 u198 u199 u200 u201 u202 u203 u204 u205 u206 u207 u208 u209 u210 u211 u212 u213 u214 u215 u216 u217 u218 u219 u220 u221 u222 u223 u224 u225 u226 u227 u228 u229 u230 u231 u232 u233 u234 u235 u236 u237 u238 u239 u240 u241 u242 u243 u244 u245 u246 u247 u248 u249 u250 u251 u252 u253 u254 u255 u256 u257 u258 u259 u260 u261 u262 u263 : Value) : TkRest3 (bodyPost Tryz.prog Tryz.f32 (TkPost i N w R)) ⟨#[.string s, .int .i64 i, v, u3, u4, u5, .pointer (some ⟨N, 0, none⟩), .int .i64 0, .int .i64 0, .bool xp, u10, u11, u12, u13, u14, u15, u16, u17, u18, u19, u20, u21, u22, u23, u24, u25, u26, u27, u28, u29, u30, u31, u32, u33, u34, u35, u36, u37, u38, u39, u40, u41, u42, u43, u44, u45, u46, u47, u48, u49, u50, u51, u52, u53, u54, u55, u56, u57, u58, u59, u60, u61, u62, u63, u64, u65, u66, u67, u68, u69, u70, u71, u72, u73, u74, u75, u76, u77, u78, u79, u80, u81, u82, u83, u84, u85, u86, u87, u88, u89, u90, u91, u92, u93, u94, u95, u96, u97, u98, u99, u100, u101, u102, u103, u104, u105, u106, u107, u108, u109, u110, u111, u112, u113, u114, u115, u116, u117, u118, u119, u120, u121, u122, u123, u124, u125, u126, u127, u128, u129, u130, u131, u132, u133, u134, u135, u136, u137, u138, u139, u140, u141, u142, u143, u144, u145, u146, u147, u148, u149, u150, u151, u152, u153, u154, u155, u156, u157, u158, u159, u160, u161, u162, u163, u164, u165, u166, u167, u168, u169, u170, u171, u172, u173, u174, u175, u176, u177, u178, u179, u180, u181, u182, u183, u184, u185, u186, u187, u188, u189, u190, u191, u192, u193, u194, u195, u196, u197, u198, u199, u200, u201, u202, u203, u204, u205, u206, u207, u208, u209, u210, u211, u212, u213, u214, u215, u216, u217, u218, u219, u220, u221, u222, u223, u224, u225, u226, u227, u228, u229, u230, u231, u232, u233, u234, u235, u236, u237, u238, u239, u240, u241, u242, u243, u244, u245, u246, u247, u248, u249, u250, u251, u252, u253, u254, u255, u256, u257, u258, u259, u260, u261, u262, u263], []⟩ wc := by
  have HT2 := Lib.hid hT
  have HLN : Hid ((s.data.toList.drop i).length = s.size - i) := by show _ = _; rw [List.length_drop, ← size_data]
  have HR1 := Lib.hid hR
  have HH32 := Lib.hid h32
  have HFO : Hid (∀ (y : ByteArray) (W : World), y.size ≤ s.size → Calls Tryz.prog 56 #[.string y] W fun e w' => e = .returned (.string (strL (foldB y.data.toList))) ∧ Below W.heap.size W w') := fun y W hy => r3fold y (by omega) W
  have u0 := u8lt s[i]
  obtain ⟨q, hq⟩ : ∃ q, eqs (s.data.toList.drop i) = q := ⟨_, rfl⟩
  have HQ := Lib.hid hq
  have HQ2 : Hid (i + 2 ≤ s.size → ((s.extract i (i + 2)).toList == [61, 61]) = q) := fun h2 => by
    rw [eq_tl _ _ _ (ext2 s i h2).1, ← eqs_R]; exact hq
  have HQ1 : Hid (¬ i + 2 ≤ s.size → q = false) := fun h2 => by
    rw [← hq, eqs_R]
    exact take2_one (by have := HLN.out; omega) _ _
  clear hq hR hT h32
  unfold TkRest3
  conv => arg 2; whnf
  dsimp only
  refine wp_seq_k fun K1 hK1 => ?_
  have HK1 := Lib.hid hK1
  clear hK1
  go_upto_region 4 with fail
  go_cut [64] (fun b wy => b = .bool (xp && !q) ∧ wc = wy)
  case first =>
    as_aux_lemma =>
      cases xp
      · go_wp2
        go_meet
        exact ⟨rfl, rfl⟩
      · by_cases h2 : i + 2 ≤ s.size
        · have h3 := HQ2.out h2
          have h4 : (i : Int) + 1 < s.size := by omega
          go_wp2
          go_meet
          exact ⟨by first | rfl | simp, rfl⟩
        · have h3 := HQ1.out h2
          subst h3
          have h4 : ¬ (i : Int) + 1 < s.size := by omega
          go_wp2
          go_meet
          exact ⟨rfl, rfl⟩
  case rest =>
    as_aux_lemma =>
      obtain ⟨rfl, rfl⟩ := hcut
      by_cases hB : xp = true ∧ q = false
      · have HR2 : Hid (R = picT (s.data.toList.drop i)) := by show _ = _; rw [HR1.out]; unfold tok1; rw [HQ.out, if_pos hB]
        obtain ⟨rfl, rfl⟩ := hB
        clear HK1
        have HIN : Hid (∀ (c : UInt8) (y : ByteArray) (W : World), y.size ≤ s.size + 100 → Calls Tryz.prog 30 #[.int .u8 c.toNat, .string y] W fun e w' => e = .returned (.bool (inB c y.data.toList)) ∧ W = w') := fun c y W hy => r3in c y (by omega) W
        obtain ⟨n, hn⟩ : ∃ n, n = picN (s.data.toList.drop i) := ⟨_, rfl⟩
        have hr0 : atB (fun c => !spcB c) (s.data.toList.drop i) 0 = true := by
          rw [atB_drop, Nat.add_zero, atB_some (get_data s i hi)]
          have := HH32.out
          simp [spcB]; exact this
        have hn0 : 0 < n := by
          rw [hn]
          have := (spn_pos_at (fun c => !spcB c) (s.data.toList.drop i) 0).2 hr0
          rwa [List.drop_zero] at this
        have hns : i + n ≤ s.size := by
          have := spn_le (fun c => !spcB c) (s.data.toList.drop i)
          rw [HLN.out] at this
          have h2 : n ≤ s.size - i := by rw [hn]; exact this
          omega
        have HPR : Hid (R = if picK (s.data.toList.drop i) = 0 ∨ atB ptB (s.data.toList.drop i) (picK (s.data.toList.drop i) - 1) = true ∨ inB 34 ((s.data.toList.drop i).take (picK (s.data.toList.drop i))) = true then .bad 4 else .got 4 (foldB ((s.data.toList.drop i).take (picK (s.data.toList.drop i)))) (picK (s.data.toList.drop i))) := by
          show _ = _
          rw [HR2.out, pic_R (by rw [← hn]; exact hn0)]
        have HBL : Hid (∀ d, d < n → endT (s.data.toList.drop (i + d)) = false) := fun d hd => by
          have := spn_in (fun c => !spcB c) (s.data.toList.drop i) d (by show d < picN _; rw [← hn]; exact hd)
          rw [atB_drop] at this
          obtain ⟨c, hc, hp⟩ := atB_true this
          rw [drop_get hc]
          simpa [endT, spcB] using hp
        have HBE : Hid (endT (s.data.toList.drop (i + n)) = true) := by
          have h0 := spn_end (fun c => !spcB c) s.data.toList i
          have : atB (fun c => !spcB c) s.data.toList (i + n) = false := by rw [hn]; exact h0
          show _ = _
          rw [endT_at]
          rcases Nat.lt_or_ge (i + n) s.data.toList.length with h1 | h1
          · have hc := List.getElem?_eq_getElem h1
            rw [atB_some hc] at this
            unfold isAt
            rw [atB_some hc]
            simp [spcB] at this
            simp [this]
          · have h2 : decide (s.data.toList.length ≤ i + n) = true := decide_eq_true_iff.2 h1
            rw [h2]; rfl
        have HPK : Hid (picK (s.data.toList.drop i) = if atB ptB (s.data.toList.drop i) (n - 1) = true then n - 1 else n) := by show _ = _; unfold picK; rw [← hn]
        clear hn hr0 HR2 HR1 HQ HQ1 HQ2
        rw [show (true && !false) = true from rfl]
        go_wp2
        go_loop [11] (fun k => ∃ d : Nat, d ≤ n ∧ k = .int .i64 ((i + d : Nat) : Int)) (fun k => i + n - (intOf k).toNat)
        case atStart => exact ⟨0, Nat.zero_le _, by simp⟩
        case round =>
          as_aux_lemma =>
            obtain ⟨d, hd, rfl⟩ := hrel
            obtain ⟨E, hE⟩ : ∃ E, E = i + d := ⟨_, rfl⟩
            have hEs : E ≤ s.size := by omega
            rw [← hE]
            by_cases hlt : d < n
            · have HC : Hid (∃ k : Nat, (E : Int) = k ∧ k ≤ 140737488355328 ∧ endT (s.data.toList.drop k) = false) := ⟨E, rfl, by omega, by rw [hE]; exact HBL.out d hlt⟩
              have HE := Lib.hid hE
              clear hE
              go_wp2_with (go_at_call 31; refine (r3bl s hs _ _ HC.out _).mono ?_; rintro e w' ⟨rfl, rfl⟩)
              go_round
              case rel => exact ⟨d + 1, by omega, by rw [HE.out]; go_num⟩
              case measure => simp [intOf]; have := HE.out; omega
            · obtain rfl : d = n := by omega
              have HC : Hid (∃ k : Nat, (E : Int) = k ∧ k ≤ 140737488355328 ∧ endT (s.data.toList.drop k) = true) := ⟨E, rfl, by omega, by rw [hE]; exact HBE.out⟩
              have hE1 : E - 1 < s.size := by omega
              have hEi : (E : Int) - 1 = ((E - 1 : Nat) : Int) := by omega
              obtain ⟨b1, hb1⟩ : ∃ b1, inB s[E - 1] [46, 44, 59] = b1 := ⟨_, rfl⟩
              have HPK2 : Hid (i + picK (s.data.toList.drop i) = if b1 = true then E - 1 else E) := by
                show _ = _
                rw [HPK.out, atB_drop, show i + (d - 1) = E - 1 from by omega, atB_some (get_data s (E - 1) hE1), ← ptB_in, hb1]
                split <;> omega
              have hiE : i + 1 ≤ E := by omega
              obtain ⟨M, hM⟩ : ∃ M, M = i + picK (s.data.toList.drop i) := ⟨_, rfl⟩
              obtain ⟨m, hm⟩ : ∃ m, m = picK (s.data.toList.drop i) := ⟨_, rfl⟩
              rw [← hm] at hM HPR
              rw [← hm, ← hM] at HPK2
              have hMs : M ≤ s.size := by have := HPK2.out; split at this <;> omega
              have HMM := Lib.hid hM
              have u1 := u8lt s[E - 1]
              have HIX : Hid (∀ W : World, Calls Tryz.prog 30 #[.int .u8 s[E - 1].toNat, .string ⟨#[46, 44, 59]⟩] W fun e w' => e = .returned (.bool b1) ∧ W = w') := fun W => by
                have := HIN.out s[E - 1] ⟨#[46, 44, 59]⟩ W (by show 3 ≤ _; omega)
                rw [show (⟨#[46, 44, 59]⟩ : ByteArray).data.toList = [46, 44, 59] from rfl, hb1] at this
                exact this
              clear hE hlt HPK hm hM hb1
              go_upto_if 76 with (first | (go_at_call 31; refine (r3bl s hs _ _ HC.out _).mono ?_; rintro e w' ⟨rfl, rfl⟩) | (go_at_call 30; refine (HIX.out _).mono ?_; rintro e w' ⟨rfl, rfl⟩))
              go_cut [11] (fun k wy => k = .int .i64 M ∧ wc = wy)
              case first =>
                as_aux_lemma =>
                  cases b1
                  · have hf := HPK2.out
                    rw [if_neg (by simp)] at hf
                    subst hf
                    go_wp2
                    go_meet
                    exact ⟨rfl, rfl⟩
                  · have hf := HPK2.out
                    rw [if_pos rfl] at hf
                    subst hf
                    go_wp2
                    go_meet
                    exact ⟨by first | rfl | (rw [hEi]), rfl⟩
              case rest =>
                as_aux_lemma =>
                  obtain ⟨rfl, rfl⟩ := hcut
                  clear HIX u1 hEi hE1 HC HPK2 HBE HBL hn0 hns hd
                  have hMi : i ≤ M := by have := HMM.out; omega
                  obtain ⟨e1, he1⟩ : ∃ y, y = s.extract i M := ⟨_, rfl⟩
                  have HE1 : Hid (e1.data.toList = (s.data.toList.drop i).take m) := by
                    show _ = _
                    rw [he1, ext_n s i M hMi, HMM.out, Nat.add_sub_cancel_left]
                  have hes : e1.size ≤ s.size := by rw [he1, ByteArray.size_extract]; omega
                  obtain ⟨bad, hbad⟩ : ∃ bad, bad = (decide (m = 0) || (atB ptB (s.data.toList.drop i) (m - 1) || inB 34 e1.data.toList)) := ⟨_, rfl⟩
                  have HBD : Hid (R = if bad = true then .bad 4 else .got 4 (foldB e1.data.toList) m) := by
                    show _ = _
                    rw [HPR.out, hbad, HE1.out]
                    congr 1
                    simp only [Bool.or_eq_true, decide_eq_true_iff]
                  have HBAD := Lib.hid hbad
                  have HEE := Lib.hid he1
                  clear HPR hbad
                  go_upto_region 10 with fail
                  go_cut [95] (fun b wy => b = .bool bad ∧ wc = wy)
                  case first =>
                    as_aux_lemma =>
                      rw [he1] at HBAD
                      clear he1 HBD HEE
                      by_cases hm0 : m = 0
                      · have hf : bad = true := by rw [HBAD.out, hm0]; rfl
                        have hMe : M = i := by have := HMM.out; omega
                        subst hf
                        subst hMe
                        go_wp2
                        go_meet
                        exact ⟨rfl, rfl⟩
                      · have hM1 : M - 1 < s.size := by omega
                        have hmi : i < M := by have := HMM.out; omega
                        have hMi2 : (M : Int) - 1 = ((M - 1 : Nat) : Int) := by omega
                        have hne : ((M : Int) == (i : Int)) = false := by simp; omega
                        obtain ⟨b2, hb2⟩ : ∃ b2, inB s[M - 1] [46, 44, 59] = b2 := ⟨_, rfl⟩
                        obtain ⟨b3, hb3⟩ : ∃ b3, inB 34 (s.extract i M).data.toList = b3 := ⟨_, rfl⟩
                        have HF : Hid (bad = (b2 || b3)) := by
                          show _ = _
                          rw [HBAD.out, hb3, atB_drop, show i + (m - 1) = M - 1 from by have := HMM.out; omega, atB_some (get_data s (M - 1) hM1), ← ptB_in, hb2]
                          have : decide (m = 0) = false := by simpa using hm0
                          rw [this]; rfl
                        have HI34 : Hid (InP 34 (s.extract i M) b3) := ⟨34, rfl, by rw [ByteArray.size_extract]; omega, hb3⟩
                        have HI3 : Hid (InP s[M - 1].toNat ⟨#[46, 44, 59]⟩ b2) := ⟨s[M - 1], rfl, by show 3 ≤ _; omega, hb2⟩
                        have u1 := u8lt s[M - 1]
                        clear hb2 hb3 hm0
                        cases b2
                        · go_wp2_with (go_at_call 30; refine (r3inv _ _ _ (by first | exact HI3.out | exact HI34.out) _).mono ?_; rintro e w' ⟨rfl, rfl⟩)
                          go_meet
                          exact ⟨by rw [HF.out]; simp, rfl⟩
                        · go_wp2_with (go_at_call 30; refine (r3inv _ _ _ HI3.out _).mono ?_; rintro e w' ⟨rfl, rfl⟩)
                          go_meet
                          exact ⟨by rw [HF.out]; rfl, rfl⟩
                  case rest =>
                    as_aux_lemma =>
                      obtain ⟨rfl, rfl⟩ := hcut
                      clear he1
                      cases bad
                      · have HR : Hid (R = .got 4 (foldB e1.data.toList) m) := by show _ = _; rw [HBD.out, if_neg (by simp)]
                        have HF : Hid (∀ W : World, Calls Tryz.prog 56 #[.string (s.extract i M)] W fun e w' => e = .returned (.string (strL (foldB e1.data.toList))) ∧ Below W.heap.size W w') := fun W => by
                          have := HFO.out e1 W hes
                          rw [HEE.out] at this ⊢
                          exact this
                        obtain ⟨F, hF⟩ : ∃ F, F = strL (foldB e1.data.toList) := ⟨_, rfl⟩
                        have HFD : Hid (F.data.toList = foldB e1.data.toList) := by show _ = _; rw [hF]; rfl
                        rw [← hF] at HF
                        clear hF
                        go_upto_region 12 with fail
                        go_wp2_with (go_at_call 56; refine (HF.out _).mono ?_; rintro e w3 ⟨rfl, hb3⟩; have HT3 : Hid (TW N w w3) := HT2.out.below hb3; obtain ⟨c0, c1, c2, c3, c4⟩ := HT3.out.1.cells; obtain ⟨f0, f1, f2, f3, f4⟩ := HT3.out.1.free)
                        obtain ⟨w5, hw5, hb5, d0, d1, d2, d3, d4⟩ := HT3.out.1.named HT3.out.2 (Nat.le_refl _) (.int .u8 4) (.string F) (.int .i64 0) (.int .i64 0) (.bool false)
                        rw [← hw5]
                        clear hw5 c0 c1 c2 c3 c4 f0 f1 f2 f3 f4
                        refine bodyPost_ret (by simp [results, Tryz.results32, go_sem, d0, d1, d2, d3, d4]; try rfl) rfl ?_
                        exact ⟨tk_got HR.out HFD.out (by rw [HMM.out]), hb5⟩
                      · have HR : Hid (R = .bad 4) := by show _ = _; rw [HBD.out, if_pos rfl]
                        obtain ⟨c0, c1, c2, c3, c4⟩ := HT2.out.1.cells
                        obtain ⟨f0, f1, f2, f3, f4⟩ := HT2.out.1.free
                        go_wp2
                        obtain ⟨w5, hw5, hb5, d0, d1, d2, d3, d4⟩ := HT2.out.1.named HT2.out.2 (Nat.le_refl _) (.int .u8 0) (.string ⟨#[]⟩) (.int .i64 0) (.int .i64 0) (.bool false)
                        rw [← hw5]
                        clear hw5 c0 c1 c2 c3 c4 f0 f1 f2 f3 f4
                        refine bodyPost_ret (by simp [results, Tryz.results32, go_sem, d0, d1, d2, d3, d4]; try rfl) rfl ?_
                        exact ⟨tk_bad HR.out, hb5⟩
      · have HR2 : Hid (R = tok2 (sepAt s.data.toList i) (s.data.toList.drop i)) := by show _ = _; rw [HR1.out]; unfold tok1; rw [HQ.out, if_neg hB]
        have hBb : (xp && !q) = false := by cases xp <;> cases q <;> simp_all
        rw [hBb]
        clear hB hBb HR1
        go_wp2_with fail
        exact HK1.out _ _ (tok_mid s i N v w wc R hs hi HR2.out HT2.out _ _ _ _ _ _ _ _ _ _ _ _ _ _ _ _ _ _ _ _ _ _ _ _ _ _ _ _ _ _ _ _ _ _ _ _ _ _ _ _ _ _ _ _ _ _ _ _ _ _ _ _ _ _ _ _ _ _ _ _ _ _ _ _ _ _ _ _ _ _ _ _ _ _ _ _ _ _ _ _ _ _ _ _ _ _ _ _ _ _ _ _ _ _ _ _ _ _ _ _ _ _ _ _ _ _ _ _ _ _ _ _ _ _ _ _ _ _ _ _ _ _ _ _ _ _ _ _ _ _ _ _ _ _ _ _ _ _ _ _ _ _ _ _ _ _ _ _ _ _ _ _ _ _ _ _ _ _ _ _ _ _ _ _ _ _ _ _ _ _ _ _ _ _ _ _ _ _ _ _ _ _ _ _ _ _ _ _ _ _ _ _ _ _ _ _ _ _ _ _ _ _ _ _ _ _ _ _ _ _ _ _ _ _ _ _ _ _ _ _ _ _ _ _ _ _ _ _ _ _ _ _ _ _ _ _ _ _ _ _ _ _ _ _ _ _ _ _ _ _ _ _ _ _ _ _ _ _)
end Go.Proofs.YtpalfhfbgfnacaaGreatDoor
