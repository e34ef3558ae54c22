/-
  The reference's token (columnsevenref03), the rests of its body: words.
-/
import Derived.Test.YtpalfhfbgfnacaaGreatDoorRf8
namespace Go.Proofs.YtpalfhfbgfnacaaGreatDoor
open Go.RowKit
set_option linter.unusedVariables false
set_option linter.unusedSimpArgs false

def TkRest11 (Q : Exit → Act → World → Prop) (a : Act) (w : World) : Prop :=
  Code.wp Tryz.prog (sel2 (sel2 (sel2 (sel2 (sel2 (sel2 (sel2 (sel2 (sel2 (sel2 (sel2 ((Tryz.f32).body.getD .skip)))))))))))) Q a w
set_option maxHeartbeats 4000000 in
set_option maxRecDepth 1000000 in
theorem tok_word (s : ByteArray) (i N : Nat) (v : Value) (w0 wx : World) (R : RdT) (hs : s.size ≤ 134217728) (hi : i < s.size) (hR : R = tok6 (s.data.toList.drop i)) (hT : TW N w0 wx)
    (u3 u4 u5 u9 u10 u11 u12 u13 u14 u15 u16 u17 u18 u19 u20 u21 u22 u23 u24 u25 u26 u27 u28 u29 u30 u31 u32 u33 u34 u35 u36 u37 u38 u39 u40 u41 u42 u43 u44 u45 u46 u47 u48 u49 u50 u51 u52 u53 u54 u55 u56 u57 u58 u59 u60 u61 u62 u63 u64 u65 u66 u67 u68 u69 u70 u71 u72 u73 u74 u75 u76 u77 u78 u79 u80 u81 u82 u83 u84 u85 u86 u87 u88 u89 u90 u91 u92 u93 u94 u95 u96 u97 u98 u99 u100 u101 u102 u103 u104 u105 u106 u107 u108 u109 u110 u111 u112 u113 u114 u115 u116 u117 u118 u119 u120 u121 u122 u123 u124 u125 u126 u127 u128 u129 u130 u131 u132 u133 u134 u135 u136 u137 u138 u139 u140 u141 u142 u143 u144 u145 u146 u147 u148 u149 u150 u151 u152 u153 u154 u155 u156 u157 u158 u159 u160 u161 u162 u163 u164 u165 u166 u167 u168 u169 u170 u171 u172 u173 u174 u175 u176 u177 u178 u179 u180 u181 u182 u183 u184 u185 u186 u187 u188 u189 u190 u191 u192 u193 u194 u195 u196 u197 u198 u199 u200 u201 u202 u203 u204 u205 u206 u207 u208 u209 u210 u211 u212 u213 u214 u215 u216 u217 u218 u219 u220 u221 u222 u223 u224 u225 u226 u227 u228 u229 u230 u231 u232 u233 u234 u235 u236 u237 u238 u239 u240 u241 u242 u243 u244 u245 u246 u247 u248 u249 u250 u251 u252 u253 u254 u255 u256 u257 u258 u259 u260 u261 u262 u263 : Value) : TkRest11 (bodyPost Tryz.prog Tryz.f32 (TkPost i N w0 R)) ⟨#[.string s, .int .i64 i, v, u3, u4, u5, .pointer (some ⟨N, 0, none⟩), .int .i64 0, .int .i64 0, u9, u10, u11, u12, u13, u14, u15, u16, u17, u18, u19, u20, u21, u22, u23, u24, u25, u26, u27, u28, u29, u30, u31, u32, u33, u34, u35, u36, u37, u38, u39, u40, u41, u42, u43, u44, u45, u46, u47, u48, u49, u50, u51, u52, u53, u54, u55, u56, u57, u58, u59, u60, u61, u62, u63, u64, u65, u66, u67, u68, u69, u70, u71, u72, u73, u74, u75, u76, u77, u78, u79, u80, u81, u82, u83, u84, u85, u86, u87, u88, u89, u90, u91, u92, u93, u94, u95, u96, u97, u98, u99, u100, u101, u102, u103, u104, u105, u106, u107, u108, u109, u110, u111, u112, u113, u114, u115, u116, u117, u118, u119, u120, u121, u122, u123, u124, u125, u126, u127, u128, u129, u130, u131, u132, u133, u134, u135, u136, u137, u138, u139, u140, u141, u142, u143, u144, u145, u146, u147, u148, u149, u150, u151, u152, u153, u154, u155, u156, u157, u158, u159, u160, u161, u162, u163, u164, u165, u166, u167, u168, u169, u170, u171, u172, u173, u174, u175, u176, u177, u178, u179, u180, u181, u182, u183, u184, u185, u186, u187, u188, u189, u190, u191, u192, u193, u194, u195, u196, u197, u198, u199, u200, u201, u202, u203, u204, u205, u206, u207, u208, u209, u210, u211, u212, u213, u214, u215, u216, u217, u218, u219, u220, u221, u222, u223, u224, u225, u226, u227, u228, u229, u230, u231, u232, u233, u234, u235, u236, u237, u238, u239, u240, u241, u242, u243, u244, u245, u246, u247, u248, u249, u250, u251, u252, u253, u254, u255, u256, u257, u258, u259, u260, u261, u262, u263], []⟩ wx := by
  have HT := Lib.hid hT
  have hlen : (s.data.toList.drop i).length = s.size - i := by rw [List.length_drop, ← size_data]
  have HLN := Lib.hid hlen
  obtain ⟨d, hd⟩ : ∃ d, atB digB s.data.toList i = d := ⟨_, rfl⟩
  obtain ⟨t, ht⟩ : ∃ t, atB letB s.data.toList i = t := ⟨_, rfl⟩
  have HR0 : Hid (R = if (d || t) = true then wrdR ((s.data.toList.drop i).take (spn inwB (s.data.toList.drop i))) else signT (s.data.toList.drop i)) := by
    show _ = _
    rw [hR]
    unfold tok6
    rw [atB_drop, atB_drop, Nat.add_zero, hd, ht]
    cases d <;> cases t <;> rfl
  have HDg : Hid (PlP digB s.data.toList (i : Int) d) := plp (by omega) hd
  have HLt : Hid (PlP letB s.data.toList (i : Int) t) := plp (by omega) ht
  clear hR hlen hd ht
  unfold TkRest11
  conv => arg 2; whnf
  dsimp only
  refine wp_seq_k fun K hK => ?_
  have HK := Lib.hid hK
  clear hK
  go_upto_region 29 with fail
  go_cut [180] (fun b wy => b = .bool (d || t) ∧ wx = wy)
  case first =>
    cases d <;> cases t
    all_goals
      go_wp2_with (first | (go_at_call 60; refine (r3dg s hs _ _ HDg.out _).mono ?_; rintro e w' ⟨rfl, rfl⟩) | (go_at_call 61; refine (r3lt s hs _ _ HLt.out _).mono ?_; rintro e w' ⟨rfl, rfl⟩))
      go_meet
      exact ⟨rfl, rfl⟩
  case rest =>
    obtain ⟨rfl, rfl⟩ := hcut
    clear HDg HLt
    obtain ⟨dt, hdt⟩ : ∃ dt, (d || t) = dt := ⟨_, rfl⟩
    rw [hdt] at HR0 ⊢
    clear hdt
    cases dt
    · have HS : Hid (R = signT (s.data.toList.drop i)) := HR0.out
      go_wp2_with fail
      exact HK.out _ _ (tok_sign s i N v w0 wx R hs hi HS.out HT.out _ _ _ _ _ _ _ _ _ _ _ _ _ _ _ _ _ _ _ _ _ _ _ _ _ _ _ _ _ _ _ _ _ _ _ _ _ _ _ _ _ _ _ _ _ _ _ _ _ _ _ _ _ _ _ _ _ _ _ _ _ _ _ _ _ _ _ _ _ _ _ _ _ _ _ _ _ _ _ _ _ _ _ _ _ _ _ _ _ _ _ _ _ _ _ _ _ _ _ _ _ _ _ _ _ _ _ _ _ _ _ _ _ _ _ _ _ _ _ _ _ _ _ _ _ _ _ _ _ _ _ _ _ _ _ _ _ _ _ _ _ _ _ _ _ _ _ _ _ _ _ _ _ _ _ _ _ _ _ _ _ _ _ _ _ _ _ _ _ _ _ _ _ _ _ _ _ _ _ _ _ _ _ _ _ _ _ _ _ _ _ _ _ _ _ _ _ _ _ _ _ _ _ _ _ _ _ _ _ _ _ _ _ _ _ _ _ _ _ _ _ _ _ _ _ _ _ _ _ _ _ _ _ _ _ _ _ _ _ _ _ _ _ _ _ _ _ _ _ _ _ _ _ _ _ _ _ _)
    · clear HK
      obtain ⟨n, hn⟩ : ∃ n, n = spn inwB (s.data.toList.drop i) := ⟨_, rfl⟩
      rw [← hn] at HR0
      have hns : i + n ≤ s.size := by
        have h1 := spn_le inwB (s.data.toList.drop i)
        rw [← hn, HLN.out] at h1
        omega
      have HW : Hid (∀ k, k < n → atB inwB s.data.toList (i + k) = true) := fun k hk => by
        rw [← atB_drop]
        exact spn_in inwB _ k (by rw [← hn]; exact hk)
      have HWE : Hid (atB inwB s.data.toList (i + n) = false) := by
        have := spn_end inwB s.data.toList i
        rw [← hn] at this
        exact this
      clear hn
      go_wp2_with fail
      go_loop [14] (fun k => ∃ e : Nat, e ≤ n ∧ k = .int .i64 ((i + e : Nat) : Int)) (fun k => i + n - (intOf k).toNat)
      case atStart => exact ⟨0, Nat.zero_le _, by simp⟩
      case round =>
        obtain ⟨e, he, rfl⟩ := hrel
        obtain ⟨E, hE⟩ : ∃ E, E = i + e := ⟨_, rfl⟩
        have hEs : E ≤ s.size := by omega
        rw [← hE]
        by_cases hlt : e < n
        · have HC : Hid (PlP inwB s.data.toList (E : Int) true) := plp (by omega) (by rw [hE]; exact HW.out e hlt)
          have HE := Lib.hid hE
          clear hE
          go_wp2_with (go_at_call 57; refine (r3wd s hs _ _ HC.out _).mono ?_; rintro e w' ⟨rfl, rfl⟩)
          go_round
          case rel => exact ⟨e + 1, by omega, by rw [HE.out]; go_num⟩
          case measure => simp [intOf]; have := HE.out; omega
        · obtain rfl : e = n := by omega
          have HC : Hid (PlP inwB s.data.toList (E : Int) false) := plp (by omega) (by rw [hE]; exact HWE.out)
          have hiE : i ≤ E := by omega
          obtain ⟨y, hy⟩ : ∃ y, y = s.extract i E := ⟨_, rfl⟩
          have hyd : y.data.toList = (s.data.toList.drop i).take e := by rw [hy, ext_n s i E hiE, hE, Nat.add_sub_cancel_left]
          have hys : y.size = e := by rw [size_data, hyd, List.length_take, HLN.out]; omega
          rw [← hyd] at HR0
          have hyl : y.data.toList.length = e := by rw [← size_data]; exact hys
          obtain ⟨nm, hnm⟩ : ∃ nm, nameR y.data.toList = nm := ⟨_, rfl⟩
          have HRR : Hid (R = if nm = true then if 30 < e then .bad 5 else .got 1 (foldB y.data.toList) e else .bad 4) := by
            show _ = _
            rw [HR0.out, if_pos trivial]
            unfold wrdR
            rw [hnm, hyl]
          have HNM : Hid (Calls Tryz.prog 62 #[.string (s.extract i E)] wx fun e w' => e = .returned (.bool nm) ∧ wx = w') := by
            have := r3name y (by omega) wx
            rw [hnm, hy] at this
            exact this
          have HFO : Hid (Calls Tryz.prog 56 #[.string (s.extract i E)] wx fun e w' => e = .returned (.string (strL (foldB y.data.toList))) ∧ Below wx.heap.size wx w') := by
            have := r3fold y (by omega) wx
            rw [hy] at this ⊢
            exact this
          obtain ⟨F, hF⟩ : ∃ F, F = strL (foldB y.data.toList) := ⟨_, rfl⟩
          have HFD : Hid (F.data.toList = foldB y.data.toList) := by show _ = _; rw [hF]; rfl
          rw [← hF] at HFO
          have hEi : (E : Int) - (i : Int) = (e : Int) := by omega
          have HEE := Lib.hid hE
          have hes : e ≤ s.size := by omega
          clear hE hlt hnm hy hyd hys hyl hF HR0 HW HWE
          cases nm
          · have HR : Hid (R = .bad 4) := HRR.out
            go_upto_region 33 with (go_at_call 57; refine (r3wd s hs _ _ HC.out _).mono ?_; rintro e w' ⟨rfl, rfl⟩)
            obtain ⟨c0, c1, c2, c3, c4⟩ := HT.out.1.cells
            obtain ⟨f0, f1, f2, f3, f4⟩ := HT.out.1.free
            go_wp2_with (go_at_call 62; refine HNM.out.mono ?_; rintro e w' ⟨rfl, rfl⟩)
            obtain ⟨w5, hw5, hb5, d0, d1, d2, d3, d4⟩ := HT.out.1.named HT.out.2 (Nat.le_refl _) (.int .u8 0) (.string ⟨#[]⟩) (.int .i64 0) (.int .i64 0) (.bool false)
            rw [← hw5]
            clear hw5 c0 c1 c2 c3 c4 f0 f1 f2 f3 f4
            refine bodyPost_ret (by simp [results, Tryz.results32, go_sem, d0, d1, d2, d3, d4]; try rfl) rfl ?_
            exact ⟨tk_bad HR.out, hb5⟩
          · by_cases h30 : 30 < e
            · have HR : Hid (R = .bad 5) := by show _ = _; rw [HRR.out, if_pos rfl, if_pos h30]
              go_upto_region 33 with (go_at_call 57; refine (r3wd s hs _ _ HC.out _).mono ?_; rintro e w' ⟨rfl, rfl⟩)
              obtain ⟨c0, c1, c2, c3, c4⟩ := HT.out.1.cells
              obtain ⟨f0, f1, f2, f3, f4⟩ := HT.out.1.free
              go_wp2_with (go_at_call 62; refine HNM.out.mono ?_; rintro e w' ⟨rfl, rfl⟩)
              obtain ⟨w5, hw5, hb5, d0, d1, d2, d3, d4⟩ := HT.out.1.named HT.out.2 (Nat.le_refl _) (.int .u8 0) (.string ⟨#[]⟩) (.int .i64 0) (.int .i64 0) (.bool false)
              rw [← hw5]
              clear hw5 c0 c1 c2 c3 c4 f0 f1 f2 f3 f4
              refine bodyPost_ret (by simp [results, Tryz.results32, go_sem, d0, d1, d2, d3, d4]; try rfl) rfl ?_
              exact ⟨tk_bad HR.out, hb5⟩
            · have HR : Hid (R = .got 1 (foldB y.data.toList) e) := by show _ = _; rw [HRR.out, if_pos rfl, if_neg h30]
              go_upto_region 33 with (go_at_call 57; refine (r3wd s hs _ _ HC.out _).mono ?_; rintro e w' ⟨rfl, rfl⟩)
              go_upto_region 37 with (go_at_call 62; refine HNM.out.mono ?_; rintro e w' ⟨rfl, rfl⟩)
              go_wp2_with (go_at_call 56; refine HFO.out.mono ?_; rintro e w3 ⟨rfl, hb3⟩; have HT3 : Hid (TW N w0 w3) := HT.out.below hb3; obtain ⟨c0, c1, c2, c3, c4⟩ := HT3.out.1.cells; obtain ⟨f0, f1, f2, f3, f4⟩ := HT3.out.1.free)
              obtain ⟨w5, hw5, hb5, d0, d1, d2, d3, d4⟩ := HT3.out.1.named HT3.out.2 (Nat.le_refl _) (.int .u8 1) (.string F) (.int .i64 0) (.int .i64 0) (.bool false)
              rw [← hw5]
              clear hw5 c0 c1 c2 c3 c4 f0 f1 f2 f3 f4
              refine bodyPost_ret (by simp [results, Tryz.results32, go_sem, d0, d1, d2, d3, d4]; try rfl) rfl ?_
              exact ⟨tk_got HR.out HFD.out (by rw [HEE.out]), hb5⟩
end Go.Proofs.YtpalfhfbgfnacaaGreatDoor
