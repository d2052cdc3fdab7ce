import Derived.Test.YtfiipfcdddaceaaGreatDoorSz
namespace Go.Proofs.YtfiipfcdddaceaaGreatDoor
open Go.RowKit Go.Sort Go.Shelf
variable {α : Type} [Inhabited α] {T : Two α}

/-- What stands behind so many statements of a sequence. -/
def dropSeq : Nat → Code → Code
  | 0, c => c
  | n + 1, .seq _ b => dropSeq n b
  | _, c => c

set_option maxHeartbeats 8000000 in
set_option maxRecDepth 1000000 in
theorem sym_tail (cf : α → α → Int) (hO : SWO (ltOf cf)) (blk cap a m b mid s e : Nat) (d0 d : Array α) (w0 wr : World) (R : RowK (enc2 T) 2 w0 blk 0 d0) (hs : d0.size = d.size)
    (S : SWK (enc2 T) 2 w0 blk 0 d wr) (hm1 : a < mid ∧ mid < b) (hb : b ≤ d.size) (hsz : d.size < 1099511627776) (hA : SortedIn (ltOf cf) a m d) (hB : SortedIn (ltOf cf) m b d)
    (hL : Hid (s = a ∨ e = b ∨ ltOf cf d[e]! d[s - 1]! = false)) (hR : Hid (s = m ∨ e = m ∨ ltOf cf d[e - 1]! d[s]! = true))
    (j1 : a ≤ s ∧ s ≤ m ∧ m ≤ e ∧ e ≤ b ∧ s ≤ mid ∧ mid ≤ e) (j2 : s + (e - m) = mid) 
    (IH : ∀ (a' m' b' : Nat) (d' : Array α) (w' : World), b' - a' < b - a → d0.size = d'.size → SWK (enc2 T) 2 w0 blk 0 d' w' → a' < m' → m' < b' → b' ≤ d'.size → SortedIn (ltOf cf) a' m' d' → SortedIn (ltOf cf) m' b' d' →
      Calls Tryz.prog 156 #[.slice (some ⟨blk, 0, none⟩) d'.size cap, .int .i64 a', .int .i64 m', .int .i64 b', .func (.func 22) #[] #[]] w' fun e w'' => e = .returned (.tuple #[]) ∧ ∃ d'', (PermIn a' b' d' d'' ∧ SortedIn (ltOf cf) a' b' d'') ∧ SWK (enc2 T) 2 w0 blk 0 d'' w'')
    (QX : Exit → Act → World → Prop) (hQ : QX = bodyPost Tryz.prog Tryz.f156 fun e w' => e = .returned (.tuple #[]) ∧ ∃ d', (PermIn a b d d' ∧ SortedIn (ltOf cf) a b d') ∧ SWK (enc2 T) 2 w0 blk 0 d' w')
    (u5 u6 u7 u8 u9 u10 u11 u12 u13 u14 u15 u16 u17 u19 u21 u22 u23 u25 u26 u27 u28 u29 u30 u31 u32 u33 u34 u35 u36 u37 u38 u39 u40 u41 u42 u43 u44 u45 u46 u47 u48 u49 u50 u51 u52 u53 u54 u55 u56 u57 u58 u59 u60 u61 u62 u63 u64 u65 u66 u67 u68 u69 u70 u71 u72 u73 u74 u75 u76 u77 u78 u79 u80 u81 u82 u83 u84 u85 u86 u87 u88 u89 u90 u91 u92 u93 u94 u95 u96 u97 u98 u99 u100 u101 u102 u103 u104 u105 u106 u107 u108 u109 u110 u111 u112 u113 u114 u115 u116 u117 u118 u119 u120 u121 u122 u123 u124 u125 u126 u127 u128 u129 u130 u131 u132 u133 u134 u135 u136 u137 u138 u139 u140 u141 u142 u143 u144 u145 u146 u147 u148 u149 u150 u151 u152 u153 u154 u155 u156 u157 u158 u159 u160 u161 u162 u163 u164 u165 u166 u167 u168 u169 u170 u171 u172 u173 u174 u175 u176 u177 u178 u179 u180 u181 u182 u183 u184 u185 u186 u187 u188 u189 u190 u191 u192 u193 u194 u195 u196 u197 u198 u199 u200 u201 u202 u203 u204 u205 u206 u207 u208 u209 u210 u211 u212 u213 u214 u215 u216 u217 u218 u219 : Value) :
    Code.wp Tryz.prog (dropSeq 9 (Tryz.f156.body.getD .skip)) QX ⟨#[.slice (some ⟨blk, 0, none⟩) d.size cap, .int .i64 a, .int .i64 m, .int .i64 b, .func (.func 22) #[] #[], u5, u6, u7, u8, u9, u10, u11, u12, u13, u14, u15, u16, u17, .int .i64 mid, u19, .int .i64 s, u21, u22, u23, .int .i64 e, u25, u26, u27, u28, u29, u30, u31, u32, u33, u34, u35, u36, u37, u38, u39, u40, u41, u42, u43, u44, u45, u46, u47, u48, u49, u50, u51, u52, u53, u54, u55, u56, u57, u58, u59, u60, u61, u62, u63, u64, u65, u66, u67, u68, u69, u70, u71, u72, u73, u74, u75, u76, u77, u78, u79, u80, u81, u82, u83, u84, u85, u86, u87, u88, u89, u90, u91, u92, u93, u94, u95, u96, u97, u98, u99, u100, u101, u102, u103, u104, u105, u106, u107, u108, u109, u110, u111, u112, u113, u114, u115, u116, u117, u118, u119, u120, u121, u122, u123, u124, u125, u126, u127, u128, u129, u130, u131, u132, u133, u134, u135, u136, u137, u138, u139, u140, u141, u142, u143, u144, u145, u146, u147, u148, u149, u150, u151, u152, u153, u154, u155, u156, u157, u158, u159, u160, u161, u162, u163, u164, u165, u166, u167, u168, u169, u170, u171, u172, u173, u174, u175, u176, u177, u178, u179, u180, u181, u182, u183, u184, u185, u186, u187, u188, u189, u190, u191, u192, u193, u194, u195, u196, u197, u198, u199, u200, u201, u202, u203, u204, u205, u206, u207, u208, u209, u210, u211, u212, u213, u214, u215, u216, u217, u218, u219], []⟩ wr := by
  have mixed := mixed_z
  subst hQ
  have S1 := hide S
  have HA := hide hA
  have HB := hide hB
  have HO := hide hO
  have HI := hide IH
  have J2 := hide j2
  clear S hA hB hO IH j2
  conv => arg 2; whnf
  try dsimp only
  go_upto_region 39 with fail
  go_cut [20, 185] from 25 (fun v t wx => v = .int .i64 s ∧ (∃ q : Bool, t = .bool q ∧ Hid (q = (decide (s < m) && decide (m < e)))) ∧ Hid (SWK (enc2 T) 2 w0 blk 0 d wx))
  case first =>
    by_cases hx : s < m
    · by_cases hy : m < e
      · go_wp2_with fail
        go_meet
        case rel => exact ⟨rfl, ⟨true, rfl, show _ = _ by simp [hx, hy]⟩, S1⟩
      · go_wp2_with fail
        go_meet
        case rel => exact ⟨rfl, ⟨false, rfl, show _ = _ by simp only [decide_eq_false hy, Bool.and_false]⟩, S1⟩
    · go_wp2_with fail
      go_meet
      case rel => exact ⟨rfl, ⟨false, rfl, show _ = _ by simp only [decide_eq_false hx, Bool.false_and]⟩, S1⟩
  case rest =>
    clear S1
    obtain ⟨rfl, ⟨q, rfl, HQ⟩, S1⟩ := hcut
    go_upto_if 185 with fail
    go_cut [20] from 25 (fun v wx => v = .int .i64 s ∧ ∃ d1 : Array α, d1.size = d.size ∧ Hid (Rotd s m e d d1) ∧ Hid (SWK (enc2 T) 2 w0 blk 0 d1 wx))
    case first =>
      cases q
      · have hid : Rotd s m e d d := by
          have hq := HQ.out
          simp at hq
          by_cases h : s = m
          · rw [h]; exact Rotd.left _ _ _
          · rw [show e = m by omega]; exact Rotd.right _ _ _
        have HID := hide hid
        clear hid
        go_wp2_with fail
        go_meet
        case rel => exact ⟨rfl, d, rfl, HID, S1⟩
      · have hq := HQ.out
        simp at hq
        have hcall := hide (rotate_any 22 #[] blk cap s m e d0 d w0 _ R hs S1.out hq.1 hq.2 (by omega) hsz)
        clear S1
        go_wp2_with (go_at_call 166; refine hcall.out.mono ?_; rintro x w1 ⟨rfl, d1, H3, S3⟩)
        go_meet
        case rel => exact ⟨rfl, d1, H3.size, H3, S3⟩
    case rest =>
      clear S1 HQ
      obtain ⟨rfl, d1, hd1, H3, S1⟩ := hcut
      have hruns := hide (mid_runs HA.out HB.out H3.out j1.1 j1.2.1 j1.2.2.1 j1.2.2.2.1 J2.out)
      have hpart := hide (mid_parts HO.out HA.out HB.out H3.out j1.1 j1.2.1 j1.2.2.1 j1.2.2.2.1 J2.out hL.out hR.out)
      go_upto_region 41 with fail
      go_cut [20, 199] from 25 (fun v t wx => v = .int .i64 s ∧ (∃ q : Bool, t = .bool q ∧ Hid (q = (decide (a < s) && decide (s < mid)))) ∧ Hid (SWK (enc2 T) 2 w0 blk 0 d1 wx))
      case first =>
        by_cases hx : a < s
        · by_cases hy : s < mid
          · go_wp2_with fail
            go_meet
            case rel => exact ⟨rfl, ⟨true, rfl, show _ = _ by simp [hx, hy]⟩, S1⟩
          · go_wp2_with fail
            go_meet
            case rel => exact ⟨rfl, ⟨false, rfl, show _ = _ by simp only [decide_eq_false hy, Bool.and_false]⟩, S1⟩
        · go_wp2_with fail
          go_meet
          case rel => exact ⟨rfl, ⟨false, rfl, show _ = _ by simp only [decide_eq_false hx, Bool.false_and]⟩, S1⟩
      case rest =>
        clear S1
        obtain ⟨rfl, ⟨q2, rfl, HQ⟩, S1⟩ := hcut
        go_upto_if 199 with fail
        go_cut [20] from 25 (fun v wx => v = .int .i64 s ∧ ∃ d2 : Array α, d2.size = d.size ∧ Hid (PermIn a mid d1 d2 ∧ SortedIn (ltOf cf) a mid d2) ∧ Hid (SWK (enc2 T) 2 w0 blk 0 d2 wx))
        case first =>
          cases q2
          · have hid : PermIn a mid d1 d1 ∧ SortedIn (ltOf cf) a mid d1 := by
              refine ⟨permIn_refl _ _ _, ?_⟩
              have hq := HQ.out
              simp at hq
              by_cases h : a < s
              · have e1 : s = mid := by omega
                have := hruns.out.1
                rw [e1] at this
                exact this
              · have e1 : s = a := by omega
                have := hruns.out.2.1
                rw [e1] at this
                exact this
            have HID := hide hid
            clear hid
            go_wp2_with fail
            go_meet
            case rel => exact ⟨rfl, d1, hd1, HID, S1⟩
          · have hq := HQ.out
            simp at hq
            have hcall := HI.out a s mid d1 _ (by omega) (by omega) S1.out hq.1 hq.2 (by omega) hruns.out.1 hruns.out.2.1
            rw [hd1] at hcall
            have HC1 := hide hcall
            clear hcall
            go_wp2_with (go_at_call 156; refine HC1.out.mono ?_; rintro x w1 ⟨rfl, d2, H4, S3⟩)
            go_meet
            case rel => exact ⟨rfl, d2, by rw [H4.1.1]; exact hd1, H4, S3⟩
        case rest =>
          clear S1 HQ
          obtain ⟨rfl, d2, hd2, H4, S1⟩ := hcut
          have hr3 : SortedIn (ltOf cf) mid e d2 := sortedIn_same hruns.out.2.2.1 fun p hp _ => H4.out.1.2.1 p (Or.inr hp)
          have hr4 : SortedIn (ltOf cf) e b d2 := sortedIn_same hruns.out.2.2.2 fun p hp _ => H4.out.1.2.1 p (Or.inr (by omega))
          have FIN : Hid (∀ d3, PermIn mid b d2 d3 ∧ SortedIn (ltOf cf) mid b d3 → PermIn a b d d3 ∧ SortedIn (ltOf cf) a b d3) := fun d3 h => by
            have q := mid_whole hpart.out (by omega) (by omega) (by omega) H4.out.1 H4.out.2 h.1 h.2
            exact ⟨permIn_trans _ _ _ _ _ (permIn_mono _ _ _ _ _ _ j1.1 j1.2.2.2.1 hb H3.out.1) q.1, q.2⟩
          have HR3 := hide hr3
          have HR4 := hide hr4
          clear hr3 hr4 hpart hruns H3 H4
          by_cases hre : mid < e
          · by_cases hrb : e < b
            · have hcall := HI.out mid e b d2 _ (by omega) (by omega) S1.out hre hrb (by omega) HR3.out HR4.out
              rw [hd2] at hcall
              have HC1 := hide hcall
              clear hcall
              go_wp2_with (go_at_call 156; refine HC1.out.mono ?_; rintro x w1 ⟨rfl, d3, H5, S3⟩)
              go_end0
              exact ⟨rfl, d3, FIN.out _ H5, S3⟩
            · have hid : PermIn mid b d2 d2 ∧ SortedIn (ltOf cf) mid b d2 := ⟨permIn_refl _ _ _, by
                have e1 : e = b := by omega
                have := HR3.out
                rw [e1] at this
                exact this⟩
              have HID := hide hid
              clear hid
              go_wp2_with fail
              go_end0
              exact ⟨rfl, d2, FIN.out _ HID.out, S1.out⟩
          · have hid : PermIn mid b d2 d2 ∧ SortedIn (ltOf cf) mid b d2 := ⟨permIn_refl _ _ _, by
              have e1 : e = mid := by omega
              have := HR4.out
              rw [e1] at this
              exact this⟩
            have HID := hide hid
            clear hid
            go_wp2_with fail
            go_end0
            exact ⟨rfl, d2, FIN.out _ HID.out, S1.out⟩

end Go.Proofs.YtfiipfcdddaceaaGreatDoor
