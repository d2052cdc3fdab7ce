import Derived.Test.YtfiipfcdddaceaaGreatDoorPt
import Derived.Test.YtfiipfcdddaceaaGreatDoorJh
import Derived.Test.YtfiipfcdddaceaaGreatDoorRl
namespace Go.Proofs.YtfiipfcdddaceaaGreatDoor
open Go.RowKit Go.Sort Go.Shelf

def P8 : ByteArray := ⟨#[112, 9, 49, 10, 112, 9, 50, 10]⟩
theorem two_lines : ([aN 1, aN 2] : List Atm).flatMap lineL = P8.data.toList := by kernel_rfl

theorem print_two (v : Value) (w : World) (h : Atoms 0 w v [aN 1, aN 2]) (htab : Lib.TabIs Tryz.prog w "internal/strconv.uint64pow10" .u64 Lib.pow10Tab) :
    Calls Tryz.prog 35 #[v] w fun e w' => e = .returned (.tuple #[.string P8, .int .i64 0, .int .i64 0]) ∧ Below w.heap.size w w' := by
  have HA := h
  obtain ⟨_, ⟨_, hz⟩ | ⟨g, c, rfl, _, hg, hc, ht⟩⟩ := h
  · cases hz
  refine (print_some 0 g c [aN 1, aN 2] w hg (by simp) ht HA (fun i hi p tc w' hit => ?_) (fun x hx j hj => ?_) (fun out ho _ => ?_) htab).mono ?_
  · have hi2 : i = 0 ∨ i = 1 := by simp at hi; omega
    rcases hi2 with rfl | rfl
    · exact fact_one 1 p tc w' hit (by omega) (by omega)
    · exact fact_one 2 p tc w' hit (by omega) (by omega)
  · simp only [List.mem_cons, List.not_mem_nil, or_false] at hx
    rcases hx with rfl | rfl
    · exact ⟨by show (-9223372036854775808 : Int) ≤ 1; omega, by show (1 : Int) ≤ 9223372036854775807; omega, by show (0 : Nat) ≤ 1099511627776; omega⟩
    · exact ⟨by show (-9223372036854775808 : Int) ≤ 2; omega, by show (2 : Int) ≤ 9223372036854775807; omega, by show (0 : Nat) ≤ 1099511627776; omega⟩
  · rw [two_again ho, two_lines]
    show 8 ≤ 140737488355328
    omega
  · rintro e w' ⟨out, ho, rfl, hb⟩
    rw [two_again ho, two_lines]
    exact ⟨rfl, hb⟩

set_option maxHeartbeats 1000000 in
theorem num_any (k : Int) (w : World) (h0 : -9223372036854775808 ≤ k) (h1 : k ≤ 9223372036854775807) : Calls Tryz.prog 32 #[.int .i64 k] w fun e w' => e = .returned (.int .i64 k) ∧ w' = w := by
  have hw : IntKind.i64.wrap k = k := by rw [IntKind.wrap_i64]; omega
  go_enter Tryz.func32, Tryz.ntmps32
  go_wp2_with fail
  exact bodyPost_ret (v := .int .i64 k) (by simp [results, go_sem]) rfl ⟨rfl, rfl⟩

set_option maxRecDepth 100000 in
set_option maxHeartbeats 4000000 in
theorem alive_true (w : World) (htab : Lib.TabIs Tryz.prog w "internal/strconv.uint64pow10" .u64 Lib.pow10Tab) : Calls Tryz.prog 33 #[] w fun e w' => e = .returned (.bool true) ∧ Below w.heap.size w w' := by
  have HP := hide (parse_two w)
  have HTAB := hide (Lib.tabBelow_of_tabIs htab)
  unfold S8 at HP
  clear htab
  go_enter Tryz.func33, Tryz.ntmps33
  go_wp2_with fail
  refine HP.out.mono ?_
  rintro e w1 ⟨v1, rfl, hat, hb1⟩
  have HPR := hide (print_two v1 w1 hat (HTAB.out _ hb1))
  have hm : memB [aN 1, aN 2] (aN 2) = true := memB_true.2 ⟨aN 2, by simp, cmpX_cmp.refl _⟩
  obtain ⟨p1, c1, hv1⟩ := hat.shape
  subst hv1
  simp only [List.length_cons, List.length_nil, Nat.zero_add] at *
  have HA := hide hat
  have HB1 := hide hb1
  unfold P8 at HPR
  clear hat hb1
  go_wp2_with fail
  refine HPR.out.mono ?_
  rintro e w2 ⟨rfl, hb2⟩
  have HA2 := hide (HA.out.below hb2)
  have HB2 : Hid (Below w.heap.size w w2) := HB1.out.trans (hb2.mono HB1.out.size)
  clear hb2 HPR
  obtain ⟨g, hpg, hg, hcell⟩ := HA2.out.got (by simp)
  subst hpg
  obtain ⟨tp, tc, x0, x1, hit⟩ := hcell 1 (by simp)
  have HH := hide (has_any (aN 2) (.slice tp 1 tc) 0 _ _ w2 HA2.out hit)
  rw [hm] at HH
  simp only [List.getElem_cons_succ, List.getElem_cons_zero] at x0 x1
  have e1 : (aN 2).na = nP := rfl
  have e2 : (aN 2).n = 1 := rfl
  rw [e1] at x0 HH
  rw [e2] at x1
  clear hcell hit hm
  go_wp2_with (go_at_call 32; refine (num_any _ _ (by omega) (by omega)).mono ?_; rintro e w' ⟨rfl, rfl⟩)
  refine HH.out.mono ?_
  rintro e w3 ⟨rfl, hb3⟩
  go_wp2_with fail
  exact bodyPost_ret (v := .bool true) (by simp [results, go_sem]) rfl ⟨rfl, HB2.out.trans (hb3.mono HB2.out.size)⟩
end Go.Proofs.YtfiipfcdddaceaaGreatDoor
