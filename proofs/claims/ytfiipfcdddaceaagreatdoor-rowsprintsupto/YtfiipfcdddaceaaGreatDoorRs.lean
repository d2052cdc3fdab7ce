import Derived.Test.YtfiipfcdddaceaaGreatDoorFb
import Derived.Test.YtfiipfcdddaceaaGreatDoorJf
import Derived.Test.YtfiipfcdddaceaaGreatDoorCards
import Derived.Test.YtfiipfcdddaceaaGreatDoorTie
import Derived.ProofKit
import Derived.OpenShut
import Derived.Carry
import Derived.Lay
import Derived.Deep.DeepHandedRow
import Derived.Deep.DeepWitnessRowRef
namespace Go.Proofs.YtfiipfcdddaceaaGreatDoor.RowsPrints
open Go.ChangeShapes Go.WideShapes Go.ChangeAt Go.RowKit

theorem own : ownKnob Tryz.prog.godebug = none := by kernel_rfl

theorem parts {H : Type} {a : DataW H} (hk : Rows.uptoSmall H [a] = true) : Rows.uptoBulk a ≤ 2 ^ 20 := by
  have h : Rows.uptoBulkAll [a] ≤ 1048576 := of_decide_eq_true hk
  simp only [Rows.uptoBulkAll] at h
  omega

set_option maxRecDepth 100000 in
/-- For every list that is short, in every world that holds the tables. -/
theorem contract (H : Type) (enc : TypeId × Value → H) (W : World) (base : Nat) (args : Array Value) (ds gs : List (DataW H)) (before : List MemPlace)
    (hval : ∀ (j : Nat) t v, Tryz.f10.params[j]? = some t → args[j]? = some v → Value.okWide Tryz.prog W .any base t v)
    (hW : DataW.Whole enc Tryz.prog Tryz.f10.params.toList Rows.rowsPrintsSpec.vars false W args.toList ds gs before) (hL : laidMetH Tryz.prog Rows.rowsPrintsUptoRow.laid W) (hk : Rows.uptoSmall H (ds ++ gs) = true) :
    Calls Tryz.prog 10 args W fun e W' => ∃ v, e = .returned v ∧ Rows.rowsPrintsSpec.post enc Tryz.prog Tryz.f10 false true false false W args v W' := by
  have hW' := hW
  obtain ⟨p, q, hA0, hV, rfl, hfz, hnd⟩ := hW
  have hA : DataW.TrodAll enc Tryz.prog W 0 (fun _ => true) true Tryz.f10.params.toList args.toList ds p := hA0
  rw [Tryz.params10] at hA hval
  obtain ⟨v0, d0, rfl, rfl, h0⟩ := trodAll_one hA
  obtain ⟨rfl, rfl⟩ := trodVars_none hV
  clear hA0
  simp only [List.append_nil] at hW' hk
  have b0 := parts hk
  obtain ⟨l, il, l0, hT⟩ := open_listR (hval 0 66 v0 rfl rfl) h0 b0
  obtain ⟨p0, c0, rfl⟩ := il.shape
  have lt0 : ∀ y ∈ p, y.block < W.heap.size := fun y hy => by simpa using hW'.lt y (by simp [hy])
  have htab := tab_of_laid hL
  have htb := Lib.tabBelow_of_tabIs htab
  have hal : ∀ w', Below W.heap.size W w' → Calls Tryz.prog 33 #[] w' fun e w'' => e = .returned (.bool true) ∧ Below w'.heap.size w' w'' := fun w' hb => alive_true w' (htb _ hb)
  have hrun : Calls Tryz.prog 10 #[.slice p0 l.length c0] W fun e w' => e = .returned (.bool true) ∧ Below W.heap.size W w' := by
    by_cases hall : ∀ r ∈ l, factB r.x = true
    · obtain ⟨s, hB⟩ := both_fact _ l W il l0 (fun r hr j hj => (hT r hr).ok j hj) (fun out ho hlo => by
        have h1 := flat_short out fun x hx => by
          obtain ⟨r, hr, rfl⟩ := List.mem_map.1 (ho.sub x hx)
          exact hT r hr
        have h2 : out.length ≤ 2 ^ 20 := Nat.le_trans hlo l0
        omega) htab hall
      exact rowsPrints_both p0 c0 l W s 0 0 il (by omega) (by omega) hB hal
    · obtain ⟨m, hm, hno, hyes⟩ := first_not l hall
      exact rowsPrints_both p0 c0 l W _ 8 m il (by omega) (by omega) (both_not _ l W il m hm hno hyes) hal
  refine hrun.mono fun e W' ⟨he, hn⟩ => ?_
  subst he
  exact ⟨_, rfl, _, _, _, [], _, [], hW', trodAll_mk1 (shut_bool Tryz.underlying4 _),
    trodAll_mk1 (Below.trod laidOut (by kernel_rfl) (of_decide_eq_true (by kernel_rfl)) h0 hn lt0),
    rfl, hn.frame _, fun h => by cases h⟩

/-- For the witness: a list of nothing. -/
def zeros : Array Value := #[.slice none 0 0]
theorem reads (os : Os) {H : Type} (enc : TypeId × Value → H) : ∃ places, DataW.whole enc Tryz.prog ((rworld Tryz.prog (World.holding Tryz.prog os ⟨#[], #[], []⟩)).forCall (fun _ _ => 0) ⟨#[], zeros, []⟩).memory Tryz.f10.params.toList Rows.rowsPrintsSpec.vars false zeros.toList 8 = some ([.nil], [], places) :=
  ⟨[], by kernel_rfl⟩

set_option maxRecDepth 100000 in
theorem liftedUpto (os : Os) (started : os.Started) (H : Type) (enc : TypeId × Value → H) (F : Stop.Interp) :
    ReturnsInHanded {} Tryz.checked os 10 .any ((Rows.OpenSpec.upto Rows.rowsPrintsSpec).preRow enc Tryz.prog Tryz.f10 Rows.rowsPrintsUptoRow.domain false Rows.rowsPrintsUptoRow.laid) (((Rows.OpenSpec.upto Rows.rowsPrintsSpec).at F).post enc Tryz.prog Tryz.f10 false true false false) := by
  obtain ⟨places, hx⟩ := reads os enc
  refine returnsInHanded_of_row (C := Tryz.checked) (s := Rows.OpenSpec.upto Rows.rowsPrintsSpec) own started (by kernel_rfl) Tryz.func10
    (witness_row_atRef (enc := enc) (C := Tryz.checked) false (rworld Tryz.prog (World.holding Tryz.prog os ⟨#[], #[], []⟩)) zeros (rworld_os os) (by kernel_rfl) (by kernel_rfl) (by kernel_rfl)
      (OpenSpec.preRow_of_cond 8 hx (by kernel_rfl) (fun k hk => by cases hk; kernel_rfl) (by kernel_rfl) (rlaid_met os zeros))) ?_
  intro W base args ds gs before hval hW _ hcond _ hL _ _
  exact contract H enc W base args ds gs before hval hW hL (hcond _ rfl)

theorem saidUpto : Rows.RowsPrintsUptoSaid :=
  OpenClaim.holds_of_cond 10 Tryz.f10 rfl rfl rfl rfl rfl rfl rfl ⟨rfl, rfl, rfl, rfl, rfl⟩ rfl rfl rfl rfl rfl (by kernel_rfl) Tryz.func10 (by kernel_rfl)
    (of_decide_eq_true (by kernel_rfl)) (by unfold Func.isWrapper; first | (rw [if_pos (by decide +kernel)]; kernel_rfl) | (rw [if_neg (by decide +kernel)]; exact ⟨rfl, rfl⟩))
    (fun os started H enc _ F => by rw [OpenClaim.pre_eq_preRow]; exact liftedUpto os started H enc F)

theorem plain (f : FuncId) (fn : Func) (hf : Tryz.pinned.checked.prog.funcNamed "lore/lorelaw02.RowsPrints" = some f) (hfn : Tryz.pinned.checked.prog.funcs[f]? = some fn) :
    true = Tryz.pinned.checked.prog.looks [] ∧ ∀ (j : Nat) t, fn.params[j]? = some t → Tryz.pinned.checked.prog.wantsStandIn t = false := by
  obtain rfl : f = 10 := Option.some.inj ((show Tryz.prog.funcNamed "lore/lorelaw02.RowsPrints" = some 10 by kernel_rfl).symm.trans hf) |>.symm
  obtain rfl : fn = Tryz.f10 := (Option.some.inj (Tryz.func10.symm.trans hfn)).symm
  refine ⟨by kernel_rfl, fun j t ht => ?_⟩
  rw [Tryz.params10] at ht
  obtain rfl : t = 66 := by simpa using Array.mem_of_getElem? ht
  exact (show Tryz.prog.wantsStandIn 66 = false by kernel_rfl)

/-- RowsPrints: the second form's card. -/
theorem cardUpto : Rows.RowsPrintsUptoCardSaid :=
  Claim7.holds_tied_plain_at .later [] _ _ _ _ saidUpto (fun _ h => by cases h) (by kernel_rfl) (fun _ h => by cases h) rowsPrintsUpto_row_tie rfl ⟨rfl, rfl⟩ (by kernel_rfl) rfl plain (by kernel_rfl)
end Go.Proofs.YtfiipfcdddaceaaGreatDoor.RowsPrints
