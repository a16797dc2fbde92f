/- para's ends and Split, walked. -/
import Derived.Test.YtcbiaeeifclieaaPaD
import Derived.Test.YtcbiaeeifclieaaPpCc
import Derived.Test.YtcbiaeeifclieaaSpSlice
import Derived.Test.YtcbiaeeifclieaaCutD
namespace Go.Proofs.Ytcbiaeeifclieaa
open Go.RowKit

theorem endB_val {xs : List Int} {k : Nat} {x : Int} (h : xs[k]? = some x) : endB xs k = (decide (classF x = 10) && !(decide (x = 13) && decide (xs[k + 1]? = some 10))) := by
  unfold endB
  rw [h]
  simp
set_option maxRecDepth 100000 in
set_option maxHeartbeats 1000000 in
theorem prEnds_any (b : Nat) (A : Option Addr) (n c k : Nat) (xs : List Int) (v : Bool) (hv : endB xs k = v) (w : World) (hP : PropAt w b) (hr : Rd w 1 A n (xs.map (Value.int .i64))) (hk : k < n) (hn : n ≤ 1000000) :
    Calls Try.prog 52 #[.pointer (some ⟨b, 0, none⟩), .slice A n c, .int .i64 (k : Int)] w fun e w' => e = .returned (.bool v) ∧ Below w.heap.size w w' := by
  have hlen : xs.length = n := by simpa using hr.len1
  obtain ⟨x, hx⟩ : ∃ x, xs[k]? = some x := ⟨_, List.getElem?_eq_getElem (by omega)⟩
  rw [endB_val hx] at hv
  obtain ⟨t, ht⟩ : ∃ t, classF x = t := ⟨_, rfl⟩
  rw [ht] at hv
  have HCL := Lib.hid (ppClass_any b x t ht w hP)
  obtain ⟨ad, rfl, hab, hcell⟩ := hr.at_ hk
  have c0 : w.cell? (ad.add k) = some (.int .i64 x) := hcell _ (by rw [List.getElem?_map, hx]; rfl)
  have hkn : (k : Int) < (n : Int) := by omega
  have hk0 : (0 : Int) ≤ (k : Int) := by omega
  by_cases h10 : t = 10
  · subst h10
    rw [show decide ((10 : Int) = 10) = true from rfl, Bool.true_and] at hv
    by_cases h13 : x = 13
    · subst h13
      rw [show decide ((13 : Int) = 13) = true from rfl, Bool.true_and] at hv
      by_cases hk1 : k + 1 < n
      · obtain ⟨y, hy⟩ : ∃ y, xs[k + 1]? = some y := ⟨_, List.getElem?_eq_getElem (by omega)⟩
        rw [hy] at hv
        obtain ⟨ad', e', _, hcell'⟩ := hr.at_ hk1
        obtain rfl := Option.some.inj e'
        have c1 : w.cell? (ad.add (k + 1)) = some (.int .i64 y) := hcell' _ (by rw [List.getElem?_map, hy]; rfl)
        have c1' := c1
        rw [show k + 1 = 0 + (k + 1) by omega, addNext ad 0 k] at c1'
        have c2 : w.cell? ⟨ad.block, ad.off + (k + 1), none⟩ = some (.int .i64 y) := by
          have : ad.add 0 = ad := by unfold Addr.add; simp
          rwa [this] at c1'
        have d0 := fun W (hb : Below w.heap.size w W) => cell_below hb c0
        have d1 := fun W (hb : Below w.heap.size w W) => cell_below hb c1
        have d2 := fun W (hb : Below w.heap.size w W) => cell_below hb c2
        have HD := Lib.hid (And.intro d0 (And.intro d1 d2))
        have hlt1 : (k : Int) + 1 < (n : Int) := by omega
        have hv' : v = !(y == 10) := by rw [← hv]; by_cases h : y = 10 <;> simp [h]
        have HV := Lib.hid hv'
        clear hv hv' hr hcell hcell' c1 c1' c2 hx hy hlen ht d0 d1 d2 hP
        cases hy10 : (y == 10) with
        | true =>
          rw [hy10] at HV
          go_enter Try.func52, Try.ntmps52
          go_wp2_with fail
          refine HCL.out.mono ?_
          rintro e w1 ⟨rfl, hb1⟩
          have e0 := HD.out.1 _ hb1
          have e1 := HD.out.2.1 _ hb1
          have e2 := HD.out.2.2 _ hb1
          clear c0
          go_wp2
          go_ret
          exact ⟨retB (by simp [HV.out]), hb1⟩
        | false =>
          rw [hy10] at HV
          go_enter Try.func52, Try.ntmps52
          go_wp2_with fail
          refine HCL.out.mono ?_
          rintro e w1 ⟨rfl, hb1⟩
          have e0 := HD.out.1 _ hb1
          have e1 := HD.out.2.1 _ hb1
          have e2 := HD.out.2.2 _ hb1
          clear c0
          go_wp2
          go_ret
          exact ⟨retB (by simp [HV.out]), hb1⟩
      · have hno : xs[k + 1]? = none := List.getElem?_eq_none (by omega)
        rw [hno] at hv
        have HV := Lib.hid (show v = true by rw [← hv]; rfl)
        have d0 := fun W (hb : Below w.heap.size w W) => cell_below hb c0
        have HD := Lib.hid d0
        have hge : ¬ (k : Int) + 1 < (n : Int) := by omega
        clear hv hr hcell hx hlen ht d0 hno hP
        go_enter Try.func52, Try.ntmps52
        go_wp2_with fail
        refine HCL.out.mono ?_
        rintro e w1 ⟨rfl, hb1⟩
        have e0 := HD.out _ hb1
        clear c0
        go_wp2
        go_ret
        exact ⟨retB (by simp [HV.out]), hb1⟩
    · rw [show decide (x = 13) = false from decide_eq_false h13, Bool.false_and] at hv
      have HV := Lib.hid (show v = true by rw [← hv]; rfl)
      have HD := Lib.hid (fun W (hb : Below w.heap.size w W) => cell_below hb c0)
      have g13 : (x == 13) = false := by simp [h13]
      clear hv hr hcell hx hlen ht hP h13
      go_enter Try.func52, Try.ntmps52
      go_wp2_with fail
      refine HCL.out.mono ?_
      rintro e w1 ⟨rfl, hb1⟩
      have e0 := HD.out _ hb1
      clear c0
      go_wp2
      go_ret
      exact ⟨retB (by simp [HV.out]), hb1⟩
  · have g10 : (t != 10) = true := by simp [h10]
    rw [show decide (t = 10) = false from decide_eq_false h10, Bool.false_and] at hv
    have HV := Lib.hid hv
    clear hv hr hcell hx hlen ht hP h10
    go_enter Try.func52, Try.ntmps52
    go_wp2_with fail
    refine HCL.out.mono ?_
    rintro e w1 ⟨rfl, hb1⟩
    go_wp2
    go_ret
    exact ⟨retB (by simp [← HV.out]), hb1⟩
end Go.Proofs.Ytcbiaeeifclieaa
