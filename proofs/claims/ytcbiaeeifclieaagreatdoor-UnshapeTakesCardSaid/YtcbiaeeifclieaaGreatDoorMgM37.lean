/- Texts of one claim, one behind the other. -/
import Derived.Laws.EntriesVeiled
import Derived.Test.YtcbiaeeifclieaaGreatDoorMgM34
/- unshape's becomes, walked: the closure that it answers by options. -/
namespace Go.Proofs.YtcbiaeeifclieaaGreatDoor
open Go.RowKit

set_option maxRecDepth 100000 in
set_option maxHeartbeats 2000000 in
theorem unBec1_any (c : Int) (hc : KeyI c) (sb s m q lo : Nat) (M : Int → Option (Nat × Nat)) (w : World) (hP : PkAt w s m q lo M) (hbx : w.heap[sb]? = some (.cells #[.func (.func 61) #[] #[.pointer (some ⟨s, 0, none⟩)]] 53 (0, 0))) (hq : q < maxLen) (hlo : lo ≤ w.heap.size) (hm : m < lo) (hsm : s ≠ m) :
    Calls Tryz.prog 35 #[.int .i64 c, .pointer (some ⟨sb, 0, none⟩)] w fun e w' => GotL w' (becL true 0 c) e ∧ (∃ M', PkAt w' s m (q + 1) lo M') ∧ Kept w w' [m] := by
  have c0 := hp_cell (j := 0) hbx rfl
  obtain ⟨v, hv⟩ : ∃ v, ligB c = v := ⟨_, rfl⟩
  have HL := Lib.hid (unLig_any c v hv w)
  have HB := Lib.hid (show becL true 0 c = if v = true then [c] else backL c by unfold becL; rw [hv, if_neg (by simp)]; simp)
  have HP := Lib.hid hP
  have HI := Lib.hid (fun W => unItself_any c W)
  have H1 := Lib.hid (fun W (h : Below w.heap.size w W) => unPart1_any c hc s m q lo M W (hP.low h) hq (Nat.le_trans hlo h.size) hm hsm)
  clear hP hbx hv
  cases v with
  | true =>
    go_enter Tryz.func35, Tryz.ntmps35
    go_wp2_with fail
    refine HL.out.mono ?_
    rintro e w1 ⟨rfl, hb1⟩
    have HB1 := Lib.hid hb1
    clear hb1 c0
    go_wp2_with fail
    refine (HI.out _).mono ?_
    rintro e w2 ⟨v, rfl, hmade⟩
    have HM := Lib.hid hmade
    have HB2 := Lib.hid (show Below w.heap.size w w2 from below_self HB1.out (by obtain ⟨_, _, _, _, h⟩ := hmade; exact h))
    clear hmade
    go_wp2
    go_ret
    refine ⟨?_, ⟨_, (HP.out.low HB2.out).more (Nat.le_succ q)⟩, Kept.of_below HB2.out _⟩
    rw [HB.out]
    exact HM.out.got
  | false =>
    go_enter Tryz.func35, Tryz.ntmps35
    go_wp2_with fail
    refine HL.out.mono ?_
    rintro e w1 ⟨rfl, hb1⟩
    have HB1 := Lib.hid hb1
    have d0 := cell_below hb1 c0
    clear hb1 c0
    go_wp2_with (go_at_call 61; refine (H1.out _ HB1.out).mono ?_; rintro e w2 ⟨⟨A2, k2, rfl, hrd2⟩, hP2, hk2⟩)
    go_ret
    refine ⟨?_, hP2, (Kept.of_below HB1.out _).trans hk2⟩
    rw [HB.out]
    exact ⟨A2, k2, rfl, hrd2⟩
theorem becomer_self (w : World) (la : Int) (xs : List Int) : Becomer w 34 #[] (becL false la) xs [] (fun _ _ _ => True) :=
  ⟨enters_of Tryz.func34 (by kernel_rfl) rfl, fun _ _ _ _ => trivial, by simp, fun _ _ _ _ _ _ _ _ => trivial, fun lo k x A _ _ _ _ => by
    refine (unItself_any x A).mono ?_
    rintro e B ⟨v, rfl, h⟩
    exact ⟨h.got, trivial, Kept.of_below (by obtain ⟨_, _, _, _, h⟩ := h; exact h) _⟩⟩
theorem becomer_parts {w : World} {s m : Nat} (hP : ∀ lo, PkAt w s m 0 lo (fun _ => none)) (hsm : s ≠ m) (f : Int → List Int) (hf : ∀ c, f c = backL c) (xs : List Int) (hx : ∀ x ∈ xs, KeyI x) (hn : xs.length ≤ 100000) :
    Becomer w 61 #[.pointer (some ⟨s, 0, none⟩)] f xs [m] (fun lo k W => ∃ M, PkAt W s m k lo M) := by
  have hs := hp_lt (hP 0).box
  have hm := (hP 0).kn.lt
  refine ⟨enters_of Tryz.func61 (by kernel_rfl) rfl, fun lo W hb _ => ⟨_, (hP lo).low hb⟩, by simpa using hm, ?_, ?_⟩
  · rintro lo k A B S ⟨M, h⟩ hk hS
    exact ⟨M, h.kept hk fun g hg => by have := hS g hg; omega⟩
  · rintro lo k x A hxk ⟨M, h⟩ hlo hA
    have hkl := (List.getElem?_eq_some_iff.1 hxk).1
    rw [hf x]
    exact unPart1_any x (hx x (List.mem_of_getElem? hxk)) s m k lo M A h (by unfold maxLen; omega) hA (by omega) hsm
theorem becomer_off {w : World} {sb s m : Nat} (hP : ∀ lo, PkAt w s m 0 lo (fun _ => none)) (hsm : s ≠ m) (hbx : w.heap[sb]? = some (.cells #[.func (.func 61) #[] #[.pointer (some ⟨s, 0, none⟩)]] 53 (0, 0))) (hbm : sb ≠ m) (xs : List Int) (hx : ∀ x ∈ xs, KeyI x) (hn : xs.length ≤ 100000) :
    Becomer w 35 #[.pointer (some ⟨sb, 0, none⟩)] (becL true 0) xs [m] (fun lo k W => (∃ M, PkAt W s m k lo M) ∧ W.heap[sb]? = some (.cells #[.func (.func 61) #[] #[.pointer (some ⟨s, 0, none⟩)]] 53 (0, 0))) := by
  have hs := hp_lt (hP 0).box
  have hm := (hP 0).kn.lt
  have hb := hp_lt hbx
  refine ⟨enters_of Tryz.func35 (by kernel_rfl) rfl, fun lo W hb _ => ⟨⟨_, (hP lo).low hb⟩, (hb.block _ (hp_lt hbx)).trans hbx⟩, by simpa using hm, ?_, ?_⟩
  · rintro lo k A B S ⟨⟨M, h⟩, h2⟩ hk hS
    exact ⟨⟨M, h.kept hk fun g hg => by have := hS g hg; omega⟩, hk.heap h2 fun hg => by have := hS _ hg; omega⟩
  · rintro lo k x A hxk ⟨⟨M, h⟩, h2⟩ hlo hA
    have hkl := (List.getElem?_eq_some_iff.1 hxk).1
    refine (unBec1_any x (hx x (List.mem_of_getElem? hxk)) sb s m k lo M A h h2 (by unfold maxLen; omega) hA (by omega) hsm).mono ?_
    rintro e B ⟨h3, h4, h5⟩
    exact ⟨h3, ⟨h4, h5.heap h2 (by simpa using hbm)⟩, h5⟩
/-- What becomes answers. -/
def BecAns (w w' : World) (lt : Bool) (la : Int) (e : Ending) : Prop :=
  ∃ g lb L, e = .returned (.func (.func g) #[] lb) ∧ (∀ xs : List Int, (∀ x ∈ xs, KeyI x) → xs.length ≤ 100000 → ∃ I, Becomer w' g lb (becL lt la) xs L I) ∧ (∀ x ∈ L, w.heap.size ≤ x) ∧ Below w.heap.size w w'
set_option maxRecDepth 100000 in
set_option maxHeartbeats 2000000 in
theorem unBecomes_any (d l t g : Int) (b0 b1 b2 b3 b4 b5 b6 b7 b8 b9 : Bool) (w : World) :
    Calls Tryz.prog 15 #[.agg #[.int .i64 d, .int .i64 l, .int .i64 t, .int .i64 g, .bool b0, .bool b1, .bool b2, .bool b3, .bool b4, .bool b5, .bool b6, .bool b7, .bool b8, .bool b9]] w fun e w' => BecAns w w' b1 l e := by
  have hbz := below_new w (.cells #[.int .i64 d, .int .i64 l, .int .i64 t, .int .i64 g, .bool b0, .bool b1, .bool b2, .bool b3, .bool b4, .bool b5, .bool b6, .bool b7, .bool b8, .bool b9] 24)
  have hcel := cells_new w [.int .i64 d, .int .i64 l, .int .i64 t, .int .i64 g, .bool b0, .bool b1, .bool b2, .bool b3, .bool b4, .bool b5, .bool b6, .bool b7, .bool b8, .bool b9] 24
  have c1 := hcel 1 _ rfl
  have c5 := hcel 5 _ rfl
  rw [addNew] at c1 c5
  have HZ := Lib.hid hbz
  clear hcel hbz
  go_enter Tryz.func15, Tryz.ntmps15
  go_wp2_with fail
  refine (unParts_any _).mono ?_
  rintro e w1 ⟨rfl, hP, hb1⟩
  obtain ⟨w0, hw0⟩ : ∃ w0, w.alloc (.cells #[.int .i64 d, .int .i64 l, .int .i64 t, .int .i64 g, .bool b0, .bool b1, .bool b2, .bool b3, .bool b4, .bool b5, .bool b6, .bool b7, .bool b8, .bool b9] 24) = w0 := ⟨_, rfl⟩
  have hs0 : w0.heap.size = w.heap.size + 1 := by rw [← hw0, World.size_alloc]
  rw [hw0] at HZ hP hb1 c1 c5 ⊢
  obtain ⟨m, hm⟩ : ∃ m, w0.heap.size = m := ⟨_, rfl⟩
  have hsm : m + 1 ≠ m := by omega
  rw [hm] at hP
  have e1 := cell_below hb1 c1
  have e5 := cell_below hb1 c5
  have hbf := below_new w1 (.cells #[.func (.func 61) #[] #[.pointer (some ⟨m + 1, 0, none⟩)]] 53)
  have f1 := cell_below hbf e1
  have f5 := cell_below hbf e5
  have HPF := Lib.hid (fun lo => (hP lo).low hbf)
  have HBX := Lib.hid (heap_alloc_new w1 (.cells #[.func (.func 61) #[] #[.pointer (some ⟨m + 1, 0, none⟩)]] 53))
  have HBF := Lib.hid (below_self HZ.out (below_self hb1 hbf))
  have HSM := Lib.hid hsm
  have HM := Lib.hid (show w.heap.size ≤ m ∧ m < w1.heap.size by have := (hP 0).kn.lt; omega)
  obtain ⟨gl, hgl⟩ : ∃ gl, decide (l = 0) = gl := ⟨_, rfl⟩
  have g1 : (l == 0) = gl := by rw [← hgl]; by_cases h : l = 0 <;> simp [h]
  have HGL := Lib.hid hgl
  have c3 := cells_new w1 [.func (.func 61) #[] #[.pointer (some ⟨m + 1, 0, none⟩)]] 53 0 _ rfl
  rw [addNew] at c3
  clear hP hb1 hbf c1 c5 e1 e5 hw0 hs0 hsm hgl
  cases b1 with
  | false =>
    go_wp2_with fail
    go_ret
    exact ⟨_, _, [], rfl, fun xs _ _ => ⟨_, becomer_self _ l xs⟩, by simp, HBF.out⟩
  | true =>
    cases gl with
    | true =>
      go_wp2_with fail
      go_ret
      obtain rfl : l = 0 := of_decide_eq_true HGL.out
      exact ⟨_, _, [m], rfl, fun xs hx hn => ⟨_, becomer_off HPF.out HSM.out HBX.out (by have := HM.out; omega) xs hx hn⟩, by simpa using HM.out.1, HBF.out⟩
    | false =>
      go_wp2_with fail
      go_ret
      have hl0 : l ≠ 0 := of_decide_eq_false HGL.out
      exact ⟨_, _, [m], rfl, fun xs hx hn => ⟨_, becomer_parts HPF.out HSM.out _ (fun c => by unfold becL; rw [if_neg (by simp), if_neg (fun h => hl0 h.1)]) xs hx hn⟩, by simpa using HM.out.1, HBF.out⟩
end Go.Proofs.YtcbiaeeifclieaaGreatDoor
