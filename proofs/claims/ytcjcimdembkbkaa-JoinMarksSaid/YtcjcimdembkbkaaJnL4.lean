/- naskhlaw13.JoinMarks. -/
import Derived.Test.YtcjcimdembkbkaaJnL1
import Derived.Test.YtcjcimdembkbkaaJnI
import Derived.Test.YtcjcimdembkbkaaCloneI
namespace Go.Proofs.Ytcjcimdembkbkaa
open Go.RowKit Go.Shelf

theorem delete_any (base g k N : Nat) (fs : List Int) (w : World) (hl : fs.length = N) (hk : k < N) (hN : N ≤ 1000) (hg : w.heap[g]? = some (.cells (intsZ fs).toArray 3 (0, 0))) (hb : base ≤ g) :
    Calls Try.prog 26 #[.slice (some ⟨g, 0, none⟩) N N, .int .i64 (k : Int), .int .i64 ((k : Int) + 1)] w fun e w' => e = .returned (.slice (some ⟨g, 0, none⟩) (N - 1) N) ∧ Rd w' 1 (some ⟨g, 0, none⟩) (N - 1) ((fs.take k ++ fs.drop (k + 1)).map (Value.int .i64)) ∧ Below base w w' := by
  subst hl
  have hH : Sort.Holds (Value.int .i64) w g 0 fs.toArray := fun j hj => by
    have hj' : j < fs.length := by simpa using hj
    rw [Nat.zero_add]
    refine ⟨hp_cell hg ?_, hp_froz hg j⟩
    simp [intsZ, hj']
  refine (Any.slices_Delete_int del_lays g 0 fs.length k (k + 1) fs w hH (Nat.le_refl _) (by omega) (by omega) (by omega)).mono ?_
  rintro e w' ⟨rfl, q, rfl⟩
  have hlen : (fs.take k ++ fs.drop (k + 1) ++ List.replicate (k + 1 - k) 0).toArray.size = fs.toArray.size := by simp; omega
  have hP := Sort.holds_putRow (Value.int .i64) (Sort.ahead w q) g 0 fs.toArray (fs.take k ++ fs.drop (k + 1) ++ List.replicate (k + 1 - k) 0).toArray hH hlen
  refine ⟨by rw [show fs.length - (k + 1 - k) = fs.length - 1 by omega], ⟨by simp; omega, fun _ => ⟨_, rfl, ?_, fun j u hj => ?_⟩⟩, ?_⟩
  · rw [Sort.size_putRow]; exact hp_lt hg
  · rw [addZ]
    have hjl := (List.getElem?_eq_some_iff.1 hj).1
    have hjl' : j < (fs.take k ++ fs.drop (k + 1)).length := by simpa using hjl
    have h := (hP j (by simp at hjl' ⊢; omega)).1
    rw [Nat.zero_add] at h
    rw [h]
    rw [List.getElem?_map, List.getElem?_eq_getElem hjl', Option.map_some] at hj
    rw [← hj]
    congr 2
    rw [getElem!_pos _ j (by simp at hjl' ⊢; omega)]
    simp only [List.getElem_toArray]
    rw [List.getElem_append_left hjl']
  · exact ⟨rfl, rfl, rfl, by rw [Sort.size_putRow]; exact Nat.le_refl _, fun i hi => by
      show (w.heap.modify g _)[i]? = _
      rw [Array.getElem?_modify, if_neg (by omega)]⟩
set_option maxRecDepth 100000 in
set_option maxHeartbeats 4000000 in
theorem joinMarks_any (A : Option Addr) (n c : Nat) (ts : List Int) (at_ : Int) (w : World) (hr : Rd w 1 A n (ts.map (Value.int .i64))) (hn : n ≤ maxLen) (h0 : 0 ≤ at_) (h9 : at_ ≤ 255) :
    Calls Try.prog 7 #[.slice A n c, .int .u8 at_] w fun e w' => e = .returned (.bool true) ∧ Below w.heap.size w w' := by
  have hlen : ts.length = n := by simpa using hr.len1
  unfold maxLen at hn
  obtain ⟨a, rfl⟩ : ∃ a : Nat, at_ = a := ⟨at_.toNat, by omega⟩
  by_cases hs : n ≤ 200
  · obtain ⟨k, hk⟩ : ∃ k, a % (n + 1) = k := ⟨_, rfl⟩
    have hkn : k ≤ n := by have := Nat.mod_lt a (show 0 < n + 1 by omega); omega
    have HL := Lib.hid hlen
    have HR := Lib.hid hr
    have HC := Lib.hid (cloneInt_any A n c _ w hr (oneInts _ _) (by omega))
    clear hr hlen
    go_enter Try.func7, Try.ntmps7
    go_wp2_with fail
    have hmod : ((a : Int) % ((n : Int) + 1)) = (k : Int) := by rw [← hk]; simp
    simp only [hmod]
    refine HC.out.mono ?_
    rintro e w1 ⟨v, rfl, hown, hb1⟩
    have HI := Lib.hid (insert_any w.heap.size w1.heap.size n k 1 v ts hkn (by omega) (w1.alloc (.cells #[.int .i64 1] 3)) (hown.alloc _) (Nat.le_trans hb1.size (by simp)) (heap_alloc_new _ _) (fun e => by have := (hown.lt _ e).2; omega))
    have HB1 := Lib.hid (hb1.alloc hb1.size (.cells #[.int .i64 1] 3))
    clear hmod hown hb1 HC hk
    go_wp2_with fail
    refine HI.out.mono ?_
    rintro e w2 ⟨⟨A1, c1, rfl, hc1, hr2⟩, hb2⟩
    have HB2 := Lib.hid (HB1.out.trans hb2)
    have HR2 := Lib.hid hr2
    clear hb2 hr2 HI HB1
    go_wp2_with fail
    refine (jnForms_any A1 (n + 1) c1 (jIns ts k) w2 HR2.out (by omega)).mono ?_
    rintro e w3 ⟨⟨g, hge, rfl, hg⟩, hb3⟩
    have HB3 := Lib.hid (below_self HB2.out hb3)
    have hil : (jIns ts k).length = n + 1 := by rw [jIns_len (by rw [HL.out]; exact hkn), HL.out]
    have hck : w3.cell? ⟨g, k, none⟩ = some (.int .i64 0) := hp_cell hg (by
      have h := jForms_at (ts := jIns ts k) (k := k) (by omega)
      rw [jForm_T (jIns_mid (by rw [HL.out]; exact hkn))] at h
      simpa [intsZ] using h)
    have HD := Lib.hid (delete_any w.heap.size g k (n + 1) (jForms (jIns ts k)) w3 (by rw [jForms_len, hil]) (by omega) (by omega) hg (Nat.le_trans HB2.out.size hge))
    rw [jForms_ins (by rw [HL.out]; exact hkn), Nat.add_sub_cancel] at HD
    clear hb3 hg hil HR2 HB2 hge
    go_wp2_with fail
    refine HD.out.mono ?_
    rintro e w4 ⟨rfl, hr4, hb4⟩
    have HB4 := Lib.hid (HB3.out.trans hb4)
    have HR4 := Lib.hid hr4
    clear hb4 hr4 HD HB3 hck
    go_wp2_with fail
    refine (jnForms_any A n c ts w4 (HR.out.below HB4.out) (by omega)).mono ?_
    rintro e w5 ⟨⟨g5, _, rfl, hg5⟩, hb5⟩
    have hz := rd_intsZ hg5 (n := n) (by rw [jForms_len, HL.out])
    have HZ := Lib.hid hz
    have HB5 := Lib.hid (below_self HB4.out hb5)
    have HR5 := Lib.hid (HR4.out.below hb5)
    clear hg5 hz hb5 HB4 HR4
    go_wp2_with fail
    refine (equalInt_b _ _ n n _ _ (jForms ts) (jForms ts) _ HR5.out HZ.out (by unfold maxLen; omega) (by unfold maxLen; omega)).mono ?_
    rintro e w6 ⟨rfl, hb6⟩
    rw [decide_eq_true rfl]
    have HB6 := Lib.hid (below_self HB5.out hb6)
    clear hb6
    go_wp2_with fail
    refine (awakeJn_any _).mono ?_
    rintro e w7 ⟨rfl, hb7⟩
    have HB7 := Lib.hid (below_self HB6.out hb7)
    clear hb7
    go_wp2
    go_ret
    exact ⟨rfl, HB7.out⟩
  · clear hr hlen
    go_enter Try.func7, Try.ntmps7
    go_wp2_with fail
    refine (awakeJn_any _).mono ?_
    rintro e w4 ⟨rfl, hb4⟩
    go_wp2
    go_ret
    exact ⟨rfl, hb4⟩
end Go.Proofs.Ytcjcimdembkbkaa
