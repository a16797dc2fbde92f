/- order's Permutes, Inverse, Apply, walked. -/
import Derived.Test.YtbnjflkafdkcpaaRoP
import Derived.Test.YtbnjflkafdkcpaaRoQ
namespace Go.Proofs.Ytbnjflkafdkcpaa
open Go.RowKit
/-- Numbers as they are told: so many of a list, then noughts. -/
def apV (s : List Int) (k n : Nat) : List Value := (s.take k).map (Value.int .i64) ++ List.replicate (n - k) (.int .i64 0)
theorem apV_zero (s : List Int) (n : Nat) : apV s 0 n = List.replicate n (.int .i64 0) := by simp [apV]
theorem apV_all {s : List Int} {n : Nat} (h : s.length = n) : apV s n n = s.map (Value.int .i64) := by simp [apV, ← h]
theorem apV_set {s : List Int} {k n : Nat} {a : Int} (h : s[k]? = some a) (hk : k < n) : (apV s k n).set k (.int .i64 a) = apV s (k + 1) n := by
  have hl := (List.getElem?_eq_some_iff.1 h).1
  unfold apV
  rw [List.set_append_right _ _ (by rw [List.length_map, List.length_take]; omega), List.length_map, List.length_take, Nat.min_eq_left (by omega), Nat.sub_self]
  obtain ⟨d, hd⟩ : ∃ d, n - k = d + 1 := ⟨n - k - 1, by omega⟩
  rw [hd, show n - (k + 1) = d by omega, List.replicate_succ, List.set_cons_zero, List.take_add_one, h]
  simp
set_option maxRecDepth 100000 in
set_option maxHeartbeats 2000000 in
theorem orPermutes_any (A : Option Addr) (n c : Nat) (o : List Int) (w : World) (hr : Rd w 1 A n (o.map (Value.int .i64))) (hn : n ≤ 100000) :
    Calls Try.prog 16 #[.slice A n c] w fun e w' => e = .returned (.bool (permB o)) ∧ Below w.heap.size w w' := by
  have hl : o.length = n := by simpa using hr.len1
  have HL := Lib.hid hl
  have HR := Lib.hid hr
  clear hl hr
  go_enter Try.func16, Try.ntmps16
  go_wp2_with (first
    | (refine wpList_mkFull rfl _ _ _ rfl (base := w.heap.size) (e := 4) (bytes := 1) (z := .bool false) Try.underlying23 (by kernel_rfl) rfl (n : Int) (n : Int) n rfl rfl rfl rfl (by omega) (by unfold maxLen; omega) (Nat.le_refl _) ?_; intro w1 hown1 hg1)
    | fail)
  have hgn : w.heap.size < w1.heap.size := (hown1.lt w.heap.size rfl).2
  obtain ⟨g, hg⟩ : ∃ g, w.heap.size = g := ⟨_, rfl⟩
  have HM0 : Hid (w1.ownsRow w.heap.size 4 1 (.slice (some ⟨g, 0, none⟩) n n) n (seenL n (o.take 0))) := Lib.hid (by rw [List.take_zero, ← seen_nil, ← hg]; exact hown1)
  have HB0 := Lib.hid (below_make hg1)
  rw [hg]
  clear hown1 hg1
  go_wp2_with fail
  go_loopw [11] (fun i wr => ∃ k : Nat, k ≤ n ∧ i = .int .i64 (k : Int) ∧ okTo o k ∧ wr.ownsRow w.heap.size 4 1 (.slice (some ⟨g, 0, none⟩) n n) n (seenL n (o.take k)) ∧ Below w.heap.size w wr) (fun i _ => n - (intOf i).toNat)
  case atStart => exact ⟨0, Nat.zero_le _, rfl, ⟨by simp, by simp⟩, HM0.out, HB0.out⟩
  case round =>
    obtain ⟨k, hk, rfl, hok, hO, hb⟩ := hrel
    have HOK := Lib.hid hok
    have HO := Lib.hid hO
    have HB := Lib.hid hb
    clear hok hO hb
    by_cases hlt : k < n
    · obtain ⟨x, hx⟩ : ∃ x, o[k]? = some x := ⟨_, List.getElem?_eq_getElem (by rw [HL.out]; exact hlt)⟩
      obtain ⟨ad, rfl, hab, hcell⟩ := (HR.out.below HB.out).at_ hlt
      have cx : wr.cell? (ad.add k) = some (.int .i64 x) := hcell _ (by rw [List.getElem?_map, hx]; rfl)
      have HX := Lib.hid hx
      have hkn : (k : Int) < (n : Int) := by omega
      have hk0 : (0 : Int) ≤ (k : Int) := by omega
      have hk5 : (k : Int) ≤ 100000 := by omega
      clear hx hcell
      by_cases h0 : x < 0
      · have d1 : decide (x < 0) = true := decide_eq_true h0
        have HN := Lib.hid (permB_no HX.out (.inl h0))
        clear h0
        go_wp2
        go_ret
        exact ⟨by rw [HN.out]; rfl, HB.out⟩
      · have d1 : decide (x < 0) = false := decide_eq_false h0
        by_cases h1 : (n : Int) ≤ x
        · have d2 : decide ((n : Int) ≤ x) = true := decide_eq_true h1
          have HN := Lib.hid (permB_no HX.out (.inr (.inl (by rw [HL.out]; exact h1))))
          clear h0
          go_wp2
          go_ret
          exact ⟨by rw [HN.out]; rfl, HB.out⟩
        · have d2 : decide ((n : Int) ≤ x) = false := decide_eq_false h1
          obtain ⟨y, rfl⟩ : ∃ y : Nat, x = (y : Int) := ⟨x.toNat, by omega⟩
          have hyn : y < n := by omega
          have hyn2 : (y : Int) < (n : Int) := by omega
          have hy0 : (0 : Int) ≤ (y : Int) := by omega
          obtain ⟨b, hb⟩ : ∃ b, decide ((y : Int) ∈ o.take k) = b := ⟨_, rfl⟩
          have cy : wr.cell? ⟨g, y, none⟩ = some (.bool b) := by
            rw [HO.out.cellAt y (by omega), seen_at hyn, hb]
          cases b with
          | true =>
            have HN := Lib.hid (permB_no HX.out (.inr (.inr (of_decide_eq_true hb))))
            clear hb h0 h1
            go_wp2
            go_ret
            exact ⟨by rw [HN.out]; rfl, HB.out⟩
          | false =>
            have HN := Lib.hid (okTo_next HOK.out HX.out (by omega) (by rw [HL.out]; exact hyn2) (of_decide_eq_false hb))
            have HST := Lib.hid (show seenL n (o.take (k + 1)) = (seenL n (o.take k)).set y (.bool true) by rw [seen_set hyn, List.take_add_one, HX.out]; rfl)
            have fy := (own_slot HO.out (j := y) (by omega)).2
            clear hb h0 h1
            go_wp2
            go_roundw
            case rel => exact ⟨k + 1, by omega, by go_num, HN.out, by rw [HST.out]; exact (HO.out.stored y (.bool true)).1, HB.out.setCell (p := ⟨g, y, none⟩) (HO.out.lt g rfl).1 _⟩
            case measure => simp [intOf]; omega
    · obtain rfl : k = n := by omega
      have HT := Lib.hid (permB_yes (by rw [HL.out]; exact HOK.out))
      go_wp2
      go_ret
      exact ⟨by rw [HT.out]; rfl, HB.out⟩
set_option maxRecDepth 100000 in
set_option maxHeartbeats 2000000 in
theorem orInverse_any (A : Option Addr) (n c : Nat) (o : List Int) (w : World) (hr : Rd w 1 A n (o.map (Value.int .i64))) (hn : n ≤ 100000) :
    Calls Try.prog 24 #[.slice A n c] w fun e w' => ∃ v, e = .returned (.tuple #[v, .int .i64 (invE o).2]) ∧ w'.ownsRow w.heap.size 3 1 v (invE o).1.length ((invE o).1.map (Value.int .i64)) ∧ Below w.heap.size w w' := by
  have hl : o.length = n := by simpa using hr.len1
  have HL := Lib.hid hl
  have HR := Lib.hid hr
  have HP := Lib.hid (orPermutes_any A n c o w hr hn)
  clear hl hr
  obtain ⟨b, hb⟩ : ∃ b, permB o = b := ⟨_, rfl⟩
  rw [hb] at HP
  cases b with
  | false =>
    have HE := Lib.hid (show invE o = ([], 13) by unfold invE; rw [if_neg (by rw [hb]; decide)])
    rw [HE.out]
    clear hb HE
    go_enter Try.func24, Try.ntmps24
    go_wp2_with (first
      | (go_at_call 16; refine HP.out.mono ?_; rintro e w1 ⟨rfl, hb1⟩)
      | fail)
    go_ret2
    exact ⟨_, rfl, ⟨rfl, .inl ⟨rfl, rfl⟩⟩, hb1⟩
  | true =>
    have HPB := Lib.hid hb
    have HE := Lib.hid (show invE o = ((invF (natL o)).map fun i => ((i : Nat) : Int), 0) by unfold invE; rw [if_pos hb])
    have HLE := Lib.hid (show ((invF (natL o)).map fun i => ((i : Nat) : Int)).length = n by rw [List.length_map, invF_len, natL_len, HL.out])
    rw [HE.out]
    clear hb HE
    go_enter Try.func24, Try.ntmps24
    go_wp2_with (first
      | (go_at_call 16; refine HP.out.mono ?_; rintro e w0 ⟨rfl, hb0⟩)
      | (refine wpList_mkFull rfl _ _ _ rfl (base := w0.heap.size) (e := 3) (bytes := 8) (z := .int .i64 0) Try.underlying22 (by kernel_rfl) rfl (n : Int) (n : Int) n rfl rfl rfl rfl (by omega) (by unfold maxLen; omega) (Nat.le_refl _) ?_; intro w1 hown1 hg1)
      | fail)
    obtain ⟨g, hg⟩ : ∃ g, w0.heap.size = g := ⟨_, rfl⟩
    have HM0 : Hid (w1.ownsRow w.heap.size 3 1 (.slice (some ⟨g, 0, none⟩) n n) n ((List.replicate n (0 : Int)).map (Value.int .i64))) := Lib.hid (by rw [List.map_replicate, ← hg]; exact own_base hown1 hb0.size)
    have HB0 := Lib.hid (hb0.trans ((below_make hg1).mono hb0.size))
    rw [hg]
    clear hown1 hg1 hb0 hg
    go_wp2_with fail
    go_loopw [15] (fun i wr => ∃ (k : Nat) (zs : List Int), k ≤ n ∧ i = .int .i64 (k : Int) ∧ zs.length = n ∧ (∀ j x : Nat, j < k → (natL o)[j]? = some x → zs[x]? = some (j : Int)) ∧ wr.ownsRow w.heap.size 3 1 (.slice (some ⟨g, 0, none⟩) n n) n (zs.map (Value.int .i64)) ∧ Below w.heap.size w wr) (fun i _ => n - (intOf i).toNat)
    case atStart => exact ⟨0, _, Nat.zero_le _, rfl, List.length_replicate .., fun j x h => by omega, HM0.out, HB0.out⟩
    case round =>
      obtain ⟨k, zs, hk, rfl, hzl, hz, hO, hb⟩ := hrel
      have HZL := Lib.hid hzl
      have HZ := Lib.hid hz
      have HO := Lib.hid hO
      have HB := Lib.hid hb
      clear hzl hz hO hb
      by_cases hlt : k < n
      · obtain ⟨x, hx⟩ : ∃ x, o[k]? = some x := ⟨_, List.getElem?_eq_getElem (by rw [HL.out]; exact hlt)⟩
        obtain ⟨ad, rfl, hab, hcell⟩ := (HR.out.below HB.out).at_ hlt
        have cx : wr.cell? (ad.add k) = some (.int .i64 x) := hcell _ (by rw [List.getElem?_map, hx]; rfl)
        obtain ⟨y, rfl, hyl, hny⟩ := natL_at HPB.out hx
        rw [HL.out] at hyl
        have hkn : (k : Int) < (n : Int) := by omega
        have hk0 : (0 : Int) ≤ (k : Int) := by omega
        have hk5 : (k : Int) ≤ 100000 := by omega
        have hyn : (y : Int) < (n : Int) := by omega
        have hy0 : (0 : Int) ≤ (y : Int) := by omega
        obtain ⟨⟨u, cu⟩, fu⟩ := own_slot HO.out (j := y) (by omega)
        have HN := Lib.hid (show ∀ j x : Nat, j < k + 1 → (natL o)[j]? = some x → (zs.set y (k : Int))[x]? = some (j : Int) by
          intro j x hj hjx
          by_cases hjk : j = k
          · rw [hjk] at hjx ⊢
            rw [hny] at hjx
            obtain rfl := Option.some.inj hjx
            rw [List.getElem?_set_self (by rw [HZL.out]; exact hyl)]
          · have hne : y ≠ x := by
              intro e
              subst e
              have h1 := posF_at (perm_nodup (natL_perm HPB.out)) hjx
              have h2 := posF_at (perm_nodup (natL_perm HPB.out)) hny
              omega
            rw [List.getElem?_set_ne hne]
            exact HZ.out j x (by omega) hjx)
        have HO2 := Lib.hid ((HO.out.stored y (.int .i64 (k : Int))).1)
        have HB2 := Lib.hid (HB.out.setCell (p := ⟨g, y, none⟩) (HO.out.lt g rfl).1 (.int .i64 (k : Int)))
        clear hx hcell hny
        go_wp2
        go_roundw
        case rel => exact ⟨k + 1, zs.set y (k : Int), by omega, by go_num, by rw [List.length_set]; exact HZL.out, HN.out, by rw [List.map_set]; exact HO2.out, HB2.out⟩
        case measure => simp [intOf]; omega
      · obtain rfl : k = n := by omega
        have HT := Lib.hid (inv_end HPB.out (by rw [HZL.out, HL.out]) (fun j x hx => HZ.out j x (by have := (List.getElem?_eq_some_iff.1 hx).1; rw [natL_len, HL.out] at this; exact this) hx))
        rw [HT.out] at HO
        go_wp2
        go_ret2
        exact ⟨_, rfl, by rw [HLE.out]; exact HO.out, HB.out⟩
end Go.Proofs.Ytbnjflkafdkcpaa
