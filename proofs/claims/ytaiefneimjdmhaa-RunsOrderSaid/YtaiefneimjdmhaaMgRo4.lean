/- Texts of one claim, one behind the other. -/
import Derived.Test.YtaiefneimjdmhaaMgRo1
import Derived.Test.YtaiefneimjdmhaaMgRo2
/- The reference's Permutes, Inverse, Apply, walked. -/
namespace Go.Proofs.Ytaiefneimjdmhaa
open Go.RowKit

/-- Whether numbers are an order: within range, none twice. -/
def permB (o : List Int) : Bool := decide ((∀ x ∈ o, 0 ≤ x ∧ x < o.length) ∧ o.Nodup)
def seenL (n : Nat) (o : List Int) : List Value := (List.range n).map fun i => .bool (decide (((i : Nat) : Int) ∈ o))
theorem seen_nil (n : Nat) : List.replicate n (Value.bool false) = seenL n [] := by
  apply List.ext_getElem
  · simp [seenL]
  · intro i h1 h2
    simp [seenL]
theorem seen_at {n : Nat} {o : List Int} {x : Nat} (h : x < n) : (seenL n o)[x]? = some (.bool (decide ((x : Int) ∈ o))) := by
  unfold seenL
  rw [List.getElem?_map, List.getElem?_range h]
  rfl
theorem seen_set {n : Nat} {o : List Int} {x : Nat} (h : x < n) : (seenL n o).set x (.bool true) = seenL n (o ++ [(x : Int)]) := by
  apply List.ext_getElem?
  intro i
  by_cases hi : i < n
  · rw [List.getElem?_set, seen_at hi, seen_at hi]
    by_cases e : x = i
    · subst e
      rw [if_pos rfl, if_pos (by simp [seenL]; exact h)]
      simp
    · rw [if_neg e]
      congr 2
      have : (i : Int) ≠ (x : Int) := by omega
      simp [this]
  · rw [List.getElem?_eq_none (by simp [seenL]; omega), List.getElem?_eq_none (by simp [seenL]; omega)]
/-- What holds of the first numbers while they are looked at. -/
def okTo (o : List Int) (k : Nat) : Prop := (∀ x ∈ o.take k, 0 ≤ x ∧ x < o.length) ∧ (o.take k).Nodup
theorem okTo_next {o : List Int} {k : Nat} {x : Int} (h : okTo o k) (hx : o[k]? = some x) (h0 : 0 ≤ x) (h1 : x < o.length) (hn : x ∉ o.take k) : okTo o (k + 1) := by
  unfold okTo
  rw [List.take_add_one, hx]
  refine ⟨fun y hy => ?_, ?_⟩
  · simp at hy
    rcases hy with hy | rfl
    · exact h.1 y hy
    · exact ⟨h0, h1⟩
  · simp only [Option.toList_some]
    rw [List.nodup_append]
    exact ⟨h.2, by simp, fun a ha b hb => by
      simp at hb
      subst hb
      intro e
      subst e
      exact hn ha⟩
theorem permB_no {o : List Int} {k : Nat} {x : Int} (hx : o[k]? = some x) (h : x < 0 ∨ (o.length : Int) ≤ x ∨ x ∈ o.take k) : permB o = false := by
  apply decide_eq_false
  rintro ⟨h1, h2⟩
  have := h1 x (List.mem_of_getElem? hx)
  rcases h with h | h | h
  · omega
  · omega
  · have hs : o = o.take (k + 1) ++ o.drop (k + 1) := (List.take_append_drop _ _).symm
    rw [hs, List.take_add_one, hx, List.nodup_append] at h2
    have h3 := h2.1
    simp only [Option.toList_some] at h3
    rw [List.nodup_append] at h3
    exact h3.2.2 x h x (by simp) rfl
theorem permB_yes {o : List Int} (h : okTo o o.length) : permB o = true := by
  unfold okTo at h
  rw [List.take_length] at h
  exact decide_eq_true h
set_option maxRecDepth 100000 in
set_option maxHeartbeats 2000000 in
theorem roPermutes_any (A : Option Addr) (n c : Nat) (o : List Int) (w : World) (hr : Rd w 1 A n (o.map (Value.int .i64))) (hn : n ≤ 100000) :
    Calls Try.prog 19 #[.slice A n c] w fun e w' => e = .returned (.bool (permB o)) ∧ Below w.heap.size w w' := by
  have hl : o.length = n := by simpa using hr.len1
  have HL := Lib.hid hl
  have HR := Lib.hid hr
  clear hl hr
  go_enter Try.func19, Try.ntmps19
  go_wp2_with (first
    | (refine wpList_mkFull rfl _ _ _ rfl (base := w.heap.size) (e := 4) (bytes := 1) (z := .bool false) Try.underlying55 (by kernel_rfl) rfl (n : Int) (n : Int) n rfl rfl rfl rfl (by omega) (by unfold maxLen; omega) (Nat.le_refl _) ?_; intro w1 hown1 hg1)
    | fail)
  have hgn : w.heap.size < w1.heap.size := (hown1.lt w.heap.size rfl).2
  obtain ⟨g, hg⟩ : ∃ g, w.heap.size = g := ⟨_, rfl⟩
  have HM0 : Hid (w1.ownsRow w.heap.size 4 1 (.slice (some ⟨g, 0, none⟩) n n) n (seenL n (o.take 0))) := Lib.hid (by rw [List.take_zero, ← seen_nil, ← hg]; exact hown1)
  have HB0 := Lib.hid (below_make hg1)
  rw [hg]
  clear hown1 hg1
  go_wp2_with fail
  go_loopw [4] (fun i wr => ∃ k : Nat, k ≤ n ∧ i = .int .i64 (k : Int) ∧ okTo o k ∧ wr.ownsRow w.heap.size 4 1 (.slice (some ⟨g, 0, none⟩) n n) n (seenL n (o.take k)) ∧ Below w.heap.size w wr) (fun i _ => n - (intOf i).toNat)
  case atStart => exact ⟨0, Nat.zero_le _, rfl, ⟨by simp, by simp⟩, HM0.out, HB0.out⟩
  case round =>
    obtain ⟨k, hk, rfl, hok, hO, hb⟩ := hrel
    have HOK := Lib.hid hok
    have HO := Lib.hid hO
    have HB := Lib.hid hb
    clear hok hO hb
    by_cases hlt : k < n
    · obtain ⟨x, hx⟩ : ∃ x, o[k]? = some x := ⟨_, List.getElem?_eq_getElem (by rw [HL.out]; exact hlt)⟩
      obtain ⟨ad, rfl, hab, hcell⟩ := (HR.out.below HB.out).at_ hlt
      have cx : wr.cell? (ad.add k) = some (.int .i64 x) := hcell _ (by rw [List.getElem?_map, hx]; rfl)
      have HX := Lib.hid hx
      have hkn : (k : Int) < (n : Int) := by omega
      have hk0 : (0 : Int) ≤ (k : Int) := by omega
      have hk5 : (k : Int) ≤ 100000 := by omega
      clear hx hcell
      by_cases h0 : x < 0
      · have d1 : decide (x < 0) = true := decide_eq_true h0
        have HN := Lib.hid (permB_no HX.out (.inl h0))
        clear h0
        go_wp2
        go_ret
        exact ⟨by rw [HN.out]; rfl, HB.out⟩
      · have d1 : decide (x < 0) = false := decide_eq_false h0
        by_cases h1 : (n : Int) ≤ x
        · have d2 : decide ((n : Int) ≤ x) = true := decide_eq_true h1
          have HN := Lib.hid (permB_no HX.out (.inr (.inl (by rw [HL.out]; exact h1))))
          clear h0
          go_wp2
          go_ret
          exact ⟨by rw [HN.out]; rfl, HB.out⟩
        · have d2 : decide ((n : Int) ≤ x) = false := decide_eq_false h1
          obtain ⟨y, rfl⟩ : ∃ y : Nat, x = (y : Int) := ⟨x.toNat, by omega⟩
          have hyn : y < n := by omega
          have hyn2 : (y : Int) < (n : Int) := by omega
          have hy0 : (0 : Int) ≤ (y : Int) := by omega
          obtain ⟨b, hb⟩ : ∃ b, decide ((y : Int) ∈ o.take k) = b := ⟨_, rfl⟩
          have cy : wr.cell? ⟨g, y, none⟩ = some (.bool b) := by
            rw [HO.out.cellAt y (by omega), seen_at hyn, hb]
          cases b with
          | true =>
            have HN := Lib.hid (permB_no HX.out (.inr (.inr (of_decide_eq_true hb))))
            clear hb h0 h1
            go_wp2
            go_ret
            exact ⟨by rw [HN.out]; rfl, HB.out⟩
          | false =>
            have HN := Lib.hid (okTo_next HOK.out HX.out (by omega) (by rw [HL.out]; exact hyn2) (of_decide_eq_false hb))
            have HST := Lib.hid (show seenL n (o.take (k + 1)) = (seenL n (o.take k)).set y (.bool true) by rw [seen_set hyn, List.take_add_one, HX.out]; rfl)
            have fy := (own_slot HO.out (j := y) (by omega)).2
            clear hb h0 h1
            go_wp2
            go_roundw
            case rel => exact ⟨k + 1, by omega, by go_num, HN.out, by rw [HST.out]; exact (HO.out.stored y (.bool true)).1, HB.out.setCell (p := ⟨g, y, none⟩) (HO.out.lt g rfl).1 _⟩
            case measure => simp [intOf]; omega
    · obtain rfl : k = n := by omega
      have HT := Lib.hid (permB_yes (by rw [HL.out]; exact HOK.out))
      go_wp2
      go_ret
      exact ⟨by rw [HT.out]; rfl, HB.out⟩
end Go.Proofs.Ytaiefneimjdmhaa
/- The reference's Inverse, Apply, walked. -/
namespace Go.Proofs.Ytaiefneimjdmhaa
open Go.RowKit

theorem nodup_small : ∀ {n : Nat} {l : List Nat}, l.Nodup → (∀ x ∈ l, x < n) → l.length ≤ n
  | 0, [], _, _ => Nat.le_refl 0
  | 0, x :: l, _, h => absurd (h x (by simp)) (by omega)
  | n + 1, l, hn, h => by
    have h1 := nodup_small (n := n) (l := l.erase n) (hn.erase n) (fun x hx => by
      have := (hn.mem_erase_iff).1 hx
      have := h x this.2
      omega)
    have : l.length ≤ (l.erase n).length + 1 := by
      rw [List.length_erase]
      split <;> omega
    omega
theorem perm_of {l : List Nat} (hn : l.Nodup) (h : ∀ x ∈ l, x < l.length) : l.Perm (List.range l.length) := by
  refine (List.perm_ext_iff_of_nodup hn List.nodup_range).2 fun x => ?_
  rw [List.mem_range]
  refine ⟨h x, fun hx => ?_⟩
  refine Decidable.byContradiction fun hc => ?_
  have := nodup_small (n := l.length) (l := x :: l) (List.nodup_cons.2 ⟨hc, hn⟩) (fun y hy => by
    rcases List.mem_cons.1 hy with rfl | hy
    · exact hx
    · exact h y hy)
  simp at this
  omega
def natL (o : List Int) : List Nat := o.map Int.toNat
theorem natL_len (o : List Int) : (natL o).length = o.length := by simp [natL]
theorem natL_perm {o : List Int} (h : permB o = true) : (natL o).Perm (List.range o.length) := by
  have h := of_decide_eq_true h
  have := perm_of (l := natL o) (by
    unfold natL
    rw [List.Nodup, List.pairwise_map]
    exact List.Pairwise.imp_of_mem (fun {a b} ha hb hne e => hne (by
      have := h.1 a ha
      have := h.1 b hb
      omega)) h.2) (fun x hx => by
    rw [natL_len]
    obtain ⟨y, hy, rfl⟩ := List.mem_map.1 hx
    have := h.1 y hy
    omega)
  rwa [natL_len] at this
theorem natL_at {o : List Int} {k : Nat} {x : Int} (h : permB o = true) (hx : o[k]? = some x) : ∃ y : Nat, x = (y : Int) ∧ y < o.length ∧ (natL o)[k]? = some y := by
  have h := (of_decide_eq_true h).1 x (List.mem_of_getElem? hx)
  exact ⟨x.toNat, by omega, by omega, by unfold natL; rw [List.getElem?_map, hx]; rfl⟩
/-- Where each place is seen; what is wrong. -/
def invE (o : List Int) : List Int × Int := if permB o = true then ((invF (natL o)).map fun i => ((i : Nat) : Int), 0) else ([], 13)
def appE (o l : List Int) : List Int × Int := if permB o = true ∧ o.length = l.length then ((natL o).map fun i => l.getD i 0, 0) else ([], 13)
theorem inv_end {o zs : List Int} (h : permB o = true) (hl : zs.length = o.length) (hz : ∀ (j x : Nat), (natL o)[j]? = some x → zs[x]? = some (j : Int)) : zs = (invF (natL o)).map fun i => ((i : Nat) : Int) := by
  have hp := natL_perm h
  apply List.ext_getElem?
  intro x
  by_cases hx : x < o.length
  · have hx2 : x < (invF (natL o)).length := by rw [invF_len, natL_len]; exact hx
    have e := at_inv hp (List.getElem?_eq_getElem hx2)
    rw [hz _ _ e, List.getElem?_map, List.getElem?_eq_getElem hx2]
    rfl
  · rw [List.getElem?_eq_none (by omega), List.getElem?_eq_none (by rw [List.length_map, invF_len, natL_len]; omega)]
set_option maxRecDepth 100000 in
set_option maxHeartbeats 2000000 in
theorem roInverse_any (A : Option Addr) (n c : Nat) (o : List Int) (w : World) (hr : Rd w 1 A n (o.map (Value.int .i64))) (hn : n ≤ 100000) :
    Calls Try.prog 16 #[.slice A n c] w fun e w' => ∃ v, e = .returned (.tuple #[v, .int .i64 (invE o).2]) ∧ w'.ownsRow w.heap.size 3 1 v (invE o).1.length ((invE o).1.map (Value.int .i64)) ∧ Below w.heap.size w w' := by
  have hl : o.length = n := by simpa using hr.len1
  have HL := Lib.hid hl
  have HR := Lib.hid hr
  have HP := Lib.hid (roPermutes_any A n c o w hr hn)
  clear hl hr
  obtain ⟨b, hb⟩ : ∃ b, permB o = b := ⟨_, rfl⟩
  rw [hb] at HP
  cases b with
  | false =>
    have HE := Lib.hid (show invE o = ([], 13) by unfold invE; rw [if_neg (by rw [hb]; decide)])
    rw [HE.out]
    clear hb HE
    go_enter Try.func16, Try.ntmps16
    go_wp2_with (first
      | (go_at_call 19; refine HP.out.mono ?_; rintro e w1 ⟨rfl, hb1⟩)
      | fail)
    go_ret2
    exact ⟨_, rfl, ⟨rfl, .inl ⟨rfl, rfl⟩⟩, hb1⟩
  | true =>
    have HPB := Lib.hid hb
    have HE := Lib.hid (show invE o = ((invF (natL o)).map fun i => ((i : Nat) : Int), 0) by unfold invE; rw [if_pos hb])
    have HLE := Lib.hid (show ((invF (natL o)).map fun i => ((i : Nat) : Int)).length = n by rw [List.length_map, invF_len, natL_len, HL.out])
    rw [HE.out]
    clear hb HE
    go_enter Try.func16, Try.ntmps16
    go_wp2_with (first
      | (go_at_call 19; refine HP.out.mono ?_; rintro e w0 ⟨rfl, hb0⟩)
      | (refine wpList_mkFull rfl _ _ _ rfl (base := w0.heap.size) (e := 3) (bytes := 8) (z := .int .i64 0) Try.underlying22 (by kernel_rfl) rfl (n : Int) (n : Int) n rfl rfl rfl rfl (by omega) (by unfold maxLen; omega) (Nat.le_refl _) ?_; intro w1 hown1 hg1)
      | fail)
    obtain ⟨g, hg⟩ : ∃ g, w0.heap.size = g := ⟨_, rfl⟩
    have HM0 : Hid (w1.ownsRow w.heap.size 3 1 (.slice (some ⟨g, 0, none⟩) n n) n ((List.replicate n (0 : Int)).map (Value.int .i64))) := Lib.hid (by rw [List.map_replicate, ← hg]; exact own_base hown1 hb0.size)
    have HB0 := Lib.hid (hb0.trans ((below_make hg1).mono hb0.size))
    rw [hg]
    clear hown1 hg1 hb0 hg
    go_wp2_with fail
    go_loopw [5] (fun i wr => ∃ (k : Nat) (zs : List Int), k ≤ n ∧ i = .int .i64 (k : Int) ∧ zs.length = n ∧ (∀ j x : Nat, j < k → (natL o)[j]? = some x → zs[x]? = some (j : Int)) ∧ wr.ownsRow w.heap.size 3 1 (.slice (some ⟨g, 0, none⟩) n n) n (zs.map (Value.int .i64)) ∧ Below w.heap.size w wr) (fun i _ => n - (intOf i).toNat)
    case atStart => exact ⟨0, _, Nat.zero_le _, rfl, List.length_replicate .., fun j x h => by omega, HM0.out, HB0.out⟩
    case round =>
      obtain ⟨k, zs, hk, rfl, hzl, hz, hO, hb⟩ := hrel
      have HZL := Lib.hid hzl
      have HZ := Lib.hid hz
      have HO := Lib.hid hO
      have HB := Lib.hid hb
      clear hzl hz hO hb
      by_cases hlt : k < n
      · obtain ⟨x, hx⟩ : ∃ x, o[k]? = some x := ⟨_, List.getElem?_eq_getElem (by rw [HL.out]; exact hlt)⟩
        obtain ⟨ad, rfl, hab, hcell⟩ := (HR.out.below HB.out).at_ hlt
        have cx : wr.cell? (ad.add k) = some (.int .i64 x) := hcell _ (by rw [List.getElem?_map, hx]; rfl)
        obtain ⟨y, rfl, hyl, hny⟩ := natL_at HPB.out hx
        rw [HL.out] at hyl
        have hkn : (k : Int) < (n : Int) := by omega
        have hk0 : (0 : Int) ≤ (k : Int) := by omega
        have hk5 : (k : Int) ≤ 100000 := by omega
        have hyn : (y : Int) < (n : Int) := by omega
        have hy0 : (0 : Int) ≤ (y : Int) := by omega
        obtain ⟨⟨u, cu⟩, fu⟩ := own_slot HO.out (j := y) (by omega)
        have HN := Lib.hid (show ∀ j x : Nat, j < k + 1 → (natL o)[j]? = some x → (zs.set y (k : Int))[x]? = some (j : Int) by
          intro j x hj hjx
          by_cases hjk : j = k
          · rw [hjk] at hjx ⊢
            rw [hny] at hjx
            obtain rfl := Option.some.inj hjx
            rw [List.getElem?_set_self (by rw [HZL.out]; exact hyl)]
          · have hne : y ≠ x := by
              intro e
              subst e
              have h1 := posF_at (perm_nodup (natL_perm HPB.out)) hjx
              have h2 := posF_at (perm_nodup (natL_perm HPB.out)) hny
              omega
            rw [List.getElem?_set_ne hne]
            exact HZ.out j x (by omega) hjx)
        have HO2 := Lib.hid ((HO.out.stored y (.int .i64 (k : Int))).1)
        have HB2 := Lib.hid (HB.out.setCell (p := ⟨g, y, none⟩) (HO.out.lt g rfl).1 (.int .i64 (k : Int)))
        clear hx hcell hny
        go_wp2
        go_roundw
        case rel => exact ⟨k + 1, zs.set y (k : Int), by omega, by go_num, by rw [List.length_set]; exact HZL.out, HN.out, by rw [List.map_set]; exact HO2.out, HB2.out⟩
        case measure => simp [intOf]; omega
      · obtain rfl : k = n := by omega
        have HT := Lib.hid (inv_end HPB.out (by rw [HZL.out, HL.out]) (fun j x hx => HZ.out j x (by have := (List.getElem?_eq_some_iff.1 hx).1; rw [natL_len, HL.out] at this; exact this) hx))
        rw [HT.out] at HO
        go_wp2
        go_ret2
        exact ⟨_, rfl, by rw [HLE.out]; exact HO.out, HB.out⟩
set_option maxRecDepth 100000 in
set_option maxHeartbeats 2000000 in
theorem roApply_any (A B : Option Addr) (n c m d : Nat) (o l : List Int) (w : World) (hr : Rd w 1 A n (o.map (Value.int .i64))) (hs : Rd w 1 B m (l.map (Value.int .i64))) (hn : n ≤ 100000) (hm : m ≤ 100000) :
    Calls Try.prog 18 #[.slice A n c, .slice B m d] w fun e w' => ∃ v, e = .returned (.tuple #[v, .int .i64 (appE o l).2]) ∧ w'.ownsRow w.heap.size 3 1 v (appE o l).1.length ((appE o l).1.map (Value.int .i64)) ∧ Below w.heap.size w w' := by
  have hl : o.length = n := by simpa using hr.len1
  have hl2 : l.length = m := by simpa using hs.len1
  have HL := Lib.hid hl
  have HL2 := Lib.hid hl2
  have HR := Lib.hid hr
  have HS := Lib.hid hs
  have HP := Lib.hid (roPermutes_any A n c o w hr hn)
  clear hl hl2 hr hs
  obtain ⟨b, hb⟩ : ∃ b, permB o = b := ⟨_, rfl⟩
  rw [hb] at HP
  cases b with
  | false =>
    have HE := Lib.hid (show appE o l = ([], 13) by unfold appE; rw [if_neg (by rw [hb]; simp)])
    rw [HE.out]
    clear hb HE
    go_enter Try.func18, Try.ntmps18
    go_wp2_with (first
      | (go_at_call 19; refine HP.out.mono ?_; rintro e w1 ⟨rfl, hb1⟩)
      | fail)
    go_ret2
    exact ⟨_, rfl, ⟨rfl, .inl ⟨rfl, rfl⟩⟩, hb1⟩
  | true =>
    by_cases hnm : n = m
    · subst hnm
      have HPB := Lib.hid hb
      have HE := Lib.hid (show appE o l = ((natL o).map fun i => l.getD i 0, 0) by unfold appE; rw [if_pos ⟨hb, by rw [HL.out, HL2.out]⟩])
      have HLE := Lib.hid (show ((natL o).map fun i => l.getD i 0).length = n by rw [List.length_map, natL_len, HL.out])
      rw [HE.out]
      clear hb HE
      go_enter Try.func18, Try.ntmps18
      go_wp2_with (first
        | (go_at_call 19; refine HP.out.mono ?_; rintro e w0 ⟨rfl, hb0⟩)
        | fail)
      go_loopw [6, 7] (fun v i wr => ∃ k : Nat, k ≤ n ∧ i = .int .i64 (k : Int) ∧ wr.ownsRow w.heap.size 3 1 v k ((((natL o).map fun i => l.getD i 0).take k).map (Value.int .i64)) ∧ Below w.heap.size w wr) (fun _ i _ => n - (intOf i).toNat)
      case atStart => exact ⟨0, Nat.zero_le _, rfl, ⟨rfl, .inl ⟨rfl, rfl⟩⟩, hb0⟩
      case round =>
        obtain ⟨k, hk, rfl, hO, hb⟩ := hrel
        have HO := Lib.hid hO
        have HB := Lib.hid hb
        clear hO hb
        by_cases hlt : k < n
        · obtain ⟨x, hx⟩ : ∃ x, o[k]? = some x := ⟨_, List.getElem?_eq_getElem (by rw [HL.out]; exact hlt)⟩
          obtain ⟨ad, rfl, hab, hcell⟩ := (HR.out.below HB.out).at_ hlt
          have cx : wr.cell? (ad.add k) = some (.int .i64 x) := hcell _ (by rw [List.getElem?_map, hx]; rfl)
          obtain ⟨y, rfl, hyl, hny⟩ := natL_at HPB.out hx
          rw [HL.out] at hyl
          obtain ⟨z, hz⟩ : ∃ z, l[y]? = some z := ⟨_, List.getElem?_eq_getElem (by rw [HL2.out]; exact hyl)⟩
          obtain ⟨bd, rfl, hbb, hbcell⟩ := (HS.out.below HB.out).at_ hyl
          have cz : wr.cell? (bd.add y) = some (.int .i64 z) := hbcell _ (by rw [List.getElem?_map, hz]; rfl)
          have hkn : (k : Int) < (n : Int) := by omega
          have hk0 : (0 : Int) ≤ (k : Int) := by omega
          have hk5 : (k : Int) ≤ 100000 := by omega
          have hyn : (y : Int) < (n : Int) := by omega
          have hy0 : (0 : Int) ≤ (y : Int) := by omega
          have HN := Lib.hid (show ((natL o).map fun i => l.getD i 0).take (k + 1) = ((natL o).map fun i => l.getD i 0).take k ++ [z] by
            rw [List.take_add_one, List.getElem?_map, hny]
            simp only [Option.map_some, Option.toList_some]
            rw [List.getD_eq_getElem?_getD, hz]
            rfl)
          have hsz := HB.out.size
          clear hx hcell hny hz hbcell
          go_wp2_with (first
            | (at_builtin; refine wpList_app rfl _ _ _ rfl intSliceM (by decide) _ k _ rfl (HO.out.alloc _) ⟨wr.heap.size, 0, none⟩ 1 1 [.int .i64 z] rfl rfl (cells_new wr [.int .i64 z] 3) (oneInt _ _) (by omega) (by unfold maxLen; omega) (Nat.le_trans hsz (by simp)) ?_; intro v1 w3 hown3 hg3 hat3)
            | fail)
          have HO3 : Hid (w3.ownsRow w.heap.size 3 1 v1 (k + 1) ((((natL o).map fun i => l.getD i 0).take (k + 1)).map (Value.int .i64))) := Lib.hid (by rw [HN.out, List.map_append]; exact hown3)
          have HB3 := Lib.hid (below_app (HB.out.alloc hsz _) hg3 (HO.out.alloc _) (Nat.le_trans hsz (by simp)))
          clear hown3 hg3 hat3
          go_roundw
          case rel => exact ⟨k + 1, by omega, by go_num, HO3.out, HB3.out⟩
          case measure => simp [intOf]; omega
        · obtain rfl : k = n := by omega
          have HT := Lib.hid (show ((natL o).map fun i => l.getD i 0).take k = (natL o).map fun i => l.getD i 0 from List.take_of_length_le (by rw [HLE.out]; exact Nat.le_refl _))
          rw [HT.out] at HO
          go_wp2
          go_ret2
          exact ⟨_, rfl, by rw [HLE.out]; exact HO.out, HB.out⟩
    · have HE := Lib.hid (show appE o l = ([], 13) by unfold appE; rw [if_neg (by rw [HL.out, HL2.out]; exact fun h => hnm h.2)])
      rw [HE.out]
      have g : ((n : Int) != (m : Int)) = true := by simp; omega
      clear hb HE
      go_enter Try.func18, Try.ntmps18
      go_wp2_with (first
        | (go_at_call 19; refine HP.out.mono ?_; rintro e w1 ⟨rfl, hb1⟩)
        | fail)
      go_ret2
      exact ⟨_, rfl, ⟨rfl, .inl ⟨rfl, rfl⟩⟩, hb1⟩
end Go.Proofs.Ytaiefneimjdmhaa
/- order's Permutes, Inverse, Apply, walked. -/
namespace Go.Proofs.Ytaiefneimjdmhaa
open Go.RowKit

/-- Numbers as they are told: so many of a list, then noughts. -/
def apV (s : List Int) (k n : Nat) : List Value := (s.take k).map (Value.int .i64) ++ List.replicate (n - k) (.int .i64 0)
theorem apV_zero (s : List Int) (n : Nat) : apV s 0 n = List.replicate n (.int .i64 0) := by simp [apV]
theorem apV_all {s : List Int} {n : Nat} (h : s.length = n) : apV s n n = s.map (Value.int .i64) := by simp [apV, ← h]
theorem apV_set {s : List Int} {k n : Nat} {a : Int} (h : s[k]? = some a) (hk : k < n) : (apV s k n).set k (.int .i64 a) = apV s (k + 1) n := by
  have hl := (List.getElem?_eq_some_iff.1 h).1
  unfold apV
  rw [List.set_append_right _ _ (by rw [List.length_map, List.length_take]; omega), List.length_map, List.length_take, Nat.min_eq_left (by omega), Nat.sub_self]
  obtain ⟨d, hd⟩ : ∃ d, n - k = d + 1 := ⟨n - k - 1, by omega⟩
  rw [hd, show n - (k + 1) = d by omega, List.replicate_succ, List.set_cons_zero, List.take_add_one, h]
  simp
set_option maxRecDepth 100000 in
set_option maxHeartbeats 2000000 in
theorem orPermutes_any (A : Option Addr) (n c : Nat) (o : List Int) (w : World) (hr : Rd w 1 A n (o.map (Value.int .i64))) (hn : n ≤ 100000) :
    Calls Try.prog 14 #[.slice A n c] w fun e w' => e = .returned (.bool (permB o)) ∧ Below w.heap.size w w' := by
  have hl : o.length = n := by simpa using hr.len1
  have HL := Lib.hid hl
  have HR := Lib.hid hr
  clear hl hr
  go_enter Try.func14, Try.ntmps14
  go_wp2_with (first
    | (refine wpList_mkFull rfl _ _ _ rfl (base := w.heap.size) (e := 4) (bytes := 1) (z := .bool false) Try.underlying55 (by kernel_rfl) rfl (n : Int) (n : Int) n rfl rfl rfl rfl (by omega) (by unfold maxLen; omega) (Nat.le_refl _) ?_; intro w1 hown1 hg1)
    | fail)
  have hgn : w.heap.size < w1.heap.size := (hown1.lt w.heap.size rfl).2
  obtain ⟨g, hg⟩ : ∃ g, w.heap.size = g := ⟨_, rfl⟩
  have HM0 : Hid (w1.ownsRow w.heap.size 4 1 (.slice (some ⟨g, 0, none⟩) n n) n (seenL n (o.take 0))) := Lib.hid (by rw [List.take_zero, ← seen_nil, ← hg]; exact hown1)
  have HB0 := Lib.hid (below_make hg1)
  rw [hg]
  clear hown1 hg1
  go_wp2_with fail
  go_loopw [11] (fun i wr => ∃ k : Nat, k ≤ n ∧ i = .int .i64 (k : Int) ∧ okTo o k ∧ wr.ownsRow w.heap.size 4 1 (.slice (some ⟨g, 0, none⟩) n n) n (seenL n (o.take k)) ∧ Below w.heap.size w wr) (fun i _ => n - (intOf i).toNat)
  case atStart => exact ⟨0, Nat.zero_le _, rfl, ⟨by simp, by simp⟩, HM0.out, HB0.out⟩
  case round =>
    obtain ⟨k, hk, rfl, hok, hO, hb⟩ := hrel
    have HOK := Lib.hid hok
    have HO := Lib.hid hO
    have HB := Lib.hid hb
    clear hok hO hb
    by_cases hlt : k < n
    · obtain ⟨x, hx⟩ : ∃ x, o[k]? = some x := ⟨_, List.getElem?_eq_getElem (by rw [HL.out]; exact hlt)⟩
      obtain ⟨ad, rfl, hab, hcell⟩ := (HR.out.below HB.out).at_ hlt
      have cx : wr.cell? (ad.add k) = some (.int .i64 x) := hcell _ (by rw [List.getElem?_map, hx]; rfl)
      have HX := Lib.hid hx
      have hkn : (k : Int) < (n : Int) := by omega
      have hk0 : (0 : Int) ≤ (k : Int) := by omega
      have hk5 : (k : Int) ≤ 100000 := by omega
      clear hx hcell
      by_cases h0 : x < 0
      · have d1 : decide (x < 0) = true := decide_eq_true h0
        have HN := Lib.hid (permB_no HX.out (.inl h0))
        clear h0
        go_wp2
        go_ret
        exact ⟨by rw [HN.out]; rfl, HB.out⟩
      · have d1 : decide (x < 0) = false := decide_eq_false h0
        by_cases h1 : (n : Int) ≤ x
        · have d2 : decide ((n : Int) ≤ x) = true := decide_eq_true h1
          have HN := Lib.hid (permB_no HX.out (.inr (.inl (by rw [HL.out]; exact h1))))
          clear h0
          go_wp2
          go_ret
          exact ⟨by rw [HN.out]; rfl, HB.out⟩
        · have d2 : decide ((n : Int) ≤ x) = false := decide_eq_false h1
          obtain ⟨y, rfl⟩ : ∃ y : Nat, x = (y : Int) := ⟨x.toNat, by omega⟩
          have hyn : y < n := by omega
          have hyn2 : (y : Int) < (n : Int) := by omega
          have hy0 : (0 : Int) ≤ (y : Int) := by omega
          obtain ⟨b, hb⟩ : ∃ b, decide ((y : Int) ∈ o.take k) = b := ⟨_, rfl⟩
          have cy : wr.cell? ⟨g, y, none⟩ = some (.bool b) := by
            rw [HO.out.cellAt y (by omega), seen_at hyn, hb]
          cases b with
          | true =>
            have HN := Lib.hid (permB_no HX.out (.inr (.inr (of_decide_eq_true hb))))
            clear hb h0 h1
            go_wp2
            go_ret
            exact ⟨by rw [HN.out]; rfl, HB.out⟩
          | false =>
            have HN := Lib.hid (okTo_next HOK.out HX.out (by omega) (by rw [HL.out]; exact hyn2) (of_decide_eq_false hb))
            have HST := Lib.hid (show seenL n (o.take (k + 1)) = (seenL n (o.take k)).set y (.bool true) by rw [seen_set hyn, List.take_add_one, HX.out]; rfl)
            have fy := (own_slot HO.out (j := y) (by omega)).2
            clear hb h0 h1
            go_wp2
            go_roundw
            case rel => exact ⟨k + 1, by omega, by go_num, HN.out, by rw [HST.out]; exact (HO.out.stored y (.bool true)).1, HB.out.setCell (p := ⟨g, y, none⟩) (HO.out.lt g rfl).1 _⟩
            case measure => simp [intOf]; omega
    · obtain rfl : k = n := by omega
      have HT := Lib.hid (permB_yes (by rw [HL.out]; exact HOK.out))
      go_wp2
      go_ret
      exact ⟨by rw [HT.out]; rfl, HB.out⟩
set_option maxRecDepth 100000 in
set_option maxHeartbeats 2000000 in
theorem orInverse_any (A : Option Addr) (n c : Nat) (o : List Int) (w : World) (hr : Rd w 1 A n (o.map (Value.int .i64))) (hn : n ≤ 100000) :
    Calls Try.prog 15 #[.slice A n c] w fun e w' => ∃ v, e = .returned (.tuple #[v, .int .i64 (invE o).2]) ∧ w'.ownsRow w.heap.size 3 1 v (invE o).1.length ((invE o).1.map (Value.int .i64)) ∧ Below w.heap.size w w' := by
  have hl : o.length = n := by simpa using hr.len1
  have HL := Lib.hid hl
  have HR := Lib.hid hr
  have HP := Lib.hid (orPermutes_any A n c o w hr hn)
  clear hl hr
  obtain ⟨b, hb⟩ : ∃ b, permB o = b := ⟨_, rfl⟩
  rw [hb] at HP
  cases b with
  | false =>
    have HE := Lib.hid (show invE o = ([], 13) by unfold invE; rw [if_neg (by rw [hb]; decide)])
    rw [HE.out]
    clear hb HE
    go_enter Try.func15, Try.ntmps15
    go_wp2_with (first
      | (go_at_call 14; refine HP.out.mono ?_; rintro e w1 ⟨rfl, hb1⟩)
      | fail)
    go_ret2
    exact ⟨_, rfl, ⟨rfl, .inl ⟨rfl, rfl⟩⟩, hb1⟩
  | true =>
    have HPB := Lib.hid hb
    have HE := Lib.hid (show invE o = ((invF (natL o)).map fun i => ((i : Nat) : Int), 0) by unfold invE; rw [if_pos hb])
    have HLE := Lib.hid (show ((invF (natL o)).map fun i => ((i : Nat) : Int)).length = n by rw [List.length_map, invF_len, natL_len, HL.out])
    rw [HE.out]
    clear hb HE
    go_enter Try.func15, Try.ntmps15
    go_wp2_with (first
      | (go_at_call 14; refine HP.out.mono ?_; rintro e w0 ⟨rfl, hb0⟩)
      | (refine wpList_mkFull rfl _ _ _ rfl (base := w0.heap.size) (e := 3) (bytes := 8) (z := .int .i64 0) Try.underlying22 (by kernel_rfl) rfl (n : Int) (n : Int) n rfl rfl rfl rfl (by omega) (by unfold maxLen; omega) (Nat.le_refl _) ?_; intro w1 hown1 hg1)
      | fail)
    obtain ⟨g, hg⟩ : ∃ g, w0.heap.size = g := ⟨_, rfl⟩
    have HM0 : Hid (w1.ownsRow w.heap.size 3 1 (.slice (some ⟨g, 0, none⟩) n n) n ((List.replicate n (0 : Int)).map (Value.int .i64))) := Lib.hid (by rw [List.map_replicate, ← hg]; exact own_base hown1 hb0.size)
    have HB0 := Lib.hid (hb0.trans ((below_make hg1).mono hb0.size))
    rw [hg]
    clear hown1 hg1 hb0 hg
    go_wp2_with fail
    go_loopw [15] (fun i wr => ∃ (k : Nat) (zs : List Int), k ≤ n ∧ i = .int .i64 (k : Int) ∧ zs.length = n ∧ (∀ j x : Nat, j < k → (natL o)[j]? = some x → zs[x]? = some (j : Int)) ∧ wr.ownsRow w.heap.size 3 1 (.slice (some ⟨g, 0, none⟩) n n) n (zs.map (Value.int .i64)) ∧ Below w.heap.size w wr) (fun i _ => n - (intOf i).toNat)
    case atStart => exact ⟨0, _, Nat.zero_le _, rfl, List.length_replicate .., fun j x h => by omega, HM0.out, HB0.out⟩
    case round =>
      obtain ⟨k, zs, hk, rfl, hzl, hz, hO, hb⟩ := hrel
      have HZL := Lib.hid hzl
      have HZ := Lib.hid hz
      have HO := Lib.hid hO
      have HB := Lib.hid hb
      clear hzl hz hO hb
      by_cases hlt : k < n
      · obtain ⟨x, hx⟩ : ∃ x, o[k]? = some x := ⟨_, List.getElem?_eq_getElem (by rw [HL.out]; exact hlt)⟩
        obtain ⟨ad, rfl, hab, hcell⟩ := (HR.out.below HB.out).at_ hlt
        have cx : wr.cell? (ad.add k) = some (.int .i64 x) := hcell _ (by rw [List.getElem?_map, hx]; rfl)
        obtain ⟨y, rfl, hyl, hny⟩ := natL_at HPB.out hx
        rw [HL.out] at hyl
        have hkn : (k : Int) < (n : Int) := by omega
        have hk0 : (0 : Int) ≤ (k : Int) := by omega
        have hk5 : (k : Int) ≤ 100000 := by omega
        have hyn : (y : Int) < (n : Int) := by omega
        have hy0 : (0 : Int) ≤ (y : Int) := by omega
        obtain ⟨⟨u, cu⟩, fu⟩ := own_slot HO.out (j := y) (by omega)
        have HN := Lib.hid (show ∀ j x : Nat, j < k + 1 → (natL o)[j]? = some x → (zs.set y (k : Int))[x]? = some (j : Int) by
          intro j x hj hjx
          by_cases hjk : j = k
          · rw [hjk] at hjx ⊢
            rw [hny] at hjx
            obtain rfl := Option.some.inj hjx
            rw [List.getElem?_set_self (by rw [HZL.out]; exact hyl)]
          · have hne : y ≠ x := by
              intro e
              subst e
              have h1 := posF_at (perm_nodup (natL_perm HPB.out)) hjx
              have h2 := posF_at (perm_nodup (natL_perm HPB.out)) hny
              omega
            rw [List.getElem?_set_ne hne]
            exact HZ.out j x (by omega) hjx)
        have HO2 := Lib.hid ((HO.out.stored y (.int .i64 (k : Int))).1)
        have HB2 := Lib.hid (HB.out.setCell (p := ⟨g, y, none⟩) (HO.out.lt g rfl).1 (.int .i64 (k : Int)))
        clear hx hcell hny
        go_wp2
        go_roundw
        case rel => exact ⟨k + 1, zs.set y (k : Int), by omega, by go_num, by rw [List.length_set]; exact HZL.out, HN.out, by rw [List.map_set]; exact HO2.out, HB2.out⟩
        case measure => simp [intOf]; omega
      · obtain rfl : k = n := by omega
        have HT := Lib.hid (inv_end HPB.out (by rw [HZL.out, HL.out]) (fun j x hx => HZ.out j x (by have := (List.getElem?_eq_some_iff.1 hx).1; rw [natL_len, HL.out] at this; exact this) hx))
        rw [HT.out] at HO
        go_wp2
        go_ret2
        exact ⟨_, rfl, by rw [HLE.out]; exact HO.out, HB.out⟩
set_option maxRecDepth 100000 in
set_option maxHeartbeats 2000000 in
theorem orApply_any (A B : Option Addr) (n c m d : Nat) (o l : List Int) (w : World) (hr : Rd w 1 A n (o.map (Value.int .i64))) (hs : Rd w 1 B m (l.map (Value.int .i64))) (hn : n ≤ 100000) (hm : m ≤ 100000) :
    Calls Try.prog 17 #[.slice A n c, .slice B m d] w fun e w' => ∃ v, e = .returned (.tuple #[v, .int .i64 (appE o l).2]) ∧ w'.ownsRow w.heap.size 3 1 v (appE o l).1.length ((appE o l).1.map (Value.int .i64)) ∧ Below w.heap.size w w' := by
  have hl : o.length = n := by simpa using hr.len1
  have hl2 : l.length = m := by simpa using hs.len1
  have HL := Lib.hid hl
  have HL2 := Lib.hid hl2
  have HR := Lib.hid hr
  have HS := Lib.hid hs
  have HP := Lib.hid (orPermutes_any A n c o w hr hn)
  clear hl hl2 hr hs
  obtain ⟨b, hb⟩ : ∃ b, permB o = b := ⟨_, rfl⟩
  rw [hb] at HP
  cases b with
  | false =>
    have HE := Lib.hid (show appE o l = ([], 13) by unfold appE; rw [if_neg (by rw [hb]; simp)])
    rw [HE.out]
    clear hb HE
    go_enter Try.func17, Try.ntmps17
    go_wp2_with (first
      | (go_at_call 14; refine HP.out.mono ?_; rintro e w1 ⟨rfl, hb1⟩)
      | fail)
    go_ret2
    exact ⟨_, rfl, ⟨rfl, .inl ⟨rfl, rfl⟩⟩, hb1⟩
  | true =>
    by_cases hnm : n = m
    · subst hnm
      have HPB := Lib.hid hb
      have HE := Lib.hid (show appE o l = ((natL o).map fun i => l.getD i 0, 0) by unfold appE; rw [if_pos ⟨hb, by rw [HL.out, HL2.out]⟩])
      have HLE := Lib.hid (show ((natL o).map fun i => l.getD i 0).length = n by rw [List.length_map, natL_len, HL.out])
      rw [HE.out]
      clear hb HE
      go_enter Try.func17, Try.ntmps17
      have g : ((n : Int) != (n : Int)) = false := by simp
      go_wp2_with (first
        | (go_at_call 14; refine HP.out.mono ?_; rintro e w0 ⟨rfl, hb0⟩)
        | (refine wpList_mkFull rfl _ _ _ rfl (base := w0.heap.size) (e := 3) (bytes := 8) (z := .int .i64 0) Try.underlying22 (by kernel_rfl) rfl (n : Int) (n : Int) n rfl rfl rfl rfl (by omega) (by unfold maxLen; omega) (Nat.le_refl _) ?_; intro w1 hown1 hg1)
        | fail)
      obtain ⟨g2, hg2⟩ : ∃ g2, w0.heap.size = g2 := ⟨_, rfl⟩
      have HM0 : Hid (w1.ownsRow w.heap.size 3 1 (.slice (some ⟨g2, 0, none⟩) n n) n (apV ((natL o).map fun i => l.getD i 0) 0 n)) := Lib.hid (by rw [apV_zero, ← hg2]; exact own_base hown1 hb0.size)
      have HB0 := Lib.hid (hb0.trans ((below_make hg1).mono hb0.size))
      rw [hg2]
      clear hown1 hg1 hb0 hg2
      go_wp2_with fail
      go_loopw [24] (fun i wr => ∃ k : Nat, k ≤ n ∧ i = .int .i64 (k : Int) ∧ wr.ownsRow w.heap.size 3 1 (.slice (some ⟨g2, 0, none⟩) n n) n (apV ((natL o).map fun i => l.getD i 0) k n) ∧ Below w.heap.size w wr) (fun i _ => n - (intOf i).toNat)
      case atStart => exact ⟨0, Nat.zero_le _, rfl, HM0.out, HB0.out⟩
      case round =>
        obtain ⟨k, hk, rfl, hO, hb⟩ := hrel
        have HO := Lib.hid hO
        have HB := Lib.hid hb
        clear hO hb
        by_cases hlt : k < n
        · obtain ⟨x, hx⟩ : ∃ x, o[k]? = some x := ⟨_, List.getElem?_eq_getElem (by rw [HL.out]; exact hlt)⟩
          obtain ⟨ad, rfl, hab, hcell⟩ := (HR.out.below HB.out).at_ hlt
          have cx : wr.cell? (ad.add k) = some (.int .i64 x) := hcell _ (by rw [List.getElem?_map, hx]; rfl)
          obtain ⟨y, rfl, hyl, hny⟩ := natL_at HPB.out hx
          rw [HL.out] at hyl
          obtain ⟨z, hz⟩ : ∃ z, l[y]? = some z := ⟨_, List.getElem?_eq_getElem (by rw [HL2.out]; exact hyl)⟩
          obtain ⟨bd, rfl, hbb, hbcell⟩ := (HS.out.below HB.out).at_ hyl
          have cz : wr.cell? (bd.add y) = some (.int .i64 z) := hbcell _ (by rw [List.getElem?_map, hz]; rfl)
          have hkn : (k : Int) < (n : Int) := by omega
          have hk0 : (0 : Int) ≤ (k : Int) := by omega
          have hk5 : (k : Int) ≤ 100000 := by omega
          have hyn : (y : Int) < (n : Int) := by omega
          have hy0 : (0 : Int) ≤ (y : Int) := by omega
          have HN := Lib.hid (show ((natL o).map fun i => l.getD i 0)[k]? = some z by
            rw [List.getElem?_map, hny]
            simp only [Option.map_some]
            rw [List.getD_eq_getElem?_getD, hz]
            rfl)
          obtain ⟨⟨u, cu⟩, fu⟩ := own_slot HO.out (j := k) (by omega)
          have HO3 : Hid _ := Lib.hid ((HO.out.stored k (.int .i64 z)).1)
          rw [apV_set HN.out hlt] at HO3
          have HB3 := Lib.hid (HB.out.setCell (p := ⟨g2, k, none⟩) (HO.out.lt g2 rfl).1 (.int .i64 z))
          clear hx hcell hny hz hbcell
          go_wp2
          go_roundw
          case rel => exact ⟨k + 1, by omega, by go_num, HO3.out, HB3.out⟩
          case measure => simp [intOf]; omega
        · obtain rfl : k = n := by omega
          have HT := Lib.hid (apV_all HLE.out)
          rw [HT.out] at HO
          go_wp2
          go_ret2
          exact ⟨_, rfl, by rw [HLE.out]; exact HO.out, HB.out⟩
    · have HE := Lib.hid (show appE o l = ([], 13) by unfold appE; rw [if_neg (by rw [HL.out, HL2.out]; exact fun h => hnm h.2)])
      rw [HE.out]
      have g : ((n : Int) != (m : Int)) = true := by simp; omega
      clear hb HE
      go_enter Try.func17, Try.ntmps17
      go_wp2_with (first
        | (go_at_call 14; refine HP.out.mono ?_; rintro e w1 ⟨rfl, hb1⟩)
        | fail)
      go_ret2
      exact ⟨_, rfl, ⟨rfl, .inl ⟨rfl, rfl⟩⟩, hb1⟩
end Go.Proofs.Ytaiefneimjdmhaa
/- The reference's Held, places, odd, turn, walked. -/
namespace Go.Proofs.Ytaiefneimjdmhaa
open Go.RowKit

set_option maxRecDepth 100000 in
set_option maxHeartbeats 2000000 in
theorem roPlaces_any (n : Nat) (w : World) (hn : n ≤ 100000) :
    Calls Try.prog 34 #[.int .i64 n] w fun e w' => ∃ v, e = .returned v ∧ w'.ownsRow w.heap.size 3 1 v n ((List.range n).map fun i => .int .i64 ((i : Nat) : Int)) ∧ Below w.heap.size w w' := by
  go_enter Try.func34, Try.ntmps34
  go_wp2
  go_loopw [3, 4] (fun v i wr => ∃ k : Nat, k ≤ n ∧ i = .int .i64 (k : Int) ∧ wr.ownsRow w.heap.size 3 1 v k ((List.range k).map fun i => .int .i64 ((i : Nat) : Int)) ∧ Below w.heap.size w wr) (fun _ i _ => n - (intOf i).toNat)
  case atStart => exact ⟨0, Nat.zero_le _, rfl, ⟨rfl, .inl ⟨rfl, rfl⟩⟩, Below.refl _ _⟩
  case round =>
    obtain ⟨k, hk, rfl, hO, hb⟩ := hrel
    have HO := Lib.hid hO
    have HB := Lib.hid hb
    clear hO hb
    by_cases hlt : k < n
    · have hkn : (k : Int) < (n : Int) := by omega
      have hk5 : (k : Int) ≤ 100000 := by omega
      have hsz := HB.out.size
      go_wp2_with (first
        | (at_builtin; refine wpList_app rfl _ _ _ rfl intSliceM (by decide) _ k _ rfl (HO.out.alloc _) ⟨wr.heap.size, 0, none⟩ 1 1 [.int .i64 (k : Int)] rfl rfl (cells_new wr [.int .i64 (k : Int)] 3) (oneInt _ _) (by omega) (by unfold maxLen; omega) (Nat.le_trans hsz (by simp)) ?_; intro v1 w3 hown3 hg3 hat3)
        | fail)
      have HO3 : Hid (w3.ownsRow w.heap.size 3 1 v1 (k + 1) ((List.range (k + 1)).map fun i => .int .i64 ((i : Nat) : Int))) := Lib.hid (by rw [List.range_succ, List.map_append]; exact hown3)
      have HB3 := Lib.hid (below_app (HB.out.alloc hsz _) hg3 (HO.out.alloc _) (Nat.le_trans hsz (by simp)))
      clear hown3 hg3 hat3
      go_roundw
      case rel => exact ⟨k + 1, by omega, by go_num, HO3.out, HB3.out⟩
      case measure => simp [intOf]; omega
    · obtain rfl : k = n := by omega
      go_wp2
      go_ret
      exact ⟨_, rfl, HO.out, HB.out⟩
set_option maxRecDepth 100000 in
set_option maxHeartbeats 2000000 in
theorem roHeld_any (A : Option Addr) (n c : Nat) (ls : List Int) (w : World) (hr : Rd w 1 A n (ls.map (Value.int .i64))) (hn : n ≤ 100000) :
    Calls Try.prog 33 #[.slice A n c] w fun e w' => ∃ v, e = .returned v ∧ w'.ownsRow w.heap.size 3 1 v n ((ls.map heldF).map (Value.int .i64)) ∧ Below w.heap.size w w' := by
  have hl : ls.length = n := by simpa using hr.len1
  have HL := Lib.hid hl
  have HR := Lib.hid hr
  clear hl hr
  go_enter Try.func33, Try.ntmps33
  go_wp2
  go_loopw [3, 4] (fun v i wr => ∃ k : Nat, k ≤ n ∧ i = .int .i64 (k : Int) ∧ wr.ownsRow w.heap.size 3 1 v k (((ls.map heldF).take k).map (Value.int .i64)) ∧ Below w.heap.size w wr) (fun _ i _ => n - (intOf i).toNat)
  case atStart => exact ⟨0, Nat.zero_le _, rfl, ⟨rfl, .inl ⟨rfl, rfl⟩⟩, Below.refl _ _⟩
  case round =>
    obtain ⟨k, hk, rfl, hO, hb⟩ := hrel
    have HO := Lib.hid hO
    have HB := Lib.hid hb
    clear hO hb
    by_cases hlt : k < n
    · obtain ⟨x, hx⟩ : ∃ x, ls[k]? = some x := ⟨_, List.getElem?_eq_getElem (by rw [HL.out]; exact hlt)⟩
      obtain ⟨ad, rfl, hab, hcell⟩ := (HR.out.below HB.out).at_ hlt
      have cx : wr.cell? (ad.add k) = some (.int .i64 x) := hcell _ (by rw [List.getElem?_map, hx]; rfl)
      have hkn : (k : Int) < (n : Int) := by omega
      have hk0 : (0 : Int) ≤ (k : Int) := by omega
      have hk5 : (k : Int) ≤ 100000 := by omega
      have hsz := HB.out.size
      have HN := Lib.hid (show (ls.map heldF).take (k + 1) = (ls.map heldF).take k ++ [heldF x] by rw [List.take_add_one, List.getElem?_map, hx]; rfl)
      clear hx hcell
      by_cases h0 : x < 0
      · have hh : heldF x = 0 := by unfold heldF; omega
        rw [hh] at HN
        go_wp2_with (first
          | (at_builtin; refine wpList_app rfl _ _ _ rfl intSliceM (by decide) _ k _ rfl (HO.out.alloc _) ⟨wr.heap.size, 0, none⟩ 1 1 [.int .i64 0] rfl rfl (cells_new wr [.int .i64 0] 3) (oneInt _ _) (by omega) (by unfold maxLen; omega) (Nat.le_trans hsz (by simp)) ?_; intro v1 w3 hown3 hg3 hat3)
          | fail)
        have HO3 : Hid (w3.ownsRow w.heap.size 3 1 v1 (k + 1) (((ls.map heldF).take (k + 1)).map (Value.int .i64))) := Lib.hid (by rw [HN.out, List.map_append]; exact hown3)
        have HB3 := Lib.hid (below_app (HB.out.alloc hsz _) hg3 (HO.out.alloc _) (Nat.le_trans hsz (by simp)))
        clear hown3 hg3 hat3
        go_roundw
        case rel => exact ⟨k + 1, by omega, by go_num, HO3.out, HB3.out⟩
        case measure => simp [intOf]; omega
      · by_cases h1 : 126 < x
        · have hh : heldF x = 126 := by unfold heldF; omega
          rw [hh] at HN
          go_wp2_with (first
            | (at_builtin; refine wpList_app rfl _ _ _ rfl intSliceM (by decide) _ k _ rfl (HO.out.alloc _) ⟨wr.heap.size, 0, none⟩ 1 1 [.int .i64 126] rfl rfl (cells_new wr [.int .i64 126] 3) (oneInt _ _) (by omega) (by unfold maxLen; omega) (Nat.le_trans hsz (by simp)) ?_; intro v1 w3 hown3 hg3 hat3)
            | fail)
          have HO3 : Hid (w3.ownsRow w.heap.size 3 1 v1 (k + 1) (((ls.map heldF).take (k + 1)).map (Value.int .i64))) := Lib.hid (by rw [HN.out, List.map_append]; exact hown3)
          have HB3 := Lib.hid (below_app (HB.out.alloc hsz _) hg3 (HO.out.alloc _) (Nat.le_trans hsz (by simp)))
          clear hown3 hg3 hat3
          go_roundw
          case rel => exact ⟨k + 1, by omega, by go_num, HO3.out, HB3.out⟩
          case measure => simp [intOf]; omega
        · have hh : heldF x = x := by unfold heldF; omega
          rw [hh] at HN
          go_wp2_with (first
            | (at_builtin; refine wpList_app rfl _ _ _ rfl intSliceM (by decide) _ k _ rfl (HO.out.alloc _) ⟨wr.heap.size, 0, none⟩ 1 1 [.int .i64 x] rfl rfl (cells_new wr [.int .i64 x] 3) (oneInt _ _) (by omega) (by unfold maxLen; omega) (Nat.le_trans hsz (by simp)) ?_; intro v1 w3 hown3 hg3 hat3)
            | fail)
          have HO3 : Hid (w3.ownsRow w.heap.size 3 1 v1 (k + 1) (((ls.map heldF).take (k + 1)).map (Value.int .i64))) := Lib.hid (by rw [HN.out, List.map_append]; exact hown3)
          have HB3 := Lib.hid (below_app (HB.out.alloc hsz _) hg3 (HO.out.alloc _) (Nat.le_trans hsz (by simp)))
          clear hown3 hg3 hat3
          go_roundw
          case rel => exact ⟨k + 1, by omega, by go_num, HO3.out, HB3.out⟩
          case measure => simp [intOf]; omega
    · obtain rfl : k = n := by omega
      have HT := Lib.hid (show (ls.map heldF).take k = ls.map heldF from List.take_of_length_le (by rw [List.length_map, HL.out]; exact Nat.le_refl _))
      rw [HT.out] at HO
      go_wp2
      go_ret
      exact ⟨_, rfl, HO.out, HB.out⟩
theorem odd_next {ls : List Int} {v x : Int} {k : Nat} (h : ls[k]? = some x) (hd : ¬ (x % 2 = 1 ∧ x ≤ v)) : oddB (ls.drop k) v = oddB (ls.drop (k + 1)) v := by
  rw [List.drop_eq_getElem_cons (List.getElem?_eq_some_iff.1 h).1, (List.getElem?_eq_some_iff.1 h).2]
  unfold oddB
  rw [List.any_cons, decide_eq_false hd, Bool.false_or]
theorem odd_here {ls : List Int} {v x : Int} {k : Nat} (h : ls[k]? = some x) (hd : x % 2 = 1 ∧ x ≤ v) : oddB (ls.drop k) v = true := by
  rw [List.drop_eq_getElem_cons (List.getElem?_eq_some_iff.1 h).1, (List.getElem?_eq_some_iff.1 h).2]
  unfold oddB
  rw [List.any_cons, decide_eq_true hd, Bool.true_or]
set_option maxRecDepth 100000 in
set_option maxHeartbeats 2000000 in
theorem roOdd_any (A : Option Addr) (n c : Nat) (ls : List Int) (v : Int) (b : Bool) (hb : oddB ls v = b) (w : World) (hr : Rd w 1 A n (ls.map (Value.int .i64))) (hn : n ≤ 100000) (hp : ∀ x ∈ ls, 0 ≤ x) :
    Calls Try.prog 35 #[.slice A n c, .int .i64 v] w fun e w' => e = .returned (.bool b) ∧ ∃ q, w' = w.drewN q := by
  have hl : ls.length = n := by simpa using hr.len1
  have HL := Lib.hid hl
  have HR := Lib.hid hr
  have HV := Lib.hid hb
  have HP := Lib.hid hp
  clear hl hr hb hp
  go_enter Try.func35, Try.ntmps35
  go_wp2
  go_loopw [5] (fun j wr => ∃ k q : Nat, k ≤ n ∧ j = .int .i64 (k : Int) ∧ oddB (ls.drop k) v = b ∧ wr = w.drewN q) (fun j _ => n - (intOf j).toNat)
  case atStart => exact ⟨0, 0, Nat.zero_le _, rfl, HV.out, rfl⟩
  case round =>
    obtain ⟨k, q, hk, rfl, he, rfl⟩ := hrel
    have HE := Lib.hid he
    clear he
    by_cases hlt : k < n
    · obtain ⟨x, hx⟩ : ∃ x, ls[k]? = some x := ⟨_, List.getElem?_eq_getElem (by rw [HL.out]; exact hlt)⟩
      obtain ⟨ad, rfl, hab, hcell⟩ := HR.out.at_ hlt
      have cx : w.cell? (ad.add k) = some (.int .i64 x) := hcell _ (by rw [List.getElem?_map, hx]; rfl)
      have hx0 := HP.out x (List.mem_of_getElem? hx)
      have HX := Lib.hid hx
      have hkn : (k : Int) < (n : Int) := by omega
      have hk0 : (0 : Int) ≤ (k : Int) := by omega
      have hk5 : (k : Int) ≤ 100000 := by omega
      have htm : Int.tmod x 2 = x % 2 := Int.tmod_eq_emod_of_nonneg hx0
      clear hx hcell
      by_cases h1 : x % 2 = 1
      · rw [h1] at htm
        by_cases h2 : x ≤ v
        · have d2 : decide (x ≤ v) = true := decide_eq_true h2
          obtain rfl : true = b := (odd_here HX.out ⟨h1, h2⟩).symm.trans HE.out
          clear h1 h2
          go_wp2
          go_ret
          exact ⟨rfl, q, rfl⟩
        · have d2 : decide (x ≤ v) = false := decide_eq_false h2
          have HN := Lib.hid ((odd_next HX.out (fun h => h2 h.2)).symm.trans HE.out)
          clear h1 h2
          go_wp2
          go_roundw
          case rel => exact ⟨k + 1, q, by omega, by go_num, HN.out, rfl⟩
          case measure => simp [intOf]; omega
      · have h10 : x % 2 = 0 := by omega
        rw [h10] at htm
        have HN := Lib.hid ((odd_next (v := v) HX.out (fun h => h1 h.1)).symm.trans HE.out)
        clear h1 h10
        go_wp2
        go_roundw
        case rel => exact ⟨k + 1, q, by omega, by go_num, HN.out, rfl⟩
        case measure => simp [intOf]; omega
    · have hkn : ¬ (k : Int) < (n : Int) := by omega
      have he := HE.out
      rw [List.drop_eq_nil_of_le (by rw [HL.out]; omega)] at he
      obtain rfl : false = b := he
      go_wp2
      go_ret
      exact ⟨rfl, q, rfl⟩
end Go.Proofs.Ytaiefneimjdmhaa
/- The reference's turn, walked. -/
namespace Go.Proofs.Ytaiefneimjdmhaa
open Go.RowKit

def nV (xs : List Nat) : List Value := xs.map fun i => .int .i64 ((i : Nat) : Int)
theorem nV_len (xs : List Nat) : (nV xs).length = xs.length := by simp [nV]
theorem nV_at {xs : List Nat} {k i : Nat} (h : xs[k]? = some i) : (nV xs)[k]? = some (.int .i64 (i : Int)) := by unfold nV; rw [List.getElem?_map, h]; rfl
theorem nV_swap (a mm r : List Nat) (x y : Nat) : ((nV (a ++ (x :: mm ++ [y]) ++ r)).set a.length (.int .i64 (y : Int))).set (a.length + (mm.length + 1)) (.int .i64 (x : Int)) = nV ((a ++ [y]) ++ mm ++ (x :: r)) := by
  have e1 : (nV (a ++ (x :: mm ++ [y]) ++ r)).set a.length (.int .i64 (y : Int)) = nV ((a ++ [y]) ++ mm ++ (y :: r)) := by
    unfold nV
    rw [← List.map_set]
    congr 1
    rw [List.append_assoc, List.set_append_right _ _ (Nat.le_refl _), Nat.sub_self]
    simp
  rw [e1]
  unfold nV
  rw [← List.map_set]
  congr 1
  rw [List.set_append_right _ _ (by simp)]
  simp
theorem two_ends {m : List Nat} (h : 1 < m.length) : ∃ x mm y, m = x :: mm ++ [y] := by
  cases m with
  | nil => simp at h
  | cons x l =>
    refine ⟨x, l.dropLast, l.getLast (by intro e; subst e; simp at h), ?_⟩
    rw [List.cons_append, List.dropLast_concat_getLast]
set_option maxRecDepth 100000 in
set_option maxHeartbeats 2000000 in
theorem roTurn_any (g n cv : Nat) (a m r : List Nat) (base : Nat) (w : World) (ho : w.ownsRow base 3 1 (.slice (some ⟨g, 0, none⟩) n cv) n (nV (a ++ m ++ r))) (_hcv : n ≤ cv) (hn : n ≤ 100000) :
    Calls Try.prog 36 #[.slice (some ⟨g, 0, none⟩) n cv, .int .i64 (a.length : Nat), .int .i64 ((a.length + m.length : Nat) : Int)] w fun e w' => (∃ v, e = .returned v) ∧ w'.ownsRow base 3 1 (.slice (some ⟨g, 0, none⟩) n cv) n (nV (a ++ m.reverse ++ r)) ∧ Below base w w' := by
  have HL0 := Lib.hid ho
  have hlen : a.length + m.length + r.length = n := by have := ho.1; rw [nV_len] at this; simp at this; omega
  clear ho
  go_enter Try.func36, Try.ntmps36
  go_wp2
  go_loopw [1, 2] (fun lo hi wr => ∃ a' m' r' : List Nat, lo = .int .i64 (a'.length : Nat) ∧ hi = .int .i64 ((a'.length + m'.length : Nat) : Int) ∧ a'.length + m'.length + r'.length = n ∧ a ++ m.reverse ++ r = a' ++ m'.reverse ++ r' ∧ wr.ownsRow base 3 1 (.slice (some ⟨g, 0, none⟩) n cv) n (nV (a' ++ m' ++ r')) ∧ Below base w wr) (fun lo hi _ => (intOf hi - intOf lo).toNat)
  case atStart => exact ⟨a, m, r, rfl, rfl, hlen, rfl, HL0.out, Below.refl _ _⟩
  case round =>
    obtain ⟨a', m', r', rfl, rfl, hl, he, hO, hb⟩ := hrel
    have HE := Lib.hid he
    have HO := Lib.hid hO
    have HB := Lib.hid hb
    clear he hO hb
    by_cases hm : 1 < m'.length
    · obtain ⟨x, mm, y, rfl⟩ := two_ends hm
      obtain ⟨la, hla⟩ : ∃ la, a'.length = la := ⟨_, rfl⟩
      obtain ⟨lm, hlm⟩ : ∃ lm, mm.length = lm := ⟨_, rfl⟩
      have hml : (x :: mm ++ [y]).length = lm + 2 := by simp; omega
      have HLA := Lib.hid hla
      have HLM := Lib.hid hlm
      rw [hml] at hl
      rw [hml, hla]
      have cx : wr.cell? ⟨g, la, none⟩ = some (.int .i64 (x : Int)) := by
        rw [HO.out.cellAt la (by omega), nV_at]
        rw [List.append_assoc, List.getElem?_append_right (by omega), show la - a'.length = 0 by omega]
        rfl
      have cy : wr.cell? ⟨g, la + (lm + 1), none⟩ = some (.int .i64 (y : Int)) := by
        rw [HO.out.cellAt _ (by omega), nV_at]
        rw [List.append_assoc, List.getElem?_append_right (by omega), show la + (lm + 1) - a'.length = lm + 1 by omega, List.getElem?_append_left (by rw [hml]; omega), List.cons_append, List.getElem?_cons_succ, List.getElem?_append_right (by omega), show lm - mm.length = 0 by omega]
        rfl
      have fx := (own_slot HO.out (j := la) (by omega)).2
      have HO1 := Lib.hid ((HO.out.stored la (.int .i64 (y : Int))).1)
      obtain ⟨⟨u1, cu1⟩, fu1⟩ := own_slot HO1.out (j := la + (lm + 1)) (by omega)
      have fy := (own_slot HO.out (j := la + (lm + 1)) (by omega)).2
      have HO2 := Lib.hid (show ((wr.setCell ⟨g, la, none⟩ (.int .i64 (y : Int))).setCell ⟨g, la + (lm + 1), none⟩ (.int .i64 (x : Int))).ownsRow base 3 1 (.slice (some ⟨g, 0, none⟩) n cv) n (nV ((a' ++ [y]) ++ mm ++ (x :: r'))) by
        have h := (HO1.out.stored (la + (lm + 1)) (.int .i64 (x : Int))).1
        rw [← nV_swap a' mm r' x y, HLA.out, HLM.out]
        exact h)
      have HB2 := Lib.hid ((HB.out.setCell (p := ⟨g, la, none⟩) (HO.out.lt g rfl).1 (.int .i64 (y : Int))).setCell (p := ⟨g, la + (lm + 1), none⟩) (HO.out.lt g rfl).1 (.int .i64 (x : Int)))
      have HE2 := Lib.hid (HE.out.trans (show a' ++ (x :: mm ++ [y]).reverse ++ r' = (a' ++ [y]) ++ mm.reverse ++ (x :: r') by simp))
      obtain ⟨lb, hlb⟩ : ∃ lb, la + (lm + 1) = lb := ⟨_, rfl⟩
      rw [hlb] at cy cu1 fu1 fy HO2 HB2
      rw [show la + (lm + 2) = lb + 1 by omega]
      have i2 : (1 : Int) < ((lb : Int) + 1) - (la : Int) := by omega
      have i3 : (0 : Int) ≤ (la : Int) := by omega
      have i4 : (la : Int) < (n : Int) := by omega
      have i5 : (0 : Int) ≤ (lb : Int) := by omega
      have i6 : (lb : Int) < (n : Int) := by omega
      have i7 : ((lb : Int) + 1) - 1 = (lb : Int) := by omega
      have HLB := Lib.hid hlb
      clear hlm hml hla hlb
      go_wp2
      go_region
      have HO3 := Lib.hid (own_below HO2.out (Below.refl _ _).drew)
      have HB3 := Lib.hid HB2.out.drew
      go_wp2
      go_roundw
      case rel =>
        have q1 := HLA.out
        have q2 := HLM.out
        have q3 := HLB.out
        have p1 : (la : Int) + 1 = (((a' ++ [y]).length : Nat) : Int) := by simp; omega
        have p2 : (lb : Int) = (((a' ++ [y]).length + mm.length : Nat) : Int) := by simp; omega
        have p3 : (a' ++ [y]).length + mm.length + (x :: r').length = n := by simp; omega
        exact ⟨a' ++ [y], mm, x :: r', by rw [← p1], by rw [← p2], p3, HE2.out, HO3.out, HB3.out⟩
      case measure => simp [intOf]; have := HLB.out; omega
    · have i2 : ¬ (1 : Int) < ((a'.length + m'.length : Nat) : Int) - (a'.length : Int) := by omega
      have HT := Lib.hid (show a ++ m.reverse ++ r = a' ++ m' ++ r' by
        rw [HE.out]
        congr 2
        match m', hm with
        | [], _ => rfl
        | [z], _ => rfl
        | _ :: _ :: _, h => simp at h)
      go_wp2
      go_end0
      exact ⟨⟨_, rfl⟩, by rw [← List.append_assoc, HT.out]; exact HO.out, HB.out⟩
end Go.Proofs.Ytaiefneimjdmhaa
