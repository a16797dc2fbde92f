/- The reference's Permutes, Inverse, Apply, walked. -/
import Derived.Test.YtbnjflkafdkcpaaOrD
import Derived.Test.YtbnjflkafdkcpaaStL
import Derived.Test.YtbnjflkafdkcpaaMem3
import Derived.Test.YtbnjflkafdkcpaaSpBlk
namespace Go.Proofs.Ytbnjflkafdkcpaa
open Go.RowKit

/-- Whether numbers are an order: within range, none twice. -/
def permB (o : List Int) : Bool := decide ((∀ x ∈ o, 0 ≤ x ∧ x < o.length) ∧ o.Nodup)
def seenL (n : Nat) (o : List Int) : List Value := (List.range n).map fun i => .bool (decide (((i : Nat) : Int) ∈ o))
theorem seen_nil (n : Nat) : List.replicate n (Value.bool false) = seenL n [] := by
  apply List.ext_getElem
  · simp [seenL]
  · intro i h1 h2
    simp [seenL]
theorem seen_at {n : Nat} {o : List Int} {x : Nat} (h : x < n) : (seenL n o)[x]? = some (.bool (decide ((x : Int) ∈ o))) := by
  unfold seenL
  rw [List.getElem?_map, List.getElem?_range h]
  rfl
theorem seen_set {n : Nat} {o : List Int} {x : Nat} (h : x < n) : (seenL n o).set x (.bool true) = seenL n (o ++ [(x : Int)]) := by
  apply List.ext_getElem?
  intro i
  by_cases hi : i < n
  · rw [List.getElem?_set, seen_at hi, seen_at hi]
    by_cases e : x = i
    · subst e
      rw [if_pos rfl, if_pos (by simp [seenL]; exact h)]
      simp
    · rw [if_neg e]
      congr 2
      have : (i : Int) ≠ (x : Int) := by omega
      simp [this]
  · rw [List.getElem?_eq_none (by simp [seenL]; omega), List.getElem?_eq_none (by simp [seenL]; omega)]
/-- What holds of the first numbers while they are looked at. -/
def okTo (o : List Int) (k : Nat) : Prop := (∀ x ∈ o.take k, 0 ≤ x ∧ x < o.length) ∧ (o.take k).Nodup
theorem okTo_next {o : List Int} {k : Nat} {x : Int} (h : okTo o k) (hx : o[k]? = some x) (h0 : 0 ≤ x) (h1 : x < o.length) (hn : x ∉ o.take k) : okTo o (k + 1) := by
  unfold okTo
  rw [List.take_add_one, hx]
  refine ⟨fun y hy => ?_, ?_⟩
  · simp at hy
    rcases hy with hy | rfl
    · exact h.1 y hy
    · exact ⟨h0, h1⟩
  · simp only [Option.toList_some]
    rw [List.nodup_append]
    exact ⟨h.2, by simp, fun a ha b hb => by
      simp at hb
      subst hb
      intro e
      subst e
      exact hn ha⟩
theorem permB_no {o : List Int} {k : Nat} {x : Int} (hx : o[k]? = some x) (h : x < 0 ∨ (o.length : Int) ≤ x ∨ x ∈ o.take k) : permB o = false := by
  apply decide_eq_false
  rintro ⟨h1, h2⟩
  have := h1 x (List.mem_of_getElem? hx)
  rcases h with h | h | h
  · omega
  · omega
  · have hs : o = o.take (k + 1) ++ o.drop (k + 1) := (List.take_append_drop _ _).symm
    rw [hs, List.take_add_one, hx, List.nodup_append] at h2
    have h3 := h2.1
    simp only [Option.toList_some] at h3
    rw [List.nodup_append] at h3
    exact h3.2.2 x h x (by simp) rfl
theorem permB_yes {o : List Int} (h : okTo o o.length) : permB o = true := by
  unfold okTo at h
  rw [List.take_length] at h
  exact decide_eq_true h
set_option maxRecDepth 100000 in
set_option maxHeartbeats 2000000 in
theorem roPermutes_any (A : Option Addr) (n c : Nat) (o : List Int) (w : World) (hr : Rd w 1 A n (o.map (Value.int .i64))) (hn : n ≤ 100000) :
    Calls Try.prog 29 #[.slice A n c] w fun e w' => e = .returned (.bool (permB o)) ∧ Below w.heap.size w w' := by
  have hl : o.length = n := by simpa using hr.len1
  have HL := Lib.hid hl
  have HR := Lib.hid hr
  clear hl hr
  go_enter Try.func29, Try.ntmps29
  go_wp2_with (first
    | (refine wpList_mkFull rfl _ _ _ rfl (base := w.heap.size) (e := 4) (bytes := 1) (z := .bool false) Try.underlying23 (by kernel_rfl) rfl (n : Int) (n : Int) n rfl rfl rfl rfl (by omega) (by unfold maxLen; omega) (Nat.le_refl _) ?_; intro w1 hown1 hg1)
    | fail)
  have hgn : w.heap.size < w1.heap.size := (hown1.lt w.heap.size rfl).2
  obtain ⟨g, hg⟩ : ∃ g, w.heap.size = g := ⟨_, rfl⟩
  have HM0 : Hid (w1.ownsRow w.heap.size 4 1 (.slice (some ⟨g, 0, none⟩) n n) n (seenL n (o.take 0))) := Lib.hid (by rw [List.take_zero, ← seen_nil, ← hg]; exact hown1)
  have HB0 := Lib.hid (below_make hg1)
  rw [hg]
  clear hown1 hg1
  go_wp2_with fail
  go_loopw [4] (fun i wr => ∃ k : Nat, k ≤ n ∧ i = .int .i64 (k : Int) ∧ okTo o k ∧ wr.ownsRow w.heap.size 4 1 (.slice (some ⟨g, 0, none⟩) n n) n (seenL n (o.take k)) ∧ Below w.heap.size w wr) (fun i _ => n - (intOf i).toNat)
  case atStart => exact ⟨0, Nat.zero_le _, rfl, ⟨by simp, by simp⟩, HM0.out, HB0.out⟩
  case round =>
    obtain ⟨k, hk, rfl, hok, hO, hb⟩ := hrel
    have HOK := Lib.hid hok
    have HO := Lib.hid hO
    have HB := Lib.hid hb
    clear hok hO hb
    by_cases hlt : k < n
    · obtain ⟨x, hx⟩ : ∃ x, o[k]? = some x := ⟨_, List.getElem?_eq_getElem (by rw [HL.out]; exact hlt)⟩
      obtain ⟨ad, rfl, hab, hcell⟩ := (HR.out.below HB.out).at_ hlt
      have cx : wr.cell? (ad.add k) = some (.int .i64 x) := hcell _ (by rw [List.getElem?_map, hx]; rfl)
      have HX := Lib.hid hx
      have hkn : (k : Int) < (n : Int) := by omega
      have hk0 : (0 : Int) ≤ (k : Int) := by omega
      have hk5 : (k : Int) ≤ 100000 := by omega
      clear hx hcell
      by_cases h0 : x < 0
      · have d1 : decide (x < 0) = true := decide_eq_true h0
        have HN := Lib.hid (permB_no HX.out (.inl h0))
        clear h0
        go_wp2
        go_ret
        exact ⟨by rw [HN.out]; rfl, HB.out⟩
      · have d1 : decide (x < 0) = false := decide_eq_false h0
        by_cases h1 : (n : Int) ≤ x
        · have d2 : decide ((n : Int) ≤ x) = true := decide_eq_true h1
          have HN := Lib.hid (permB_no HX.out (.inr (.inl (by rw [HL.out]; exact h1))))
          clear h0
          go_wp2
          go_ret
          exact ⟨by rw [HN.out]; rfl, HB.out⟩
        · have d2 : decide ((n : Int) ≤ x) = false := decide_eq_false h1
          obtain ⟨y, rfl⟩ : ∃ y : Nat, x = (y : Int) := ⟨x.toNat, by omega⟩
          have hyn : y < n := by omega
          have hyn2 : (y : Int) < (n : Int) := by omega
          have hy0 : (0 : Int) ≤ (y : Int) := by omega
          obtain ⟨b, hb⟩ : ∃ b, decide ((y : Int) ∈ o.take k) = b := ⟨_, rfl⟩
          have cy : wr.cell? ⟨g, y, none⟩ = some (.bool b) := by
            rw [HO.out.cellAt y (by omega), seen_at hyn, hb]
          cases b with
          | true =>
            have HN := Lib.hid (permB_no HX.out (.inr (.inr (of_decide_eq_true hb))))
            clear hb h0 h1
            go_wp2
            go_ret
            exact ⟨by rw [HN.out]; rfl, HB.out⟩
          | false =>
            have HN := Lib.hid (okTo_next HOK.out HX.out (by omega) (by rw [HL.out]; exact hyn2) (of_decide_eq_false hb))
            have HST := Lib.hid (show seenL n (o.take (k + 1)) = (seenL n (o.take k)).set y (.bool true) by rw [seen_set hyn, List.take_add_one, HX.out]; rfl)
            have fy := (own_slot HO.out (j := y) (by omega)).2
            clear hb h0 h1
            go_wp2
            go_roundw
            case rel => exact ⟨k + 1, by omega, by go_num, HN.out, by rw [HST.out]; exact (HO.out.stored y (.bool true)).1, HB.out.setCell (p := ⟨g, y, none⟩) (HO.out.lt g rfl).1 _⟩
            case measure => simp [intOf]; omega
    · obtain rfl : k = n := by omega
      have HT := Lib.hid (permB_yes (by rw [HL.out]; exact HOK.out))
      go_wp2
      go_ret
      exact ⟨by rw [HT.out]; rfl, HB.out⟩
end Go.Proofs.Ytbnjflkafdkcpaa
