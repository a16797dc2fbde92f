/- Options as words, the reference: a word's field. -/
import Derived.Test.YtcdogkabdhbjmaaDoorSwR1
namespace Go.Proofs.YtcdogkabdhbjmaaDoor
open Go.RowKit

def findR (s : ByteArray) : Int × Int := match findT s with
  | some x => ((x.1 : Nat), if x.1 = 0 then x.2 + 1 else x.2)
  | none => (-1, 0)
theorem find_words : ((List.range 14).all fun f => (List.range (wordsOf f).length).all fun j => match (wordsOf f)[j]? with
  | some x => findR x == ((f : Int), (j : Int) + 1)
  | none => false) = true := by decide +kernel
theorem find_at {f j : Nat} {s : ByteArray} (hf : f < 14) (h : (wordsOf f)[j]? = some s) : findR s = ((f : Int), (j : Int) + 1) := by
  have h1 := List.all_eq_true.1 find_words f (List.mem_range.2 hf)
  have h2 := List.all_eq_true.1 h1 j (List.mem_range.2 (List.getElem?_eq_some_iff.1 h).1)
  rw [h] at h2
  simpa using h2
theorem terms_in : (termsL.all fun t => decide (t.2.1 < 14) && (wordsOf t.2.1).any fun x => x == t.1) = true := by decide +kernel
theorem find_none {s : ByteArray} (h : ∀ f, f < 14 → s ∉ wordsOf f) : findR s = (-1, 0) := by
  have : findT s = none := by
    unfold findT
    rw [Option.map_eq_none_iff, List.find?_eq_none]
    intro t ht he
    have h1 := List.all_eq_true.1 terms_in t ht
    rw [Bool.and_eq_true] at h1
    have h2 := of_decide_eq_true h1.1
    have h3 := h1.2
    obtain ⟨x, hx, he2⟩ := List.any_eq_true.1 h3
    rw [ba_beq he2, ba_beq he] at hx
    exact h _ h2 hx
  unfold findR
  rw [this]
theorem words_few (f : Nat) : (wordsOf f).length ≤ 4 := by
  unfold wordsOf
  split <;> simp
set_option maxRecDepth 100000 in
set_option maxHeartbeats 4000000 in
theorem refFind_any (s : ByteArray) (a b : Int) (hr : findR s = (a, b)) (w : World) :
    Calls Tryd.prog 48 #[.string s] w fun e w' => e = .returned (.tuple #[.int .i64 a, .int .i64 b]) ∧ Below w.heap.size w w' := by
  have HR := Lib.hid hr
  clear hr
  go_enter Tryd.func48, Tryd.ntmps48
  go_wp2
  go_loopw [4] (fun i wr => ∃ (f : Nat), f ≤ 14 ∧ i = .int .i64 f ∧ (∀ f', f' < f → s ∉ wordsOf f') ∧ Below w.heap.size w wr) (fun i _ => 14 - (intOf i).toNat)
  case atStart => exact ⟨0, Nat.zero_le _, rfl, fun f' h => absurd h (by omega), Below.refl _ _⟩
  case round =>
    obtain ⟨f, hf, rfl, hno, hb⟩ := hrel
    have HN := Lib.hid hno
    have HB := Lib.hid hb
    clear hno hb
    by_cases hlt : f < 14
    · obtain ⟨wo, rfl⟩ : ∃ wo : World, wo = wr := ⟨_, rfl⟩
      go_wp2_with fail
      refine (words_any f hlt _).mono ?_
      rintro e w1 ⟨A, c, rfl, hr, hb1⟩
      have HB1 := Lib.hid (below_self HB.out hb1)
      have hfew := words_few f
      have HRD := Lib.hid hr
      clear hb1 hr
      obtain ⟨L, hL⟩ : ∃ L, wordsOf f = L := ⟨_, rfl⟩
      have HLL := Lib.hid hL
      rw [hL] at HRD hfew
      simp only [hL]
      clear hL
      go_wp2
      go_loopw [6] (fun i wy => ∃ (j : Nat), j ≤ L.length ∧ i = .int .i64 j ∧ (∀ j' x, j' < j → L[j']? = some x → x ≠ s) ∧ wy = w1) (fun i _ => L.length - (intOf i).toNat)
      case atStart => exact ⟨0, Nat.zero_le _, rfl, fun j' x h => absurd h (by omega), rfl⟩
      case round =>
        obtain ⟨j, hj, rfl, hnj, rfl⟩ := hrel
        have HNJ := Lib.hid hnj
        clear hnj
        by_cases hjl : j < L.length
        · obtain ⟨x, hx⟩ : ∃ x, L[j]? = some x := ⟨_, List.getElem?_eq_getElem hjl⟩
          obtain ⟨ad, hA, hab, hc⟩ := HRD.out.at_ hjl
          obtain rfl := Option.some.inj hA
          have cx := hc (.string x) (by rw [List.getElem?_map, hx]; rfl)
          have HX := Lib.hid hx
          clear hx hc hA
          by_cases he : x = s
          · have HE := Lib.hid (show a = (f : Int) ∧ b = (j : Int) + 1 by
              have := find_at hlt (show (wordsOf f)[j]? = some s by rw [HLL.out, HX.out, he])
              rw [HR.out] at this
              injection this with e1 e2
              exact ⟨e1, e2⟩)
            subst he
            go_wp2
            go_ret2
            exact ⟨by rw [HE.out.1, HE.out.2]; rfl, HB1.out⟩
          · have h1 : (x.toList == s.toList) = false := ba_ne he
            have HX2 := Lib.hid (show ∀ j' y, j' < j + 1 → L[j']? = some y → y ≠ s from fun j' y hj' hy => by
              by_cases hjj : j' = j
              · subst hjj
                rw [HX.out] at hy
                obtain rfl := Option.some.inj hy
                exact he
              · exact HNJ.out j' y (by omega) hy)
            have HE := Lib.hid he
            clear he
            go_wp2
            go_roundw
            case rel => exact ⟨j + 1, by omega, by go_num, HX2.out, trivial⟩
            case measure => simp [intOf]; omega
        · have HX2 := Lib.hid (show s ∉ wordsOf f from fun hm => by
            rw [HLL.out] at hm
            obtain ⟨j', hj', rfl⟩ := List.getElem_of_mem hm
            exact HNJ.out j' _ (by omega) (List.getElem?_eq_getElem hj') rfl)
          go_wp2
          go_roundw
          case rel => exact ⟨f + 1, by omega, by go_num, fun f' hf' => by
            by_cases hff : f' = f
            · subst hff; exact HX2.out
            · exact HN.out f' (by omega), HB1.out⟩
          case measure => simp [intOf]; omega
    · have HE := Lib.hid (show a = -1 ∧ b = 0 by
        have := find_none (s := s) fun f' hf' => HN.out f' (by omega)
        rw [HR.out] at this
        injection this with e1 e2
        exact ⟨e1, e2⟩)
      go_wp2
      go_ret2
      exact ⟨by rw [HE.out.1, HE.out.2]; rfl, HB.out⟩
end Go.Proofs.YtcdogkabdhbjmaaDoor
