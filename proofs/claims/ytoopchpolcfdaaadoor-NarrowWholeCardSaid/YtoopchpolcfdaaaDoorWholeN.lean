/- naskhlaw02.NarrowWhole returns true for every slice of numbers. -/
import Derived.Test.YtoopchpolcfdaaaDoorAwakeN
import Derived.Test.YtoopchpolcfdaaaDoorEncN2
namespace Go.Proofs.YtoopchpolcfdaaaDoor
open Go.RowKit

theorem first_back (c : Int) (r : List Int) (h : 0 ≤ c ∧ c ≤ 1114111 ∧ (c < 55296 ∨ 57343 < c)) : firstN (oneN c ++ r) = (c, (oneN c).length) ∧ oneN c ≠ [] := by
  rcases partsN c with ⟨h1, h'⟩ | ⟨h1, h'⟩ | ⟨h1, h'⟩ | ⟨h1, h'⟩ | ⟨h1, h', h''⟩ | ⟨h1, h'⟩
  · omega
  · exact absurd h h'
  · have ho := oneN_1 (sizeN_1 h1 h')
    rw [ho]
    refine ⟨?_, by simp⟩
    show firstN4 (c % 256) _ _ _ = (c, 1)
    unfold firstN4
    rw [if_pos (by omega)]
    congr 1; omega
  · have hs := sizeN_2 h1 h'
    have ho := oneN_2 hs
    rw [ho]
    refine ⟨?_, by simp⟩
    show firstN4 (192 + c / 64) (128 + c % 64) _ _ = (c, 2)
    have hv : v2N (192 + c / 64) (128 + c % 64) = c := by unfold v2N; omega
    unfold firstN4
    rw [if_neg (by omega), hv, if_pos ⟨by omega, by omega, by omega, hs⟩]
  · have hs := sizeN_3 h1 h' h''
    have ho := oneN_3 hs
    rw [ho]
    refine ⟨?_, by simp⟩
    show firstN4 (224 + c / 4096) (128 + c / 64 % 64) (128 + c % 64) _ = (c, 3)
    have hv : v3N (224 + c / 4096) (128 + c / 64 % 64) (128 + c % 64) = c := by unfold v3N; omega
    unfold firstN4
    rw [if_neg (by omega), if_neg (by omega), hv, if_pos ⟨by omega, by omega, by omega, by omega, hs⟩]
  · have hs := sizeN_4 h1 h'
    have ho := oneN_4 hs
    rw [ho]
    refine ⟨?_, by simp⟩
    show firstN4 (240 + c / 262144) (128 + c / 4096 % 64) (128 + c / 64 % 64) (128 + c % 64) = (c, 4)
    have hv : v4N (240 + c / 262144) (128 + c / 4096 % 64) (128 + c / 64 % 64) (128 + c % 64) = c := by unfold v4N; omega
    unfold firstN4
    rw [if_neg (by omega), if_neg (by omega), if_neg (by omega), hv, if_pos ⟨by omega, by omega, by omega, by omega, hs⟩]
theorem whole_back (l : List Int) : (∀ c ∈ l, wholeB c = true) → decN (encN l) = l ∧ (l.any fun x => sizeN x == 0) = false := by
  induction l with
  | nil => exact fun _ => ⟨rfl, rfl⟩
  | cons c l ih =>
    intro h
    obtain ⟨i1, i2⟩ := ih (fun x hx => h x (by simp [hx]))
    have hc := of_decide_eq_true (h c (by simp))
    obtain ⟨e1, e2⟩ := first_back c (encN l) hc
    have he : encN (c :: l) = oneN c ++ encN l := rfl
    refine ⟨?_, ?_⟩
    · rw [he, decN_step _ (by simp [e2]), e1]
      show c :: decN ((oneN c ++ encN l).drop (oneN c).length) = _
      rw [List.drop_left, i1]
    · rw [List.any_cons, i2, Bool.or_false]
      have hp : 0 < (oneN c).length := List.length_pos_iff.2 e2
      have := oneN_len c
      simp; omega

theorem encN_bytes (l : List Int) : ∀ x ∈ encN l, Byte8 x := by
  intro x hx
  obtain ⟨c, _, hc⟩ := List.mem_flatMap.1 hx
  exact one_byte c x hc

/-- The whole codes among the first 500. -/
def selN (l : List Int) (k : Nat) : List Int := ((l.take k).take 500).filter wholeB
theorem selN_len (l : List Int) (k : Nat) : (selN l k).length ≤ 500 := by
  unfold selN
  have h1 := List.length_filter_le wholeB ((l.take k).take 500)
  have h2 : ((l.take k).take 500).length ≤ 500 := List.length_take_le _ _
  omega
theorem selN_whole (l : List Int) (k : Nat) : ∀ c ∈ selN l k, wholeB c = true := fun _ hc => (List.mem_filter.1 hc).2
theorem selN_in {l : List Int} {k : Nat} {x : Int} (h : l[k]? = some x) (hk : k < 500) : selN l (k + 1) = selN l k ++ (if wholeB x = true then [x] else []) := by
  unfold selN
  rw [List.take_take, List.take_take, Nat.min_eq_right (by omega), Nat.min_eq_right (by omega), List.take_add_one, h, List.filter_append]
  congr 1
  by_cases hw : wholeB x = true <;> simp [hw]
theorem selN_out {l : List Int} {k : Nat} (hk : ¬ k < 500) : selN l (k + 1) = selN l k := by
  unfold selN
  rw [List.take_take, List.take_take, Nat.min_eq_left (by omega), Nat.min_eq_left (by omega)]

set_option maxRecDepth 100000 in
set_option maxHeartbeats 2000000 in
theorem narrowWhole_any (A : Option Addr) (n c : Nat) (l : List Int) (w : World) (hs : TabN w) (hr : Rd w 1 A n (l.map (Value.int .i64))) (hm : n ≤ maxLen) :
    Calls Tryd.prog 12 #[.slice A n c] w fun e w' => e = .returned (.bool true) ∧ Below w.heap.size w w' := by
  have hlen : l.length = n := by simpa using hr.len1
  have HL := Lib.hid hlen
  unfold maxLen at hm
  clear hlen
  go_enter Tryd.func12, Tryd.ntmps12
  go_wp2
  go_loopw [3, 10] (fun v i wr => ∃ (k : Nat) (acc : List Int), k ≤ n ∧ i = .int .i64 k ∧ acc = selN l k ∧ acc.length ≤ 500 ∧ wr.ownsRow w.heap.size 3 1 v acc.length (acc.map (Value.int .i64)) ∧ Below w.heap.size w wr) (fun _ i _ => n - (intOf i).toNat)
  case atStart => exact ⟨0, [], Nat.zero_le _, rfl, by simp [selN], Nat.zero_le _, ⟨rfl, .inl ⟨rfl, rfl⟩⟩, Below.refl _ _⟩
  case round =>
    obtain ⟨k, acc, hk, rfl, hacc, hal, hown, hbr⟩ := hrel
    have HA := Lib.hid hacc
    clear hacc
    by_cases hlt : k < n
    · obtain ⟨x, hxk⟩ : ∃ x, l[k]? = some x := ⟨_, List.getElem?_eq_getElem (by rw [HL.out]; exact hlt)⟩
      obtain ⟨ad, rfl, _, hcells⟩ := (hr.below hbr).2 (by omega)
      have hcx : wr.cell? (ad.add k) = some (.int .i64 x) := hcells k _ (by rw [List.getElem?_map, hxk]; rfl)
      have HX := Lib.hid hxk
      clear hxk hcells
      by_cases h5 : k < 500
      · cases hw : wholeB x with
        | true =>
          have HT := Lib.hid (show selN l (k + 1) = acc ++ [x] by rw [selN_in HX.out h5, if_pos hw, HA.out])
          have hal2 := selN_len l (k + 1)
          rw [HT.out, List.length_append] at hal2
          go_wp2_with (first
            | (go_at_call 24; refine (refWhole_any x _).mono ?_; rintro e w' ⟨rfl, rfl⟩)
            | (at_builtin; refine wpList_app rfl _ _ _ rfl intSlice (by decide) u3 acc.length _ rfl (hown.alloc _) ⟨wr.heap.size, 0, none⟩ 1 1 [.int .i64 x] rfl rfl (cell_one_new _ _ _) (oneInt _ _) (by omega) (by unfold maxLen; omega) (Nat.le_trans hbr.size (by simp)) ?_; intro v1 w1 hown1 hg1 hat1))
          have hgr := below_app (hbr.alloc hbr.size _) hg1 (hown.alloc _) (Nat.le_trans hbr.size (by simp))
          go_roundw
          case rel => exact ⟨k + 1, acc ++ [x], by omega, by go_num, HT.out.symm, by rw [List.length_append]; exact hal2, by simpa using hown1, hgr⟩
          case measure => simp [intOf]; omega
        | false =>
          have HT := Lib.hid (show selN l (k + 1) = acc by rw [selN_in HX.out h5, if_neg (by rw [hw]; decide), List.append_nil, HA.out])
          go_wp2_with (first
            | (go_at_call 24; refine (refWhole_any x _).mono ?_; rintro e w' ⟨rfl, rfl⟩))
          go_roundw
          case rel => exact ⟨k + 1, acc, by omega, by go_num, HT.out.symm, hal, hown, hbr⟩
          case measure => simp [intOf]; omega
      · have HT := Lib.hid (show selN l (k + 1) = acc by rw [selN_out h5, HA.out])
        have h5' : ¬ (k : Int) < 500 := by omega
        go_wp2
        go_roundw
        case rel => exact ⟨k + 1, acc, by omega, by go_num, HT.out.symm, hal, hown, hbr⟩
        case measure => simp [intOf]; omega
    · have HW := Lib.hid (whole_back acc (by rw [HA.out]; exact selN_whole l k))
      have hel := encN_len acc
      obtain ⟨A0, c0, rfl, _⟩ := own_form hown
      have hd0 := Rd.of_own hown
      clear hown
      go_wp2_with fail
      refine (encodeN_ok A0 _ c0 acc wr (hs.below hbr) hd0 (by omega) HW.out.2).mono ?_
      rintro e w2 ⟨v, rfl, hown, hb⟩
      obtain ⟨A2, c2, rfl, hc2⟩ := own_form hown
      have hd2 := Rd.of_own hown
      have hd0' := hd0.below hb
      have hb2 : Below w.heap.size w w2 := below_go hbr hbr.size hb
      clear hown hb hd0
      go_wp2_with fail
      refine (decodeN_any A2 _ c2 (encN acc) w2 (hs.below hb2) hd2 (encN_bytes acc) (by omega) hc2).mono ?_
      rintro e w3 ⟨v, rfl, hown, hb⟩
      rw [HW.out.1] at hown
      obtain ⟨A3, c3, rfl, _⟩ := own_form hown
      have hd3 := Rd.of_own hown
      have hd0 := hd0'.below hb
      have hb3 := below_self hb2 hb
      clear hown hb hd0' hb2
      go_wp2_with fail
      refine (equalInt_b A3 A0 _ _ c3 c0 acc acc w3 hd3 hd0 (by unfold maxLen; omega) (by unfold maxLen; omega)).mono ?_
      rintro e w4 ⟨rfl, hb⟩
      have hb4 := below_self hb3 hb
      clear hb hb3
      simp only [decide_true]
      go_wp2_with fail
      refine (awakeN_any _ (hs.below hb4)).mono ?_
      rintro e w5 ⟨rfl, hb⟩
      have hb5 := below_self hb4 hb
      clear hb hb4
      go_wp2
      go_ret
      exact ⟨rfl, hb5⟩
end Go.Proofs.YtoopchpolcfdaaaDoor
