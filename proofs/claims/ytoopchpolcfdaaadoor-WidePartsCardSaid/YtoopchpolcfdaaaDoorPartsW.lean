/- naskhlaw01.WideParts returns true for every two slices of units. -/
import Derived.Test.YtoopchpolcfdaaaDoorAwakeW
import Derived.Test.YtoopchpolcfdaaaDoorCloneH
namespace Go.Proofs.YtoopchpolcfdaaaDoor
open Go.RowKit

theorem decW_append (us vs : List Int) (h : us = [] ∨ vs = [] ∨ ∃ x y, us.getLast? = some x ∧ vs.head? = some y ∧ ¬ (55296 ≤ x ∧ x < 56320 ∧ 56320 ≤ y ∧ y ≤ 57343)) : decW (us ++ vs) = decW us ++ decW vs := by
  fun_induction decW us with
  | case1 => rfl
  | case2 x =>
    match vs, h with
    | [], _ => rfl
    | y :: r, h =>
      have ho : opensW x y = false := by
        rcases h with h | h | ⟨x', y', h1, h2, h3⟩
        · cases h
        · cases h
        · simp at h1 h2
          subst h1; subst h2
          exact decide_eq_false h3
      simp [decW, ho]
  | case3 x y r ho ih =>
    have := ih (by
      rcases h with h | h | ⟨x', y', h1, h2, h3⟩
      · cases h
      · exact .inr (.inl h)
      · match r, h1 with
        | [], _ => exact .inl rfl
        | z :: r, h1 => exact .inr (.inr ⟨x', y', by simpa using h1, h2, h3⟩))
    simp [decW, ho, this]
  | case4 x y r ho ih =>
    have := ih (by
      rcases h with h | h | ⟨x', y', h1, h2, h3⟩
      · cases h
      · exact .inr (.inl h)
      · exact .inr (.inr ⟨x', y', by simpa using h1, h2, h3⟩))
    simp only [List.cons_append] at this
    simp [decW, ho, this]

/-- What the caller knows of the two slices, and of their ends. -/
structure Parts (w : World) (A B : Option Addr) (n m c d : Nat) (us vs : List Int) : Prop where
  hs : Stretches w
  hr : Rd w 1 A n (us.map (Value.int .u16))
  hq : Rd w 1 B m (vs.map (Value.int .u16))
  hu : ∀ x ∈ us, Unit16 x
  hv : ∀ x ∈ vs, Unit16 x
  hc : n ≤ c
  hd : m ≤ d

set_option maxHeartbeats 2000000 in
theorem parts_great (A B : Option Addr) (n m c d : Nat) (us vs : List Int) (w : World) (hp : Parts w A B n m c d us vs) (hg : 1000 < n ∨ 1000 < m) :
    Calls Tryd.prog 7 #[.slice A n c, .slice B m d] w fun e w' => e = .returned (.bool true) ∧ Below w.heap.size w w' := by
  obtain ⟨hs, hr, hq, hu, hv, hc, hd⟩ := hp
  have hl1 := decW_len us
  have hl2 := decW_len vs
  have hul : us.length = n := by simpa using hr.len1
  have hvl : vs.length = m := by simpa using hq.len1
  rw [hul] at hl1
  rw [hvl] at hl2
  clear hul hvl
  by_cases hg1 : 1000 < n
  · go_enter Tryd.func7, Tryd.ntmps7
    go_wp2_with fail
    refine (awakeW_any _ hs).mono ?_
    rintro e w8 ⟨rfl, hb⟩
    go_wp2
    go_ret
    exact ⟨rfl, hb⟩
  · have hg2 : 1000 < m := by omega
    clear hg
    go_enter Tryd.func7, Tryd.ntmps7
    go_wp2_with fail
    refine (awakeW_any _ hs).mono ?_
    rintro e w8 ⟨rfl, hb⟩
    go_wp2
    go_ret
    exact ⟨rfl, hb⟩

set_option maxHeartbeats 2000000 in
theorem parts_left (A B : Option Addr) (n m c d : Nat) (us vs : List Int) (w : World) (hp : Parts w A B n m c d us vs) (hn : n = 0) (hm : m ≤ 1000) :
    Calls Tryd.prog 7 #[.slice A n c, .slice B m d] w fun e w' => e = .returned (.bool true) ∧ Below w.heap.size w w' := by
  obtain ⟨hs, hr, hq, hu, hv, hc, hd⟩ := hp
  have hl1 := decW_len us
  have hl2 := decW_len vs
  have hul : us.length = n := by simpa using hr.len1
  have hvl : vs.length = m := by simpa using hq.len1
  rw [hul] at hl1
  rw [hvl] at hl2
  subst hn
  have hn : 0 ≤ 1000 := by omega
  have HA := Lib.hid (decW_append us vs (.inl (List.eq_nil_of_length_eq_zero hul)))
  clear hul hvl
  go_enter Tryd.func7, Tryd.ntmps7
  go_wp2_with fail
  refine (cloneU16_any A 0 c _ w hr (oneInts _ us) (by omega)).mono ?_
  rintro e w1 ⟨v, rfl, hown, hb1⟩
  have hr1 := hr.below hb1
  have hq1 := hq.below hb1
  go_wp2_with (at_builtin; refine wpList_appR rfl _ _ _ rfl u16Slice (by decide) v 0 _ rfl hown B m d _ rfl hq1 (oneInts _ vs) (by omega) (by unfold maxLen; omega) hb1.size ?_; intro v2 w2 hown2 hg2 hat2)
  have hb2 := below_app hb1 hg2 hown hb1.size
  obtain ⟨A2, c2, rfl, hc2⟩ := own_form hown2
  have hall := Rd.of_own hown2
  rw [← List.map_append] at hall
  have hr2 := hr.below hb2
  have hq2 := hq.below hb2
  clear hown hown2 hg2 hat2 hr1 hq1 hb1
  have HB := Lib.hid hb2
  clear hb2
  go_wp2_with fail
  refine (decode_any A2 (0 + m) c2 (us ++ vs) w2 hall (by intro x hx; rcases List.mem_append.1 hx with h | h; exact hu x h; exact hv x h) (by omega) hc2).mono ?_
  rintro e w3 ⟨v, rfl, hown, hb⟩
  obtain ⟨A3, c3, rfl, hc3⟩ := own_form hown
  have hd3 := Rd.of_own hown
  have hb3 := below_self HB.out hb
  have hr3 := hr2.below hb
  have hq3 := hq2.below hb
  clear hown hb hr2 hq2 HB hall
  go_wp2_with fail
  refine (decode_any A 0 c us w3 hr3 hu (by omega) hc).mono ?_
  rintro e w4 ⟨v4, rfl, hown4, hb4⟩
  have hq4 := hq3.below hb4
  go_wp2_with fail
  refine (decode_any B m d vs w4 hq4 hv (by omega) hd).mono ?_
  rintro e w5 ⟨v, rfl, hown, hb5⟩
  obtain ⟨A5, c5, rfl, hc5⟩ := own_form hown
  have hd5 := Rd.of_own hown
  have hown5 := hown4.kept (w' := w5) (row := none) ⟨hb5.os, hb5.tape, hb5.output, hb5.size, fun k hk _ => hb5.block k hk⟩ (by rcases v4.ownBlock with _ | _ <;> simp)
  have hb35 := hb4.trans (hb5.mono hb4.size)
  clear hown hown4 hq3 hq4 hb4 hb5 hr3
  go_wp2_with (at_builtin; refine wpList_appR rfl _ _ _ rfl intSlice (by decide) v4 _ _ rfl hown5 A5 _ c5 _ rfl hd5 (oneInts _ (decW vs)) (by omega) (by unfold maxLen; omega) hb35.size ?_; intro v6 w6 hown6 hg6 hat6)
  have hb36 := below_app hb35 hg6 hown5 hb35.size
  obtain ⟨A6, c6, rfl, hc6⟩ := own_form hown6
  have hd6 := Rd.of_own hown6
  have hd3' := hd3.below hb36
  have hb6 := below_self hb3 hb36
  rw [← List.map_append, ← HA.out] at hd6
  clear hown6 hg6 hat6 hb35 hb36 hd3 hd5 hb3 hown5
  have HL6 := Lib.hid (show (decW us).length + (decW vs).length = (decW (us ++ vs)).length by rw [HA.out, List.length_append])
  go_wp2_with fail
  refine (equalInt_b A3 A6 _ _ c3 c6 _ _ w6 hd3' hd6 (by have := HL6.out; unfold maxLen; omega) (by unfold maxLen; omega)).mono ?_
  rintro e w7 ⟨rfl, hb⟩
  have hb7 := below_self hb6 hb
  clear hb
  simp only [decide_true]
  go_wp2_with fail
  refine (awakeW_any _ (hs.below hb7)).mono ?_
  rintro e w8 ⟨rfl, hb⟩
  have hb8 := below_self hb7 hb
  clear hb hb7
  go_wp2
  go_ret
  exact ⟨rfl, hb8⟩

set_option maxHeartbeats 2000000 in
theorem parts_right (A B : Option Addr) (n m c d : Nat) (us vs : List Int) (w : World) (hp : Parts w A B n m c d us vs) (hn0 : 0 < n) (hn : n ≤ 1000) (hm : m = 0) :
    Calls Tryd.prog 7 #[.slice A n c, .slice B m d] w fun e w' => e = .returned (.bool true) ∧ Below w.heap.size w w' := by
  obtain ⟨hs, hr, hq, hu, hv, hc, hd⟩ := hp
  have hl1 := decW_len us
  have hl2 := decW_len vs
  have hul : us.length = n := by simpa using hr.len1
  have hvl : vs.length = m := by simpa using hq.len1
  rw [hul] at hl1
  rw [hvl] at hl2
  subst hm
  have hm : 0 ≤ 1000 := by omega
  have HA := Lib.hid (decW_append us vs (.inr (.inl (List.eq_nil_of_length_eq_zero hvl))))
  clear hul hvl
  go_enter Tryd.func7, Tryd.ntmps7
  go_wp2_with fail
  refine (cloneU16_any A n c _ w hr (oneInts _ us) (by omega)).mono ?_
  rintro e w1 ⟨v, rfl, hown, hb1⟩
  have hr1 := hr.below hb1
  have hq1 := hq.below hb1
  go_wp2_with (at_builtin; refine wpList_appR rfl _ _ _ rfl u16Slice (by decide) v n _ rfl hown B 0 d _ rfl hq1 (oneInts _ vs) (by omega) (by unfold maxLen; omega) hb1.size ?_; intro v2 w2 hown2 hg2 hat2)
  have hb2 := below_app hb1 hg2 hown hb1.size
  obtain ⟨A2, c2, rfl, hc2⟩ := own_form hown2
  have hall := Rd.of_own hown2
  rw [← List.map_append] at hall
  have hr2 := hr.below hb2
  have hq2 := hq.below hb2
  clear hown hown2 hg2 hat2 hr1 hq1 hb1
  have HB := Lib.hid hb2
  clear hb2
  go_wp2_with fail
  refine (decode_any A2 (n + 0) c2 (us ++ vs) w2 hall (by intro x hx; rcases List.mem_append.1 hx with h | h; exact hu x h; exact hv x h) (by omega) hc2).mono ?_
  rintro e w3 ⟨v, rfl, hown, hb⟩
  obtain ⟨A3, c3, rfl, hc3⟩ := own_form hown
  have hd3 := Rd.of_own hown
  have hb3 := below_self HB.out hb
  have hr3 := hr2.below hb
  have hq3 := hq2.below hb
  clear hown hb hr2 hq2 HB hall
  go_wp2_with fail
  refine (decode_any A n c us w3 hr3 hu (by omega) hc).mono ?_
  rintro e w4 ⟨v4, rfl, hown4, hb4⟩
  have hq4 := hq3.below hb4
  go_wp2_with fail
  refine (decode_any B 0 d vs w4 hq4 hv (by omega) hd).mono ?_
  rintro e w5 ⟨v, rfl, hown, hb5⟩
  obtain ⟨A5, c5, rfl, hc5⟩ := own_form hown
  have hd5 := Rd.of_own hown
  have hown5 := hown4.kept (w' := w5) (row := none) ⟨hb5.os, hb5.tape, hb5.output, hb5.size, fun k hk _ => hb5.block k hk⟩ (by rcases v4.ownBlock with _ | _ <;> simp)
  have hb35 := hb4.trans (hb5.mono hb4.size)
  clear hown hown4 hq3 hq4 hb4 hb5 hr3
  go_wp2_with (at_builtin; refine wpList_appR rfl _ _ _ rfl intSlice (by decide) v4 _ _ rfl hown5 A5 _ c5 _ rfl hd5 (oneInts _ (decW vs)) (by omega) (by unfold maxLen; omega) hb35.size ?_; intro v6 w6 hown6 hg6 hat6)
  have hb36 := below_app hb35 hg6 hown5 hb35.size
  obtain ⟨A6, c6, rfl, hc6⟩ := own_form hown6
  have hd6 := Rd.of_own hown6
  have hd3' := hd3.below hb36
  have hb6 := below_self hb3 hb36
  rw [← List.map_append, ← HA.out] at hd6
  clear hown6 hg6 hat6 hb35 hb36 hd3 hd5 hb3 hown5
  have HL6 := Lib.hid (show (decW us).length + (decW vs).length = (decW (us ++ vs)).length by rw [HA.out, List.length_append])
  go_wp2_with fail
  refine (equalInt_b A3 A6 _ _ c3 c6 _ _ w6 hd3' hd6 (by have := HL6.out; unfold maxLen; omega) (by unfold maxLen; omega)).mono ?_
  rintro e w7 ⟨rfl, hb⟩
  have hb7 := below_self hb6 hb
  clear hb
  simp only [decide_true]
  go_wp2_with fail
  refine (awakeW_any _ (hs.below hb7)).mono ?_
  rintro e w8 ⟨rfl, hb⟩
  have hb8 := below_self hb7 hb
  clear hb hb7
  go_wp2
  go_ret
  exact ⟨rfl, hb8⟩

set_option maxHeartbeats 2000000 in
theorem parts_one (A B : Option Addr) (n m c d : Nat) (us vs : List Int) (w : World) (hp : Parts w A B n m c d us vs) (x y : Int) (hx : us[n - 1]? = some x) (hy : vs[0]? = some y) (hn0 : 0 < n) (hn : n ≤ 1000) (hm0 : 0 < m) (hm : m ≤ 1000) (hne : x < 55296 ∨ 56320 ≤ x) :
    Calls Tryd.prog 7 #[.slice A n c, .slice B m d] w fun e w' => e = .returned (.bool true) ∧ Below w.heap.size w w' := by
  obtain ⟨hs, hr, hq, hu, hv, hc, hd⟩ := hp
  have hl1 := decW_len us
  have hl2 := decW_len vs
  have hul : us.length = n := by simpa using hr.len1
  have hvl : vs.length = m := by simpa using hq.len1
  rw [hul] at hl1
  rw [hvl] at hl2
  have hlast : us.getLast? = some x := by rw [List.getLast?_eq_getElem?, hul]; exact hx
  have hhead : vs.head? = some y := by rw [List.head?_eq_getElem?]; exact hy
  have HA := Lib.hid (decW_append us vs (.inr (.inr ⟨x, y, hlast, hhead, by omega⟩)))
  obtain ⟨a, rfl, _, hca⟩ := hr.2 hn0
  obtain ⟨b, rfl, _, hcb⟩ := hq.2 hm0
  have hx0 : w.cell? (a.add (n - 1)) = some (.int .u16 x) := hca _ _ (by rw [List.getElem?_map, hx]; rfl)
  have hy0 : w.cell? (b.add 0) = some (.int .u16 y) := hcb _ _ (by rw [List.getElem?_map, hy]; rfl)
  have hy0' : w.cell? b = some (.int .u16 y) := hy0
  obtain ⟨x0, x1⟩ := unit_at hu hx
  obtain ⟨y0, y1⟩ := unit_at hv hy
  have hxd : (x / 1024 == 54) = false := by simp; omega
  clear hne
  clear hlast hhead hx hy hca hcb
  clear hul hvl
  go_enter Tryd.func7, Tryd.ntmps7
  go_wp2_with fail
  refine (cloneU16_any (some a) n c _ w hr (oneInts _ us) (by omega)).mono ?_
  rintro e w1 ⟨v, rfl, hown, hb1⟩
  have hr1 := hr.below hb1
  have hq1 := hq.below hb1
  go_wp2_with (at_builtin; refine wpList_appR rfl _ _ _ rfl u16Slice (by decide) v n _ rfl hown (some b) m d _ rfl hq1 (oneInts _ vs) (by omega) (by unfold maxLen; omega) hb1.size ?_; intro v2 w2 hown2 hg2 hat2)
  have hb2 := below_app hb1 hg2 hown hb1.size
  obtain ⟨A2, c2, rfl, hc2⟩ := own_form hown2
  have hall := Rd.of_own hown2
  rw [← List.map_append] at hall
  have hr2 := hr.below hb2
  have hq2 := hq.below hb2
  clear hown hown2 hg2 hat2 hr1 hq1 hb1
  have HB := Lib.hid hb2
  clear hb2
  go_wp2_with fail
  refine (decode_any A2 (n + m) c2 (us ++ vs) w2 hall (by intro x hx; rcases List.mem_append.1 hx with h | h; exact hu x h; exact hv x h) (by omega) hc2).mono ?_
  rintro e w3 ⟨v, rfl, hown, hb⟩
  obtain ⟨A3, c3, rfl, hc3⟩ := own_form hown
  have hd3 := Rd.of_own hown
  have hb3 := below_self HB.out hb
  have hr3 := hr2.below hb
  have hq3 := hq2.below hb
  clear hown hb hr2 hq2 HB hall
  go_wp2_with fail
  refine (decode_any (some a) n c us w3 hr3 hu (by omega) hc).mono ?_
  rintro e w4 ⟨v4, rfl, hown4, hb4⟩
  have hq4 := hq3.below hb4
  go_wp2_with fail
  refine (decode_any (some b) m d vs w4 hq4 hv (by omega) hd).mono ?_
  rintro e w5 ⟨v, rfl, hown, hb5⟩
  obtain ⟨A5, c5, rfl, hc5⟩ := own_form hown
  have hd5 := Rd.of_own hown
  have hown5 := hown4.kept (w' := w5) (row := none) ⟨hb5.os, hb5.tape, hb5.output, hb5.size, fun k hk _ => hb5.block k hk⟩ (by rcases v4.ownBlock with _ | _ <;> simp)
  have hb35 := hb4.trans (hb5.mono hb4.size)
  clear hown hown4 hq3 hq4 hb4 hb5 hr3
  go_wp2_with (at_builtin; refine wpList_appR rfl _ _ _ rfl intSlice (by decide) v4 _ _ rfl hown5 A5 _ c5 _ rfl hd5 (oneInts _ (decW vs)) (by omega) (by unfold maxLen; omega) hb35.size ?_; intro v6 w6 hown6 hg6 hat6)
  have hb36 := below_app hb35 hg6 hown5 hb35.size
  obtain ⟨A6, c6, rfl, hc6⟩ := own_form hown6
  have hd6 := Rd.of_own hown6
  have hd3' := hd3.below hb36
  have hb6 := below_self hb3 hb36
  rw [← List.map_append, ← HA.out] at hd6
  clear hown6 hg6 hat6 hb35 hb36 hd3 hd5 hb3 hown5
  have HL6 := Lib.hid (show (decW us).length + (decW vs).length = (decW (us ++ vs)).length by rw [HA.out, List.length_append])
  go_wp2_with fail
  refine (equalInt_b A3 A6 _ _ c3 c6 _ _ w6 hd3' hd6 (by have := HL6.out; unfold maxLen; omega) (by unfold maxLen; omega)).mono ?_
  rintro e w7 ⟨rfl, hb⟩
  have hb7 := below_self hb6 hb
  clear hb
  simp only [decide_true]
  go_wp2_with fail
  refine (awakeW_any _ (hs.below hb7)).mono ?_
  rintro e w8 ⟨rfl, hb⟩
  have hb8 := below_self hb7 hb
  clear hb hb7
  go_wp2
  go_ret
  exact ⟨rfl, hb8⟩

set_option maxHeartbeats 2000000 in
theorem parts_two (A B : Option Addr) (n m c d : Nat) (us vs : List Int) (w : World) (hp : Parts w A B n m c d us vs) (x y : Int) (hx : us[n - 1]? = some x) (hy : vs[0]? = some y) (hn0 : 0 < n) (hn : n ≤ 1000) (hm0 : 0 < m) (hm : m ≤ 1000) (hne : 55296 ≤ x) (hne2 : x < 56320) (hne3 : y < 56320 ∨ 57343 < y) :
    Calls Tryd.prog 7 #[.slice A n c, .slice B m d] w fun e w' => e = .returned (.bool true) ∧ Below w.heap.size w w' := by
  obtain ⟨hs, hr, hq, hu, hv, hc, hd⟩ := hp
  have hl1 := decW_len us
  have hl2 := decW_len vs
  have hul : us.length = n := by simpa using hr.len1
  have hvl : vs.length = m := by simpa using hq.len1
  rw [hul] at hl1
  rw [hvl] at hl2
  have hlast : us.getLast? = some x := by rw [List.getLast?_eq_getElem?, hul]; exact hx
  have hhead : vs.head? = some y := by rw [List.head?_eq_getElem?]; exact hy
  have HA := Lib.hid (decW_append us vs (.inr (.inr ⟨x, y, hlast, hhead, by omega⟩)))
  obtain ⟨a, rfl, _, hca⟩ := hr.2 hn0
  obtain ⟨b, rfl, _, hcb⟩ := hq.2 hm0
  have hx0 : w.cell? (a.add (n - 1)) = some (.int .u16 x) := hca _ _ (by rw [List.getElem?_map, hx]; rfl)
  have hy0 : w.cell? (b.add 0) = some (.int .u16 y) := hcb _ _ (by rw [List.getElem?_map, hy]; rfl)
  have hy0' : w.cell? b = some (.int .u16 y) := hy0
  obtain ⟨x0, x1⟩ := unit_at hu hx
  obtain ⟨y0, y1⟩ := unit_at hv hy
  have hxd : (y / 1024 == 55) = false := by simp; omega
  clear hne3
  clear hlast hhead hx hy hca hcb
  clear hul hvl
  go_enter Tryd.func7, Tryd.ntmps7
  go_wp2_with fail
  refine (cloneU16_any (some a) n c _ w hr (oneInts _ us) (by omega)).mono ?_
  rintro e w1 ⟨v, rfl, hown, hb1⟩
  have hr1 := hr.below hb1
  have hq1 := hq.below hb1
  go_wp2_with (at_builtin; refine wpList_appR rfl _ _ _ rfl u16Slice (by decide) v n _ rfl hown (some b) m d _ rfl hq1 (oneInts _ vs) (by omega) (by unfold maxLen; omega) hb1.size ?_; intro v2 w2 hown2 hg2 hat2)
  have hb2 := below_app hb1 hg2 hown hb1.size
  obtain ⟨A2, c2, rfl, hc2⟩ := own_form hown2
  have hall := Rd.of_own hown2
  rw [← List.map_append] at hall
  have hr2 := hr.below hb2
  have hq2 := hq.below hb2
  clear hown hown2 hg2 hat2 hr1 hq1 hb1
  have HB := Lib.hid hb2
  clear hb2
  go_wp2_with fail
  refine (decode_any A2 (n + m) c2 (us ++ vs) w2 hall (by intro x hx; rcases List.mem_append.1 hx with h | h; exact hu x h; exact hv x h) (by omega) hc2).mono ?_
  rintro e w3 ⟨v, rfl, hown, hb⟩
  obtain ⟨A3, c3, rfl, hc3⟩ := own_form hown
  have hd3 := Rd.of_own hown
  have hb3 := below_self HB.out hb
  have hr3 := hr2.below hb
  have hq3 := hq2.below hb
  clear hown hb hr2 hq2 HB hall
  go_wp2_with fail
  refine (decode_any (some a) n c us w3 hr3 hu (by omega) hc).mono ?_
  rintro e w4 ⟨v4, rfl, hown4, hb4⟩
  have hq4 := hq3.below hb4
  go_wp2_with fail
  refine (decode_any (some b) m d vs w4 hq4 hv (by omega) hd).mono ?_
  rintro e w5 ⟨v, rfl, hown, hb5⟩
  obtain ⟨A5, c5, rfl, hc5⟩ := own_form hown
  have hd5 := Rd.of_own hown
  have hown5 := hown4.kept (w' := w5) (row := none) ⟨hb5.os, hb5.tape, hb5.output, hb5.size, fun k hk _ => hb5.block k hk⟩ (by rcases v4.ownBlock with _ | _ <;> simp)
  have hb35 := hb4.trans (hb5.mono hb4.size)
  clear hown hown4 hq3 hq4 hb4 hb5 hr3
  go_wp2_with (at_builtin; refine wpList_appR rfl _ _ _ rfl intSlice (by decide) v4 _ _ rfl hown5 A5 _ c5 _ rfl hd5 (oneInts _ (decW vs)) (by omega) (by unfold maxLen; omega) hb35.size ?_; intro v6 w6 hown6 hg6 hat6)
  have hb36 := below_app hb35 hg6 hown5 hb35.size
  obtain ⟨A6, c6, rfl, hc6⟩ := own_form hown6
  have hd6 := Rd.of_own hown6
  have hd3' := hd3.below hb36
  have hb6 := below_self hb3 hb36
  rw [← List.map_append, ← HA.out] at hd6
  clear hown6 hg6 hat6 hb35 hb36 hd3 hd5 hb3 hown5
  have HL6 := Lib.hid (show (decW us).length + (decW vs).length = (decW (us ++ vs)).length by rw [HA.out, List.length_append])
  go_wp2_with fail
  refine (equalInt_b A3 A6 _ _ c3 c6 _ _ w6 hd3' hd6 (by have := HL6.out; unfold maxLen; omega) (by unfold maxLen; omega)).mono ?_
  rintro e w7 ⟨rfl, hb⟩
  have hb7 := below_self hb6 hb
  clear hb
  simp only [decide_true]
  go_wp2_with fail
  refine (awakeW_any _ (hs.below hb7)).mono ?_
  rintro e w8 ⟨rfl, hb⟩
  have hb8 := below_self hb7 hb
  clear hb hb7
  go_wp2
  go_ret
  exact ⟨rfl, hb8⟩

set_option maxHeartbeats 2000000 in
theorem parts_cut (A B : Option Addr) (n m c d : Nat) (us vs : List Int) (w : World) (hp : Parts w A B n m c d us vs) (x y : Int) (hx : us[n - 1]? = some x) (hy : vs[0]? = some y) (hn0 : 0 < n) (hn : n ≤ 1000) (hm0 : 0 < m) (hm : m ≤ 1000) (hne : 55296 ≤ x) (hne2 : x < 56320) (hne3 : 56320 ≤ y) (hne4 : y ≤ 57343) :
    Calls Tryd.prog 7 #[.slice A n c, .slice B m d] w fun e w' => e = .returned (.bool true) ∧ Below w.heap.size w w' := by
  obtain ⟨hs, hr, hq, hu, hv, hc, hd⟩ := hp
  have hl1 := decW_len us
  have hl2 := decW_len vs
  have hul : us.length = n := by simpa using hr.len1
  have hvl : vs.length = m := by simpa using hq.len1
  rw [hul] at hl1
  rw [hvl] at hl2
  obtain ⟨a, rfl, _, hca⟩ := hr.2 hn0
  obtain ⟨b, rfl, _, hcb⟩ := hq.2 hm0
  have hx0 : w.cell? (a.add (n - 1)) = some (.int .u16 x) := hca _ _ (by rw [List.getElem?_map, hx]; rfl)
  have hy0 : w.cell? (b.add 0) = some (.int .u16 y) := hcb _ _ (by rw [List.getElem?_map, hy]; rfl)
  have hy0' : w.cell? b = some (.int .u16 y) := hy0
  obtain ⟨x0, x1⟩ := unit_at hu hx
  obtain ⟨y0, y1⟩ := unit_at hv hy
  clear hx hy hca hcb
  clear hul hvl
  go_enter Tryd.func7, Tryd.ntmps7
  go_wp2_with fail
  refine (awakeW_any _ hs).mono ?_
  rintro e w8 ⟨rfl, hb⟩
  go_wp2
  go_ret
  exact ⟨rfl, hb⟩

theorem wideParts_any (A B : Option Addr) (n m c d : Nat) (us vs : List Int) (w : World) (hp : Parts w A B n m c d us vs) :
    Calls Tryd.prog 7 #[.slice A n c, .slice B m d] w fun e w' => e = .returned (.bool true) ∧ Below w.heap.size w w' := by
  have hul : us.length = n := by simpa using hp.hr.len1
  have hvl : vs.length = m := by simpa using hp.hq.len1
  by_cases hg : 1000 < n ∨ 1000 < m
  · exact parts_great A B n m c d us vs w hp hg
  rcases Nat.eq_zero_or_pos n with h0 | h0
  · exact parts_left A B n m c d us vs w hp h0 (by omega)
  rcases Nat.eq_zero_or_pos m with h1 | h1
  · exact parts_right A B n m c d us vs w hp h0 (by omega) h1
  obtain ⟨x, hx⟩ : ∃ x, us[n - 1]? = some x := ⟨_, List.getElem?_eq_getElem (by omega)⟩
  obtain ⟨y, hy⟩ : ∃ y, vs[0]? = some y := ⟨_, List.getElem?_eq_getElem (by omega)⟩
  by_cases hxh : x < 55296 ∨ 56320 ≤ x
  · exact parts_one A B n m c d us vs w hp x y hx hy h0 (by omega) h1 (by omega) hxh
  by_cases hyl : y < 56320 ∨ 57343 < y
  · exact parts_two A B n m c d us vs w hp x y hx hy h0 (by omega) h1 (by omega) (by omega) (by omega) hyl
  exact parts_cut A B n m c d us vs w hp x y hx hy h0 (by omega) h1 (by omega) (by omega) (by omega) (by omega) (by omega)
end Go.Proofs.YtoopchpolcfdaaaDoor
