/- naskhlaw02.NarrowBack returns true for every slice of bytes. -/
import Derived.Test.YtoopchpolcfdaaaDoorAwakeN
import Derived.Test.YtoopchpolcfdaaaDoorEncN2
import Derived.Test.YtoopchpolcfdaaaDoorEqB
namespace Go.Proofs.YtoopchpolcfdaaaDoor
open Go.RowKit

/-- A code that is whole, or that of a byte that is ill. -/
def fineN (c : Int) : Prop := (0 ≤ c ∧ c ≤ 1114111 ∧ (c < 55296 ∨ 57343 < c)) ∨ (1114240 ≤ c ∧ c ≤ 1114367)
theorem take1 {bs : List Int} (h : 1 ≤ bs.length) : bs.take 1 = [bs.getD 0 0] := by
  match bs, h with
  | a :: r, _ => rfl
theorem back_first (bs : List Int) (h : bs ≠ []) (hu : ∀ x ∈ bs, Byte8 x) : oneN (firstN bs).1 = bs.take (firstN bs).2 ∧ (sizeN (firstN bs).1 == 0) = false ∧ fineN (firstN bs).1 := by
  have hl : 0 < bs.length := by
    cases bs with
    | nil => exact absurd rfl h
    | cons _ _ => simp
  obtain ⟨x0, x1⟩ := byte_getD hu 0
  unfold firstN firstN4
  split
  · rename_i c
    have hs := sizeN_1 x0 c
    refine ⟨?_, by rw [hs]; rfl, .inl (by omega)⟩
    show oneN _ = bs.take 1
    rw [oneN_1 hs, take1 hl]
    congr 1; omega
  · rename_i c
    split
    · rename_i g
      have hn := getD_lt (bs := bs) (i := 1) (by omega)
      have hs := g.2.2.2
      have := (sizeN_inv _).1 hs
      refine ⟨?_, by show (sizeN (v2N _ _) == 0) = false; rw [hs]; rfl, .inl (by show 0 ≤ v2N _ _ ∧ _; omega)⟩
      show oneN (v2N _ _) = bs.take 2
      rw [oneN_2 hs, take2 hn]
      unfold v2N
      congr 1
      · omega
      · congr 1; omega
    · split
      · rename_i g
        have hn := getD_lt (bs := bs) (i := 2) (by omega)
        have hs := g.2.2.2.2
        have := (sizeN_inv _).2.1 hs
        refine ⟨?_, by show (sizeN (v3N _ _ _) == 0) = false; rw [hs]; rfl, .inl (by show 0 ≤ v3N _ _ _ ∧ _; omega)⟩
        show oneN (v3N _ _ _) = bs.take 3
        rw [oneN_3 hs, take3 hn]
        unfold v3N
        congr 1
        · omega
        · congr 1
          · omega
          · congr 1; omega
      · split
        · rename_i g
          have hn := getD_lt (bs := bs) (i := 3) (by omega)
          have hs := g.2.2.2.2
          have := (sizeN_inv _).2.2 hs
          refine ⟨?_, by show (sizeN (v4N _ _ _ _) == 0) = false; rw [hs]; rfl, .inl (by show 0 ≤ v4N _ _ _ _ ∧ _; omega)⟩
          show oneN (v4N _ _ _ _) = bs.take 4
          rw [oneN_4 hs, take4 hn]
          unfold v4N
          congr 1
          · omega
          · congr 1
            · omega
            · congr 1
              · omega
              · congr 1; omega
        · have hs := sizeN_illByte' (by omega) x1
          refine ⟨?_, by show (sizeN (1114112 + _) == 0) = false; rw [hs]; rfl, .inr (by show 1114240 ≤ 1114112 + _ ∧ 1114112 + _ ≤ 1114367; omega)⟩
          show oneN (1114112 + _) = bs.take 1
          rw [oneN_1 hs, take1 hl]
          congr 1; omega
where sizeN_illByte' {x : Int} (h : 128 ≤ x) (h' : x ≤ 255) : sizeN (1114112 + x) = 1 := sizeN_ill (by omega) (by omega)

theorem backN_all (bs : List Int) : (∀ x ∈ bs, Byte8 x) → encN (decN bs) = bs ∧ ((decN bs).any fun x => sizeN x == 0) = false ∧ ∀ c ∈ decN bs, fineN c := by
  refine decN_ind (fun bs => (∀ x ∈ bs, Byte8 x) → encN (decN bs) = bs ∧ ((decN bs).any fun x => sizeN x == 0) = false ∧ ∀ c ∈ decN bs, fineN c) (fun _ => ⟨rfl, rfl, fun c h => by cases h⟩) (fun bs he ih hu => ?_) bs
  obtain ⟨i1, i2, i3⟩ := ih (fun x hx => hu x (List.mem_of_mem_drop hx))
  obtain ⟨e1, e2, e3⟩ := back_first bs he hu
  rw [decN_step bs he]
  refine ⟨?_, by rw [List.any_cons, e2, i2]; rfl, fun c hc => ?_⟩
  · show oneN _ ++ encN _ = bs
    rw [e1, i1, List.take_append_drop]
  · rcases List.mem_cons.1 hc with rfl | hc
    · exact e3
    · exact i3 c hc

set_option maxHeartbeats 2000000 in
theorem narrowBack_any (A : Option Addr) (n c : Nat) (us : List Int) (w : World) (hs : TabN w) (hr : Rd w 1 A n (us.map (Value.int .u8))) (hu : ∀ x ∈ us, Byte8 x) (hc : n ≤ c) :
    Calls Tryd.prog 11 #[.slice A n c] w fun e w' => e = .returned (.bool true) ∧ Below w.heap.size w w' := by
  have hlen : us.length = n := by simpa using hr.len1
  have hdl := decN_len us
  rw [hlen] at hdl
  have HL := Lib.hid hlen
  clear hlen
  by_cases hlt : n ≤ 2000
  · have HB := Lib.hid (backN_all us hu)
    go_enter Tryd.func11, Tryd.ntmps11
    go_wp2_with fail
    refine (decodeN_any A n c us w hs hr hu (by omega) hc).mono ?_
    rintro e w1 ⟨v, rfl, hown, hb1⟩
    obtain ⟨A1, c1, rfl, _⟩ := own_form hown
    have hd1 := Rd.of_own hown
    clear hown
    go_wp2_with fail
    refine (encodeN_ok A1 _ c1 (decN us) w1 (hs.below hb1) hd1 (by omega) HB.out.2.1).mono ?_
    rintro e w2 ⟨v, rfl, hown, hb⟩
    obtain ⟨A2, c2, rfl, _⟩ := own_form hown
    have hd2 := Rd.of_own hown
    have hb2 := below_self hb1 hb
    have hd1' := hd1.below hb
    have HE := Lib.hid (show (encN (decN us)).length = n by rw [HB.out.1, HL.out])
    have HEl := Lib.hid (show (encN (decN us)).length ≤ maxLen by rw [HE.out]; unfold maxLen; omega)
    clear hown hb hb1 hd1
    go_wp2
    go_loop [21] (fun i => ∃ k : Nat, k ≤ (decN us).length ∧ i = .int .i64 k) (fun i => (decN us).length - (intOf i).toNat)
    case atStart => exact ⟨0, Nat.zero_le _, rfl⟩
    case round =>
      obtain ⟨k, hk, rfl⟩ := hrel
      by_cases hlt : k < (decN us).length
      · obtain ⟨x, hxk⟩ : ∃ x, (decN us)[k]? = some x := ⟨_, List.getElem?_eq_getElem hlt⟩
        have hfx := HB.out.2.2 x (List.mem_of_getElem? hxk)
        obtain ⟨ad, rfl, _, hcells⟩ := hd1'.2 (by omega)
        have hcx : w2.cell? (ad.add k) = some (.int .i64 x) := hcells k _ (by rw [List.getElem?_map, hxk]; rfl)
        clear hxk hcells
        rcases hfx with h | ⟨h, h'⟩
        · have hw : wholeB x = true := decide_eq_true h
          clear h
          go_wp2_with (go_at_call 24; refine (refWhole_any x _).mono ?_; rintro e w' ⟨rfl, rfl⟩)
          go_round
          case rel => exact ⟨k + 1, by omega, by go_num⟩
          case measure => simp [intOf]; omega
        · have hw : wholeB x = false := decide_eq_false (by omega)
          go_wp2_with (go_at_call 24; refine (refWhole_any x _).mono ?_; rintro e w' ⟨rfl, rfl⟩)
          go_round
          case rel => exact ⟨k + 1, by omega, by go_num⟩
          case measure => simp [intOf]; omega
      · go_wp2_with fail
        refine (equalU8_b A A2 n _ c c2 us (encN (decN us)) w2 (hr.below hb2) hd2 (by unfold maxLen; omega) HEl.out).mono ?_
        rintro e w4 ⟨rfl, hb⟩
        have hb4 := below_self hb2 hb
        clear hb hb2
        rw [show decide (us = encN (decN us)) = true from decide_eq_true HB.out.1.symm]
        go_wp2_with fail
        refine (awakeN_any _ (hs.below hb4)).mono ?_
        rintro e w5 ⟨rfl, hb⟩
        have hb5 := below_self hb4 hb
        clear hb hb4
        go_wp2
        go_ret
        exact ⟨rfl, hb5⟩
  · go_enter Tryd.func11, Tryd.ntmps11
    go_wp2_with fail
    refine (awakeN_any _ hs).mono ?_
    rintro e w7 ⟨rfl, hb⟩
    go_wp2
    go_ret
    exact ⟨rfl, hb⟩
end Go.Proofs.YtoopchpolcfdaaaDoor
