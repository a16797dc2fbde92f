/- The reference's Encode to bytes: the bytes of all codes, or ErrCode where one is none. -/
import Derived.Test.YtoopchpolcfdaaaDoorEncN2
import Derived.Test.YtoopchpolcfdaaaDoorEncWR
namespace Go.Proofs.YtoopchpolcfdaaaDoor
open Go.RowKit

/-- What Encode leaves. -/
def EncGivesN (w : World) (l : List Int) (e : Ending) (w' : World) : Prop :=
  ((l.any fun x => sizeN x == 0) = true ∧ e = .returned (.tuple #[.slice none 0 0, .int .i64 2]) ∧ Below w.heap.size w w') ∨
  ((l.any fun x => sizeN x == 0) = false ∧ ∃ v, e = .returned (.tuple #[v, .int .i64 0]) ∧ w'.ownsRow w.heap.size 5 1 v (encN l).length ((encN l).map (Value.int .u8)) ∧ Below w.heap.size w w')

set_option maxHeartbeats 4000000 in
theorem refEncodeN_any (A : Option Addr) (n c : Nat) (l : List Int) (w : World) (hr : Rd w 1 A n (l.map (Value.int .i64))) (hn : n ≤ 1000000) :
    Calls Tryd.prog 33 #[.slice A n c] w (EncGivesN w l) := by
  have hlen : l.length = n := by simpa using hr.len1
  have HL := Lib.hid hlen
  clear hlen
  go_enter Tryd.func33, Tryd.ntmps33
  go_wp2
  go_loopw [4, 5] (fun v i wr => ∃ (k : Nat) (acc : List Int), k ≤ n ∧ i = .int .i64 k ∧ acc = encN (l.take k) ∧ acc.length ≤ 4 * k ∧ ((l.take k).any fun x => sizeN x == 0) = false ∧ wr.ownsRow w.heap.size 5 1 v acc.length (acc.map (Value.int .u8)) ∧ Below w.heap.size w wr) (fun _ i _ => n - (intOf i).toNat)
  case atStart => exact ⟨0, [], Nat.zero_le _, rfl, rfl, Nat.le_refl _, by simp, ⟨rfl, .inl ⟨rfl, rfl⟩⟩, Below.refl _ _⟩
  case round =>
    obtain ⟨k, acc, hk, rfl, hacc, hal, hany, hown, hbr⟩ := hrel
    have HA := Lib.hid hacc
    have HY := Lib.hid hany
    clear hacc hany
    by_cases hlt : k < n
    · obtain ⟨x, hxk⟩ : ∃ x, l[k]? = some x := ⟨_, List.getElem?_eq_getElem (by rw [HL.out]; exact hlt)⟩
      obtain ⟨ad, rfl, hab, hcells⟩ := (hr.below hbr).2 (by omega)
      have hcx : wr.cell? (ad.add k) = some (.int .i64 x) := hcells k _ (by rw [List.getElem?_map, hxk]; rfl)
      have HX := Lib.hid hxk
      clear hxk hcells
      cases hz : (sizeN x == 0) with
      | true =>
        have HT := Lib.hid (show (l.any fun x => sizeN x == 0) = true from List.any_eq_true.2 ⟨x, List.mem_of_getElem? HX.out, hz⟩)
        go_wp2_with (first
          | (go_at_call 37; refine (refSizeN_any x _).mono ?_; rintro e w' ⟨rfl, rfl⟩))
        go_ret2
        exact .inl ⟨HT.out, rfl, hbr⟩
      | false =>
        have HT := Lib.hid (any_take_false (fun x => sizeN x == 0) HY.out HX.out hz)
        have hol := oneN_len4 x
        go_wp2_with (go_at_call 37; refine (refSizeN_any x _).mono ?_; rintro e w' ⟨rfl, rfl⟩)
        refine (one_any x _).mono ?_
        rintro e w1 ⟨vv, rfl, hone, hb1⟩
        obtain ⟨A1, c1, rfl, _⟩ := own_form hone
        have hd1 := Rd.of_own hone
        have hown1 := own_below hown hb1
        have hb2 := below_go hbr hbr.size hb1
        clear hone hb1
        go_wp2_with (at_builtin; refine wpList_appR rfl _ _ _ rfl u8Slice (by decide) u4 acc.length _ rfl hown1 A1 _ c1 _ rfl hd1 (oneInts _ (oneN x)) (by omega) (by unfold maxLen; omega) hb2.size ?_; intro v1 w2 hown2 hg2 hat2)
        have hgr := below_app hb2 hg2 hown1 hb2.size
        go_roundw
        case rel => exact ⟨k + 1, acc ++ oneN x, by omega, by go_num, by rw [take_snoc' HX.out, encN_snoc, HA.out], by rw [List.length_append]; omega, HT.out, by simpa using hown2, hgr⟩
        case measure => simp [intOf]; omega
    · have HN := Lib.hid (show encN l = acc by rw [HA.out, List.take_of_length_le (by rw [HL.out]; omega)])
      have HT := Lib.hid (show (l.any fun x => sizeN x == 0) = false by have := HY.out; rwa [List.take_of_length_le (by rw [HL.out]; omega)] at this)
      go_wp2
      go_ret2
      exact .inr ⟨HT.out, u4, rfl, by rw [HN.out]; exact hown, hbr⟩
end Go.Proofs.YtoopchpolcfdaaaDoor
