/- The reference's Encode to units: the units of all codes, or ErrCode where one is none. -/
import Derived.Test.YtoopchpolcfdaaaDoorEncW2
namespace Go.Proofs.YtoopchpolcfdaaaDoor
open Go.RowKit

/-- What Encode leaves. -/
def EncGivesW (w : World) (l : List Int) (e : Ending) (w' : World) : Prop :=
  ((l.any fun x => sizeW x == 0) = true ∧ e = .returned (.tuple #[.slice none 0 0, .int .i64 2]) ∧ Below w.heap.size w w') ∨
  ((l.any fun x => sizeW x == 0) = false ∧ ∃ v, e = .returned (.tuple #[v, .int .i64 0]) ∧ w'.ownsRow w.heap.size 25 1 v (encW l).length ((encW l).map (Value.int .u16)) ∧ Below w.heap.size w w')

theorem encode_any (A : Option Addr) (n c : Nat) (l : List Int) (w : World) (hs : Stretches w) (hr : Rd w 1 A n (l.map (Value.int .i64))) (hn : n ≤ 1000000) :
    Calls Tryd.prog 19 #[.slice A n c] w (EncGivesW w l) := by
  cases hv : (l.any fun x => sizeW x == 0) with
  | true => exact (encode_err A n c l w hs hr hn hv).mono fun e w' h => .inl ⟨hv, h⟩
  | false => exact (encode_ok A n c l w hs hr hn hv).mono fun e w' h => .inr ⟨hv, h⟩

theorem any_take_false {l : List Int} {k : Nat} {x : Int} (p : Int → Bool) (h : (l.take k).any p = false) (hx : l[k]? = some x) (hp : p x = false) : (l.take (k + 1)).any p = false := by
  rw [List.take_add_one, hx, List.any_append, h]; simp [hp]

set_option maxHeartbeats 4000000 in
theorem refEncode_any (A : Option Addr) (n c : Nat) (l : List Int) (w : World) (hr : Rd w 1 A n (l.map (Value.int .i64))) (hn : n ≤ 1000000) :
    Calls Tryd.prog 20 #[.slice A n c] w (EncGivesW w l) := by
  have hlen : l.length = n := by simpa using hr.len1
  have HL := Lib.hid hlen
  clear hlen
  go_enter Tryd.func20, Tryd.ntmps20
  go_wp2
  go_loopw [4, 5] (fun v i wr => ∃ (k : Nat) (acc : List Int), k ≤ n ∧ i = .int .i64 k ∧ acc = encW (l.take k) ∧ acc.length ≤ 2 * k ∧ ((l.take k).any fun x => sizeW x == 0) = false ∧ wr.ownsRow w.heap.size 25 1 v acc.length (acc.map (Value.int .u16)) ∧ Below w.heap.size w wr) (fun _ i _ => n - (intOf i).toNat)
  case atStart => exact ⟨0, [], Nat.zero_le _, rfl, rfl, Nat.le_refl _, by simp, ⟨rfl, .inl ⟨rfl, rfl⟩⟩, Below.refl _ _⟩
  case round =>
    obtain ⟨k, acc, hk, rfl, hacc, hal, hany, hown, hbr⟩ := hrel
    have HA := Lib.hid hacc
    have HY := Lib.hid hany
    clear hacc hany
    by_cases hlt : k < n
    · obtain ⟨x, hxk⟩ : ∃ x, l[k]? = some x := ⟨_, List.getElem?_eq_getElem (by rw [HL.out]; exact hlt)⟩
      obtain ⟨ad, rfl, _, hcells⟩ := (hr.below hbr).2 (by omega)
      have hcx : wr.cell? (ad.add k) = some (.int .i64 x) := hcells k _ (by rw [List.getElem?_map, hxk]; rfl)
      have HX := Lib.hid hxk
      clear hxk hcells
      cases hz : (sizeW x == 0) with
      | true =>
        have HT := Lib.hid (show (l.any fun x => sizeW x == 0) = true from List.any_eq_true.2 ⟨x, List.mem_of_getElem? HX.out, hz⟩)
        go_wp2_with (first
          | (go_at_call 26; refine (refSize_any x _).mono ?_; rintro e w' ⟨rfl, rfl⟩))
        go_ret2
        exact .inl ⟨HT.out, rfl, hbr⟩
      | false =>
        have HT := Lib.hid (any_take_false (fun x => sizeW x == 0) HY.out HX.out hz)
        have hp := sizeW_pos (c := x) (fun e => by rw [e] at hz; cases hz)
        rcases hp with ⟨h1, h2⟩ | ⟨h1, h2⟩ | ⟨h1, h2⟩
        · have HU := Lib.hid (show unitsW x = [x] by unfold unitsW; rw [if_neg (by omega), if_neg (by omega)])
          have hi : illWB x = false := decide_eq_false (by omega)
          go_wp2_with (first
            | (go_at_call 26; refine (refSize_any x _).mono ?_; rintro e w' ⟨rfl, rfl⟩)
            | (go_at_call 42; refine (refIll_any x _).mono ?_; rintro e w' ⟨rfl, rfl⟩)
            | (at_builtin; refine wpList_app rfl _ _ _ rfl u16Slice (by decide) u4 acc.length _ rfl (hown.alloc _) ⟨wr.heap.size, 0, none⟩ 1 1 [.int .u16 x] rfl rfl (cell_one_new _ _ _) (oneInt _ _) (by omega) (by unfold maxLen; omega) (Nat.le_trans hbr.size (by simp)) ?_; intro v1 w1 hown1 hg1 hat1))
          have hgr := below_app (hbr.alloc hbr.size _) hg1 (hown.alloc _) (Nat.le_trans hbr.size (by simp))
          go_roundw
          case rel => exact ⟨k + 1, acc ++ [x], by omega, by go_num, by rw [take_snoc' HX.out, encW_snoc, HU.out, HA.out], by simp; omega, HT.out, by simpa using hown1, hgr⟩
          case measure => simp [intOf]; omega
        · have HU := Lib.hid (show unitsW x = [55296 + (x - 65536) / 1024, 56320 + (x - 65536) % 1024] by unfold unitsW; rw [if_neg (by omega), if_pos (by omega)])
          have hi : illWB x = false := decide_eq_false (by omega)
          go_wp2_with (first
            | (go_at_call 26; refine (refSize_any x _).mono ?_; rintro e w' ⟨rfl, rfl⟩)
            | (go_at_call 42; refine (refIll_any x _).mono ?_; rintro e w' ⟨rfl, rfl⟩)
            | (at_builtin; refine wpList_app rfl _ _ _ rfl u16Slice (by decide) u4 acc.length _ rfl (hown.alloc _) ⟨wr.heap.size, 0, none⟩ 2 2 [.int .u16 (55296 + (x - 65536) / 1024), .int .u16 (56320 + (x - 65536) % 1024)] rfl rfl (cells_new wr [_, _] _) (oneInt2 _ _ _) (by omega) (by unfold maxLen; omega) (Nat.le_trans hbr.size (by simp)) ?_; intro v1 w1 hown1 hg1 hat1))
          have hgr := below_app (hbr.alloc hbr.size _) hg1 (hown.alloc _) (Nat.le_trans hbr.size (by simp))
          go_roundw
          case rel => exact ⟨k + 1, acc ++ [55296 + (x - 65536) / 1024, 56320 + (x - 65536) % 1024], by omega, by go_num, by rw [take_snoc' HX.out, encW_snoc, HU.out, HA.out], by simp; omega, HT.out, by simpa using hown1, hgr⟩
          case measure => simp [intOf]; omega
        · have HU := Lib.hid (show unitsW x = [x - 1114112] by unfold unitsW; rw [if_pos (by omega)])
          have hi : illWB x = true := decide_eq_true ⟨h1, h2⟩
          go_wp2_with (first
            | (go_at_call 26; refine (refSize_any x _).mono ?_; rintro e w' ⟨rfl, rfl⟩)
            | (go_at_call 42; refine (refIll_any x _).mono ?_; rintro e w' ⟨rfl, rfl⟩)
            | (at_builtin; refine wpList_app rfl _ _ _ rfl u16Slice (by decide) u4 acc.length _ rfl (hown.alloc _) ⟨wr.heap.size, 0, none⟩ 1 1 [.int .u16 (x - 1114112)] rfl rfl (cell_one_new _ _ _) (oneInt _ _) (by omega) (by unfold maxLen; omega) (Nat.le_trans hbr.size (by simp)) ?_; intro v1 w1 hown1 hg1 hat1))
          have hgr := below_app (hbr.alloc hbr.size _) hg1 (hown.alloc _) (Nat.le_trans hbr.size (by simp))
          go_roundw
          case rel => exact ⟨k + 1, acc ++ [x - 1114112], by omega, by go_num, by rw [take_snoc' HX.out, encW_snoc, HU.out, HA.out], by simp; omega, HT.out, by simpa using hown1, hgr⟩
          case measure => simp [intOf]; omega
    · have HN := Lib.hid (show encW l = acc by rw [HA.out, List.take_of_length_le (by rw [HL.out]; omega)])
      have HT := Lib.hid (show (l.any fun x => sizeW x == 0) = false by have := HY.out; rwa [List.take_of_length_le (by rw [HL.out]; omega)] at this)
      go_wp2
      go_ret2
      exact .inr ⟨HT.out, u4, rfl, by rw [HN.out]; exact hown, hbr⟩
end Go.Proofs.YtoopchpolcfdaaaDoor
