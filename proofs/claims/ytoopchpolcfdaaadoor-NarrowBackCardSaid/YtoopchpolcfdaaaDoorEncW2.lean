/- wide.Encode: the units of all codes, or ErrCode where one is none. -/
import Derived.Test.YtoopchpolcfdaaaDoorEncW
import Derived.Test.YtoopchpolcfdaaaDoorFindI
import Derived.Test.YtoopchpolcfdaaaDoorAwakeW
namespace Go.Proofs.YtoopchpolcfdaaaDoor
open Go.RowKit

def encW (l : List Int) : List Int := l.flatMap unitsW
def roomW (l : List Int) : Int := (l.map sizeW).sum
theorem roomW_snoc (l : List Int) (x : Int) : roomW (l ++ [x]) = roomW l + sizeW x := by simp [roomW]
theorem roomW_range (l : List Int) : 0 ≤ roomW l ∧ roomW l ≤ 2 * l.length := by
  induction l with
  | nil => simp [roomW]
  | cons x l ih =>
    have := sizeW_range x
    simp only [roomW, List.map_cons, List.sum_cons, List.length_cons] at *
    omega
theorem unitsW_len (c : Int) : (unitsW c).length ≤ 2 := by
  unfold unitsW
  split
  · simp
  · split <;> simp
theorem encW_len (l : List Int) : (encW l).length ≤ 2 * l.length := by
  induction l with
  | nil => simp [encW]
  | cons x l ih =>
    have := unitsW_len x
    simp only [encW, List.flatMap_cons, List.length_append, List.length_cons] at *
    omega
theorem encW_snoc (l : List Int) (x : Int) : encW (l ++ [x]) = encW l ++ unitsW x := by simp [encW]
theorem take_snoc' {l : List Int} {k : Nat} {x : Int} (h : l[k]? = some x) : l.take (k + 1) = l.take k ++ [x] := by rw [List.take_add_one, h]; rfl

theorem cell_self {w : World} {a : Addr} {u : Value} (h : w.cell? a = some u) (v : Value) : (w.setCell a v).cell? a = some v := World.cell?_setCell_same (h := h) ..

/-- What the closure of wide.Encode keeps: below the captured variable all is as it was; the variable holds the sizes' sum. -/
def CountI (w0 : World) (l : List Int) (k : Nat) (W : World) : Prop :=
  Below w0.heap.size w0 W ∧ W.cell? ⟨w0.heap.size, 0, none⟩ = some (.int .i64 (roomW (l.take k))) ∧ W.frozen? ⟨w0.heap.size, 0, none⟩ = false

theorem countI_step (w0 : World) (l : List Int) (hs : Stretches w0) (hl : l.length ≤ 16777216) (k : Nat) (x : Int) (W : World) (hx : l[k]? = some x) (h : CountI w0 l k W) :
    Calls Tryd.prog 40 (#[.int .i64 x] ++ #[.pointer (some ⟨w0.heap.size, 0, none⟩)]) W fun e W' => e = .returned (.bool (sizeW x == 0)) ∧ CountI w0 l (k + 1) W' := by
  obtain ⟨hb, hc, hf⟩ := h
  have hr := roomW_range (l.take k)
  have hlen : (l.take k).length ≤ l.length := List.length_take_le' _ _
  refine (encClosure_any x (roomW (l.take k)) w0.heap.size W (hs.below hb) hc hf hr.1 (by omega)).mono ?_
  rintro e W' ⟨rfl, w1, hb1, rfl⟩
  refine ⟨rfl, ((hb.trans (hb1.mono hb.size)).setCell (p := ⟨w0.heap.size, 0, none⟩) (Nat.le_refl _) _), ?_, ?_⟩
  · rw [take_snoc' hx, roomW_snoc]
    exact cell_self (cell_below hb1 hc) _
  · rw [World.frozen?_setCell]
    exact (hb1.frozen (p := ⟨w0.heap.size, 0, none⟩) (cell_lt hc)).trans hf

theorem encFunc_enters : ∀ args w, (callFunc 40 args).run Tryd.prog w = .ok (.enter 40 args) w := enters_of Tryd.func40 (by kernel_rfl) rfl

set_option maxHeartbeats 2000000 in
theorem encode_err (A : Option Addr) (n c : Nat) (l : List Int) (w : World) (hs : Stretches w) (hr : Rd w 1 A n (l.map (Value.int .i64))) (hn : n ≤ 1000000) (hv : (l.any fun x => sizeW x == 0) = true) :
    Calls Tryd.prog 19 #[.slice A n c] w fun e w' => e = .returned (.tuple #[.slice none 0 0, .int .i64 2]) ∧ Below w.heap.size w w' := by
  have hlen : l.length = n := by simpa using hr.len1
  have HV := Lib.hid hv
  have HL := Lib.hid hlen
  clear hv hlen
  have HC := Lib.hid (containsFuncI_any 40 #[.pointer (some ⟨w.heap.size, 0, none⟩)] encFunc_enters A n c l (fun x => sizeW x == 0) (CountI w l) (w.alloc (.cells #[.int .i64 0] 3)) HL.out (by omega)
    ⟨below_new _ _, by rw [World.cell?_alloc_at _ _ _ _ rfl]; rfl, World.frozen?_alloc_at _ _ _ _ rfl⟩ (fun k W h => hr.below h.1) (fun k x W hx h => countI_step w l hs (by rw [HL.out]; omega) k x W hx h))
  have hmf : ∀ (fn : Fn) (first cap : Array Value) (w : World), (Instr.makeFunc fn first cap).run Tryd.prog w = .ok (.func fn first cap) w := fun _ _ _ _ => rfl
  go_enter Tryd.func19, Tryd.ntmps19
  go_wp2_with fail
  refine HC.out.mono ?_
  rintro e w1 ⟨rfl, hF⟩
  rw [HV.out]
  rcases hF with ⟨ha, _⟩ | ⟨_, k, hk, hI⟩
  · rw [HV.out] at ha; cases ha
  · have HI := Lib.hid hI.1
    clear hI hk
    go_wp2
    go_ret2
    exact ⟨rfl, HI.out⟩

set_option maxHeartbeats 2000000 in
theorem encode_ok (A : Option Addr) (n c : Nat) (l : List Int) (w : World) (hs : Stretches w) (hr : Rd w 1 A n (l.map (Value.int .i64))) (hn : n ≤ 1000000) (hv : (l.any fun x => sizeW x == 0) = false) :
    Calls Tryd.prog 19 #[.slice A n c] w fun e w' => ∃ v, e = .returned (.tuple #[v, .int .i64 0]) ∧ w'.ownsRow w.heap.size 25 1 v (encW l).length ((encW l).map (Value.int .u16)) ∧ Below w.heap.size w w' := by
  have hlen : l.length = n := by simpa using hr.len1
  have HV := Lib.hid hv
  have HL := Lib.hid hlen
  clear hv hlen
  have HC := Lib.hid (containsFuncI_any 40 #[.pointer (some ⟨w.heap.size, 0, none⟩)] encFunc_enters A n c l (fun x => sizeW x == 0) (CountI w l) (w.alloc (.cells #[.int .i64 0] 3)) HL.out (by omega)
    ⟨below_new _ _, by rw [World.cell?_alloc_at _ _ _ _ rfl]; rfl, World.frozen?_alloc_at _ _ _ _ rfl⟩ (fun k W h => hr.below h.1) (fun k x W hx h => countI_step w l hs (by rw [HL.out]; omega) k x W hx h))
  have hmf : ∀ (fn : Fn) (first cap : Array Value) (w : World), (Instr.makeFunc fn first cap).run Tryd.prog w = .ok (.func fn first cap) w := fun _ _ _ _ => rfl
  go_enter Tryd.func19, Tryd.ntmps19
  go_wp2_with fail
  refine HC.out.mono ?_
  rintro e w1 ⟨rfl, hF⟩
  rw [HV.out]
  rcases hF with ⟨_, hI⟩ | ⟨ha, _⟩
  · obtain ⟨hb, hbox, _⟩ := hI
    rw [List.take_of_length_le (Nat.le_refl _)] at hbox
    have hroom := roomW_range l
    rw [HL.out] at hroom
    obtain ⟨h0, h1⟩ := hroom
    have hlt1 := cell_lt hbox
    have hle1 : w.heap.size ≤ w1.heap.size := hb.size
    go_wp2_with (at_make; refine wpList_mk rfl _ _ _ rfl u16Slice (base := w.heap.size) (roomW l) (roomW l).toNat rfl rfl (by omega) (by omega) (by unfold maxLen; omega) hle1 ?_; intro v0 w2 hown0 hg0)
    have hb0 : Below w.heap.size w w2 := hb.grown hg0 hle1 (fun k hk => by cases hk)
    clear HC
    go_loopw [5, 15] (fun v i wr => ∃ (k : Nat) (acc : List Int), k ≤ n ∧ i = .int .i64 k ∧ acc = encW (l.take k) ∧ acc.length ≤ 2 * k ∧ wr.ownsRow w.heap.size 25 1 v acc.length (acc.map (Value.int .u16)) ∧ Below w.heap.size w wr) (fun _ i _ => n - (intOf i).toNat)
    case atStart => exact ⟨0, [], Nat.zero_le _, rfl, rfl, Nat.le_refl _, by simpa using hown0, hb0⟩
    case round =>
      obtain ⟨k, acc, hk, rfl, hacc, hal, hown, hbr⟩ := hrel
      have HA := Lib.hid hacc
      clear hacc
      by_cases hlt : k < n
      · obtain ⟨x, hxk⟩ : ∃ x, l[k]? = some x := ⟨_, List.getElem?_eq_getElem (by rw [HL.out]; exact hlt)⟩
        have hsx : sizeW x ≠ 0 := fun h => by
          have := HV.out
          rw [List.any_eq_false] at this
          exact this x (List.mem_of_getElem? hxk) (by simp [h])
        obtain ⟨ad, rfl, _, hcells⟩ := (hr.below hbr).2 (by omega)
        have hcx : wr.cell? (ad.add k) = some (.int .i64 x) := hcells k _ (by rw [List.getElem?_map, hxk]; rfl)
        have HX := Lib.hid hxk
        have hul := unitsW_len x
        clear hxk hcells
        have HS := Lib.hid (appendCode_any w.heap.size u5 acc.length _ x wr hown hbr.size (by omega) hsx)
        clear hsx
        go_wp2_with fail
        refine HS.out.mono ?_
        rintro e w3 ⟨v3, rfl, hown3, hb3⟩
        have hb4 := hbr.trans hb3
        go_wp2
        go_roundw
        case rel => exact ⟨k + 1, acc ++ unitsW x, by omega, by go_num, by rw [take_snoc' HX.out, encW_snoc, HA.out], by rw [List.length_append]; omega, by simpa using hown3, hb4⟩
        case measure => simp [intOf]; omega
      · have HN := Lib.hid (show encW l = acc by rw [HA.out, List.take_of_length_le (by rw [HL.out]; omega)])
        go_wp2
        go_ret2
        exact ⟨u5, rfl, by rw [HN.out]; exact hown, hbr⟩
  · rw [HV.out] at ha; cases ha
end Go.Proofs.YtoopchpolcfdaaaDoor
