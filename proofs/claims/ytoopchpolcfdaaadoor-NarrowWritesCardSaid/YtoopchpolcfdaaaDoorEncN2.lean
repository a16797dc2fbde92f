/- narrow.Encode: the bytes of all codes, or ErrCode where one is none. -/
import Derived.Test.YtoopchpolcfdaaaDoorEncN
import Derived.Test.YtoopchpolcfdaaaDoorEncW2
namespace Go.Proofs.YtoopchpolcfdaaaDoor
open Go.RowKit

/-- The closure of narrow.Encode: it adds the code's size to the captured variable, and says whether it is 0. -/
theorem encClosureN_any (c r : Int) (B : Nat) (w : World) (hs : TabN w) (hB : w.cell? ⟨B, 0, none⟩ = some (.int .i64 r)) (hf : w.frozen? ⟨B, 0, none⟩ = false) (hr0 : 0 ≤ r) (hr1 : r ≤ 1000000000) :
    Calls Tryd.prog 46 #[.int .i64 c, .pointer (some ⟨B, 0, none⟩)] w fun e w' => e = .returned (.bool (sizeN c == 0)) ∧ ∃ w1, Below w.heap.size w w1 ∧ w' = w1.setCell ⟨B, 0, none⟩ (.int .i64 (r + sizeN c)) := by
  obtain ⟨g0, g1⟩ := sizeN_range c
  go_enter Tryd.func46, Tryd.ntmps46
  go_wp2_with fail
  refine (sizeN_any c _ hs.lasts).mono ?_
  rintro e w1 ⟨rfl, rfl⟩
  have hb := Below.refl w.heap.size w
  go_wp2
  go_ret
  exact ⟨rfl, w, hb, rfl⟩

def encN (l : List Int) : List Int := l.flatMap oneN
def roomN (l : List Int) : Int := (l.map sizeN).sum
theorem roomN_snoc (l : List Int) (x : Int) : roomN (l ++ [x]) = roomN l + sizeN x := by simp [roomN]
theorem roomN_range (l : List Int) : 0 ≤ roomN l ∧ roomN l ≤ 4 * l.length := by
  induction l with
  | nil => simp [roomN]
  | cons x l ih =>
    have := sizeN_range x
    simp only [roomN, List.map_cons, List.sum_cons, List.length_cons] at *
    omega
theorem oneN_len4 (c : Int) : (oneN c).length ≤ 4 := by
  have h1 := oneN_len c
  have h2 := sizeN_range c
  omega
theorem encN_len (l : List Int) : (encN l).length ≤ 4 * l.length := by
  induction l with
  | nil => simp [encN]
  | cons x l ih =>
    have := oneN_len4 x
    simp only [encN, List.flatMap_cons, List.length_append, List.length_cons] at *
    omega
theorem encN_snoc (l : List Int) (x : Int) : encN (l ++ [x]) = encN l ++ oneN x := by simp [encN]
/-- What the closure of narrow.Encode keeps: below the captured variable all is as it was; the variable holds the sizes' sum. -/
def CountN (w0 : World) (l : List Int) (k : Nat) (W : World) : Prop :=
  Below w0.heap.size w0 W ∧ W.cell? ⟨w0.heap.size, 0, none⟩ = some (.int .i64 (roomN (l.take k))) ∧ W.frozen? ⟨w0.heap.size, 0, none⟩ = false

theorem countN_step (w0 : World) (l : List Int) (hs : TabN w0) (hl : l.length ≤ 16777216) (k : Nat) (x : Int) (W : World) (hx : l[k]? = some x) (h : CountN w0 l k W) :
    Calls Tryd.prog 46 (#[.int .i64 x] ++ #[.pointer (some ⟨w0.heap.size, 0, none⟩)]) W fun e W' => e = .returned (.bool (sizeN x == 0)) ∧ CountN w0 l (k + 1) W' := by
  obtain ⟨hb, hc, hf⟩ := h
  have hr := roomN_range (l.take k)
  have hlen : (l.take k).length ≤ l.length := List.length_take_le' _ _
  refine (encClosureN_any x (roomN (l.take k)) w0.heap.size W (hs.below hb) hc hf hr.1 (by omega)).mono ?_
  rintro e W' ⟨rfl, w1, hb1, rfl⟩
  refine ⟨rfl, ((hb.trans (hb1.mono hb.size)).setCell (p := ⟨w0.heap.size, 0, none⟩) (Nat.le_refl _) _), ?_, ?_⟩
  · rw [take_snoc' hx, roomN_snoc]
    exact cell_self (cell_below hb1 hc) _
  · rw [World.frozen?_setCell]
    exact (hb1.frozen (p := ⟨w0.heap.size, 0, none⟩) (cell_lt hc)).trans hf

theorem encFuncN_enters : ∀ args w, (callFunc 46 args).run Tryd.prog w = .ok (.enter 46 args) w := enters_of Tryd.func46 (by kernel_rfl) rfl

set_option maxHeartbeats 2000000 in
theorem encodeN_err (A : Option Addr) (n c : Nat) (l : List Int) (w : World) (hs : TabN w) (hr : Rd w 1 A n (l.map (Value.int .i64))) (hn : n ≤ 1000000) (hv : (l.any fun x => sizeN x == 0) = true) :
    Calls Tryd.prog 32 #[.slice A n c] w fun e w' => e = .returned (.tuple #[.slice none 0 0, .int .i64 2]) ∧ Below w.heap.size w w' := by
  have hlen : l.length = n := by simpa using hr.len1
  have HV := Lib.hid hv
  have HL := Lib.hid hlen
  clear hv hlen
  have HC := Lib.hid (containsFuncI_any 46 #[.pointer (some ⟨w.heap.size, 0, none⟩)] encFuncN_enters A n c l (fun x => sizeN x == 0) (CountN w l) (w.alloc (.cells #[.int .i64 0] 3)) HL.out (by omega)
    ⟨below_new _ _, by rw [World.cell?_alloc_at _ _ _ _ rfl]; rfl, World.frozen?_alloc_at _ _ _ _ rfl⟩ (fun k W h => hr.below h.1) (fun k x W hx h => countN_step w l hs (by rw [HL.out]; omega) k x W hx h))
  have hmf : ∀ (fn : Fn) (first cap : Array Value) (w : World), (Instr.makeFunc fn first cap).run Tryd.prog w = .ok (.func fn first cap) w := fun _ _ _ _ => rfl
  go_enter Tryd.func32, Tryd.ntmps32
  go_wp2_with fail
  refine HC.out.mono ?_
  rintro e w1 ⟨rfl, hF⟩
  rw [HV.out]
  rcases hF with ⟨ha, _⟩ | ⟨_, k, hk, hI⟩
  · rw [HV.out] at ha; cases ha
  · have HI := Lib.hid hI.1
    clear hI hk
    go_wp2
    go_ret2
    exact ⟨rfl, HI.out⟩

set_option maxHeartbeats 2000000 in
theorem encodeN_ok (A : Option Addr) (n c : Nat) (l : List Int) (w : World) (hs : TabN w) (hr : Rd w 1 A n (l.map (Value.int .i64))) (hn : n ≤ 1000000) (hv : (l.any fun x => sizeN x == 0) = false) :
    Calls Tryd.prog 32 #[.slice A n c] w fun e w' => ∃ v, e = .returned (.tuple #[v, .int .i64 0]) ∧ w'.ownsRow w.heap.size 5 1 v (encN l).length ((encN l).map (Value.int .u8)) ∧ Below w.heap.size w w' := by
  have hlen : l.length = n := by simpa using hr.len1
  have HV := Lib.hid hv
  have HL := Lib.hid hlen
  have hgl : 3 < w.heap.size := cell_lt hs.marks.1
  clear hv hlen
  have HC := Lib.hid (containsFuncI_any 46 #[.pointer (some ⟨w.heap.size, 0, none⟩)] encFuncN_enters A n c l (fun x => sizeN x == 0) (CountN w l) (w.alloc (.cells #[.int .i64 0] 3)) HL.out (by omega)
    ⟨below_new _ _, by rw [World.cell?_alloc_at _ _ _ _ rfl]; rfl, World.frozen?_alloc_at _ _ _ _ rfl⟩ (fun k W h => hr.below h.1) (fun k x W hx h => countN_step w l hs (by rw [HL.out]; omega) k x W hx h))
  have hmf : ∀ (fn : Fn) (first cap : Array Value) (w : World), (Instr.makeFunc fn first cap).run Tryd.prog w = .ok (.func fn first cap) w := fun _ _ _ _ => rfl
  go_enter Tryd.func32, Tryd.ntmps32
  go_wp2_with fail
  refine HC.out.mono ?_
  rintro e w1 ⟨rfl, hF⟩
  rw [HV.out]
  rcases hF with ⟨_, hI⟩ | ⟨ha, _⟩
  · obtain ⟨hb, hbox, _⟩ := hI
    rw [List.take_of_length_le (Nat.le_refl _)] at hbox
    have hroom := roomN_range l
    rw [HL.out] at hroom
    obtain ⟨h0, h1⟩ := hroom
    have hlt1 := cell_lt hbox
    have hle1 : w.heap.size ≤ w1.heap.size := hb.size
    go_wp2_with (at_make; refine wpList_mk rfl _ _ _ rfl u8Slice (base := w.heap.size) (roomN l) (roomN l).toNat rfl rfl (by omega) (by omega) (by unfold maxLen; omega) hle1 ?_; intro v0 w2 hown0 hg0)
    have hb0 : Below w.heap.size w w2 := hb.grown hg0 hle1 (fun k hk => by cases hk)
    clear HC
    go_loopw [5, 15] (fun v i wr => ∃ (k : Nat) (acc : List Int), k ≤ n ∧ i = .int .i64 k ∧ acc = encN (l.take k) ∧ acc.length ≤ 4 * k ∧ wr.ownsRow w.heap.size 5 1 v acc.length (acc.map (Value.int .u8)) ∧ Below w.heap.size w wr) (fun _ i _ => n - (intOf i).toNat)
    case atStart => exact ⟨0, [], Nat.zero_le _, rfl, rfl, Nat.le_refl _, by simpa using hown0, hb0⟩
    case round =>
      obtain ⟨k, acc, hk, rfl, hacc, hal, hown, hbr⟩ := hrel
      have HA := Lib.hid hacc
      clear hacc
      by_cases hlt : k < n
      · obtain ⟨x, hxk⟩ : ∃ x, l[k]? = some x := ⟨_, List.getElem?_eq_getElem (by rw [HL.out]; exact hlt)⟩
        have hsx : sizeN x ≠ 0 := fun h => by
          have := HV.out
          rw [List.any_eq_false] at this
          exact this x (List.mem_of_getElem? hxk) (by simp [h])
        obtain ⟨ad, rfl, _, hcells⟩ := (hr.below hbr).2 (by omega)
        have hcx : wr.cell? (ad.add k) = some (.int .i64 x) := hcells k _ (by rw [List.getElem?_map, hxk]; rfl)
        have HX := Lib.hid hxk
        have hul := oneN_len4 x
        clear hxk hcells
        have HS := Lib.hid (appendN_any w.heap.size u5 acc.length _ x wr (hs.below hbr) hown hbr.size hgl (by omega) hsx)
        clear hsx
        go_wp2_with fail
        refine HS.out.mono ?_
        rintro e w3 ⟨v3, rfl, hown3, hb3⟩
        have hb4 := hbr.trans hb3
        go_wp2
        go_roundw
        case rel => exact ⟨k + 1, acc ++ oneN x, by omega, by go_num, by rw [take_snoc' HX.out, encN_snoc, HA.out], by rw [List.length_append]; omega, by simpa using hown3, hb4⟩
        case measure => simp [intOf]; omega
      · have HN := Lib.hid (show encN l = acc by rw [HA.out, List.take_of_length_le (by rw [HL.out]; omega)])
        go_wp2
        go_ret2
        exact ⟨u5, rfl, by rw [HN.out]; exact hown, hbr⟩
  · rw [HV.out] at ha; cases ha
end Go.Proofs.YtoopchpolcfdaaaDoor
