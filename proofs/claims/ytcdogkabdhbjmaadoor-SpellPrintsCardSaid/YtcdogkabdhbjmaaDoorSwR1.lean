/- Options as words, the reference: the words of a field, a word's field, a field set. -/
import Derived.Test.YtcdogkabdhbjmaaDoorSwN
namespace Go.Proofs.YtcdogkabdhbjmaaDoor
open Go.RowKit

/-- The words of a field. -/
def wordsOf : Nat → List ByteArray
  | 0 => [⟨#[108, 116, 114]⟩, ⟨#[114, 116, 108]⟩, ⟨#[102, 105, 114, 115, 116, 45, 108, 116, 114]⟩, ⟨#[102, 105, 114, 115, 116, 45, 114, 116, 108]⟩]
  | 1 => [⟨#[108, 97, 109, 45, 114, 101, 115, 105, 122, 101]⟩, ⟨#[108, 97, 109, 45, 110, 101, 97, 114]⟩, ⟨#[108, 97, 109, 45, 98, 101, 103, 105, 110]⟩, ⟨#[108, 97, 109, 45, 101, 110, 100]⟩]
  | 2 => [⟨#[109, 97, 114, 107, 45, 105, 115, 111, 108, 97, 116, 101, 100]⟩, ⟨#[109, 97, 114, 107, 45, 109, 101, 100, 105, 97, 108]⟩, ⟨#[109, 97, 114, 107, 45, 114, 101, 109, 111, 118, 101]⟩, ⟨#[109, 97, 114, 107, 45, 116, 97, 116, 119, 101, 101, 108]⟩]
  | 3 => [⟨#[116, 111, 45, 97, 114, 97, 98, 105, 99]⟩, ⟨#[116, 111, 45, 101, 117, 114, 111, 112, 101, 97, 110]⟩, ⟨#[99, 111, 110, 116, 101, 120, 116, 45, 108, 116, 114]⟩, ⟨#[99, 111, 110, 116, 101, 120, 116, 45, 97, 114, 97, 98, 105, 99]⟩]
  | 4 => [⟨#[101, 97, 115, 116, 101, 114, 110]⟩]
  | 5 => [⟨#[108, 101, 116, 116, 101, 114, 115]⟩]
  | 6 => [⟨#[116, 104, 114, 111, 117, 103, 104]⟩]
  | 7 => [⟨#[112, 105, 108, 101]⟩]
  | 8 => [⟨#[115, 101, 101, 110]⟩]
  | 9 => [⟨#[121, 101, 104]⟩]
  | 10 => [⟨#[114, 101, 111, 114, 100, 101, 114]⟩]
  | 11 => [⟨#[109, 97, 114, 107, 115]⟩]
  | 12 => [⟨#[109, 105, 114, 114, 111, 114]⟩]
  | 13 => [⟨#[115, 116, 114, 105, 112]⟩]
  | _ => []
theorem rdStrs (w : World) (l : List ByteArray) (t : TypeId) : Rd (w.alloc (.cells (l.map Value.string).toArray t)) 1 (some ⟨w.heap.size, 0, none⟩) l.length (l.map Value.string) := by
  have := Rd.new_ w (l.map Value.string) t
  rwa [List.length_map] at this
theorem rdOne {w : World} {A : Addr} {n : Nat} {l : List Value} (h : Rd w 1 (some A) n l) {k : Nat} {v : Value} (hv : l[k]? = some v) (hk : k < n) : Rd w 1 (some (A.add k)) 1 [v] := by
  obtain ⟨ad, e, hb, hc⟩ := h.at_ hk
  obtain rfl := Option.some.inj e
  refine ⟨rfl, fun _ => ⟨_, rfl, by rw [blockAdd]; exact hb, fun j u hu => ?_⟩⟩
  cases j with
  | zero =>
    obtain rfl := Option.some.inj hu
    rw [addAdd]
    exact hc _ hv
  | succ j => cases hu
def flagWords : List ByteArray := [⟨#[101, 97, 115, 116, 101, 114, 110]⟩, ⟨#[108, 101, 116, 116, 101, 114, 115]⟩, ⟨#[116, 104, 114, 111, 117, 103, 104]⟩, ⟨#[112, 105, 108, 101]⟩, ⟨#[115, 101, 101, 110]⟩, ⟨#[121, 101, 104]⟩, ⟨#[114, 101, 111, 114, 100, 101, 114]⟩, ⟨#[109, 97, 114, 107, 115]⟩, ⟨#[109, 105, 114, 114, 111, 114]⟩, ⟨#[115, 116, 114, 105, 112]⟩]
set_option maxRecDepth 100000 in
theorem words0_any (w : World) : Calls Tryd.prog 43 #[.int .i64 0] w fun e w' => ∃ A c, e = .returned (.slice (some A) 4 c) ∧ Rd w' 1 (some A) 4 ((wordsOf 0).map Value.string) ∧ Below w.heap.size w w' := by
  go_enter Tryd.func43, Tryd.ntmps43
  go_wp2
  go_ret
  exact ⟨_, _, rfl, rdStrs w (wordsOf 0) 9, below_new _ _⟩
set_option maxRecDepth 100000 in
theorem words1_any (w : World) : Calls Tryd.prog 43 #[.int .i64 1] w fun e w' => ∃ A c, e = .returned (.slice (some A) 4 c) ∧ Rd w' 1 (some A) 4 ((wordsOf 1).map Value.string) ∧ Below w.heap.size w w' := by
  go_enter Tryd.func43, Tryd.ntmps43
  go_wp2
  go_ret
  exact ⟨_, _, rfl, rdStrs w (wordsOf 1) 9, below_new _ _⟩
set_option maxRecDepth 100000 in
theorem words2_any (w : World) : Calls Tryd.prog 43 #[.int .i64 2] w fun e w' => ∃ A c, e = .returned (.slice (some A) 4 c) ∧ Rd w' 1 (some A) 4 ((wordsOf 2).map Value.string) ∧ Below w.heap.size w w' := by
  go_enter Tryd.func43, Tryd.ntmps43
  go_wp2
  go_ret
  exact ⟨_, _, rfl, rdStrs w (wordsOf 2) 9, below_new _ _⟩
set_option maxRecDepth 100000 in
theorem words3_any (w : World) : Calls Tryd.prog 43 #[.int .i64 3] w fun e w' => ∃ A c, e = .returned (.slice (some A) 4 c) ∧ Rd w' 1 (some A) 4 ((wordsOf 3).map Value.string) ∧ Below w.heap.size w w' := by
  go_enter Tryd.func43, Tryd.ntmps43
  go_wp2
  go_ret
  exact ⟨_, _, rfl, rdStrs w (wordsOf 3) 9, below_new _ _⟩
set_option maxRecDepth 100000 in
theorem words4_any (w : World) : Calls Tryd.prog 43 #[.int .i64 4] w fun e w' => ∃ A c, e = .returned (.slice (some A) 1 c) ∧ Rd w' 1 (some A) 1 ((wordsOf 4).map Value.string) ∧ Below w.heap.size w w' := by
  go_enter Tryd.func43, Tryd.ntmps43
  go_wp2
  go_ret
  exact ⟨_, _, rfl, rdOne (k := 0) (rdStrs w flagWords 9) rfl (by decide), below_new _ _⟩
set_option maxRecDepth 100000 in
theorem words5_any (w : World) : Calls Tryd.prog 43 #[.int .i64 5] w fun e w' => ∃ A c, e = .returned (.slice (some A) 1 c) ∧ Rd w' 1 (some A) 1 ((wordsOf 5).map Value.string) ∧ Below w.heap.size w w' := by
  go_enter Tryd.func43, Tryd.ntmps43
  go_wp2
  go_ret
  exact ⟨_, _, rfl, rdOne (k := 1) (rdStrs w flagWords 9) rfl (by decide), below_new _ _⟩
set_option maxRecDepth 100000 in
theorem words6_any (w : World) : Calls Tryd.prog 43 #[.int .i64 6] w fun e w' => ∃ A c, e = .returned (.slice (some A) 1 c) ∧ Rd w' 1 (some A) 1 ((wordsOf 6).map Value.string) ∧ Below w.heap.size w w' := by
  go_enter Tryd.func43, Tryd.ntmps43
  go_wp2
  go_ret
  exact ⟨_, _, rfl, rdOne (k := 2) (rdStrs w flagWords 9) rfl (by decide), below_new _ _⟩
set_option maxRecDepth 100000 in
theorem words7_any (w : World) : Calls Tryd.prog 43 #[.int .i64 7] w fun e w' => ∃ A c, e = .returned (.slice (some A) 1 c) ∧ Rd w' 1 (some A) 1 ((wordsOf 7).map Value.string) ∧ Below w.heap.size w w' := by
  go_enter Tryd.func43, Tryd.ntmps43
  go_wp2
  go_ret
  exact ⟨_, _, rfl, rdOne (k := 3) (rdStrs w flagWords 9) rfl (by decide), below_new _ _⟩
set_option maxRecDepth 100000 in
theorem words8_any (w : World) : Calls Tryd.prog 43 #[.int .i64 8] w fun e w' => ∃ A c, e = .returned (.slice (some A) 1 c) ∧ Rd w' 1 (some A) 1 ((wordsOf 8).map Value.string) ∧ Below w.heap.size w w' := by
  go_enter Tryd.func43, Tryd.ntmps43
  go_wp2
  go_ret
  exact ⟨_, _, rfl, rdOne (k := 4) (rdStrs w flagWords 9) rfl (by decide), below_new _ _⟩
set_option maxRecDepth 100000 in
theorem words9_any (w : World) : Calls Tryd.prog 43 #[.int .i64 9] w fun e w' => ∃ A c, e = .returned (.slice (some A) 1 c) ∧ Rd w' 1 (some A) 1 ((wordsOf 9).map Value.string) ∧ Below w.heap.size w w' := by
  go_enter Tryd.func43, Tryd.ntmps43
  go_wp2
  go_ret
  exact ⟨_, _, rfl, rdOne (k := 5) (rdStrs w flagWords 9) rfl (by decide), below_new _ _⟩
set_option maxRecDepth 100000 in
theorem words10_any (w : World) : Calls Tryd.prog 43 #[.int .i64 10] w fun e w' => ∃ A c, e = .returned (.slice (some A) 1 c) ∧ Rd w' 1 (some A) 1 ((wordsOf 10).map Value.string) ∧ Below w.heap.size w w' := by
  go_enter Tryd.func43, Tryd.ntmps43
  go_wp2
  go_ret
  exact ⟨_, _, rfl, rdOne (k := 6) (rdStrs w flagWords 9) rfl (by decide), below_new _ _⟩
set_option maxRecDepth 100000 in
theorem words11_any (w : World) : Calls Tryd.prog 43 #[.int .i64 11] w fun e w' => ∃ A c, e = .returned (.slice (some A) 1 c) ∧ Rd w' 1 (some A) 1 ((wordsOf 11).map Value.string) ∧ Below w.heap.size w w' := by
  go_enter Tryd.func43, Tryd.ntmps43
  go_wp2
  go_ret
  exact ⟨_, _, rfl, rdOne (k := 7) (rdStrs w flagWords 9) rfl (by decide), below_new _ _⟩
set_option maxRecDepth 100000 in
theorem words12_any (w : World) : Calls Tryd.prog 43 #[.int .i64 12] w fun e w' => ∃ A c, e = .returned (.slice (some A) 1 c) ∧ Rd w' 1 (some A) 1 ((wordsOf 12).map Value.string) ∧ Below w.heap.size w w' := by
  go_enter Tryd.func43, Tryd.ntmps43
  go_wp2
  go_ret
  exact ⟨_, _, rfl, rdOne (k := 8) (rdStrs w flagWords 9) rfl (by decide), below_new _ _⟩
set_option maxRecDepth 100000 in
theorem words13_any (w : World) : Calls Tryd.prog 43 #[.int .i64 13] w fun e w' => ∃ A c, e = .returned (.slice (some A) 1 c) ∧ Rd w' 1 (some A) 1 ((wordsOf 13).map Value.string) ∧ Below w.heap.size w w' := by
  go_enter Tryd.func43, Tryd.ntmps43
  go_wp2
  go_ret
  exact ⟨_, _, rfl, rdOne (k := 9) (rdStrs w flagWords 9) rfl (by decide), below_new _ _⟩
theorem words_any (f : Nat) (hf : f < 14) (w : World) : Calls Tryd.prog 43 #[.int .i64 (f : Int)] w fun e w' => ∃ A c, e = .returned (.slice (some A) (wordsOf f).length c) ∧ Rd w' 1 (some A) (wordsOf f).length ((wordsOf f).map Value.string) ∧ Below w.heap.size w w' := by
  match f, hf with
  | 0, _ => exact words0_any w
  | 1, _ => exact words1_any w
  | 2, _ => exact words2_any w
  | 3, _ => exact words3_any w
  | 4, _ => exact words4_any w
  | 5, _ => exact words5_any w
  | 6, _ => exact words6_any w
  | 7, _ => exact words7_any w
  | 8, _ => exact words8_any w
  | 9, _ => exact words9_any w
  | 10, _ => exact words10_any w
  | 11, _ => exact words11_any w
  | 12, _ => exact words12_any w
  | 13, _ => exact words13_any w
  | n + 14, h => omega
end Go.Proofs.YtcdogkabdhbjmaaDoor
