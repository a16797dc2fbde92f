/- Options as words: the reference's Print. -/
import Derived.Test.YtcdogkabdhbjmaaDoorSwN
import Derived.Test.YtcdogkabdhbjmaaDoorSwB
import Derived.Test.YtcdogkabdhbjmaaDoorSwR1
import Derived.Test.YtcdogkabdhbjmaaDoorSwR3
import Derived.Test.YtcdogkabdhbjmaaDoorOpR3
import Derived.Test.YtcdogkabdhbjmaaDoorOpB
/- Options as words, the reference: a field's number. -/
namespace Go.Proofs.YtcdogkabdhbjmaaDoor
open Go.RowKit

/-- A field's number, the direction's from 1 on. -/
def Opt.getV (o : Opt) : Nat → Int
  | 0 => o.d + 1
  | 1 => o.l
  | 2 => o.t
  | 3 => o.g
  | 4 => Opt.bi o.b0
  | 5 => Opt.bi o.b1
  | 6 => Opt.bi o.b2
  | 7 => Opt.bi o.b3
  | 8 => Opt.bi o.b4
  | 9 => Opt.bi o.b5
  | 10 => Opt.bi o.b6
  | 11 => Opt.bi o.b7
  | 12 => Opt.bi o.b8
  | 13 => Opt.bi o.b9
  | _ => 0
set_option maxRecDepth 100000 in
set_option maxHeartbeats 4000000 in
theorem get_any (d l t g : Int) (b0 b1 b2 b3 b4 b5 b6 b7 b8 b9 : Bool) (hd : 0 ≤ d ∧ d ≤ 3) (f : Nat) (hf : f < 14) (v : Int) (hv : Opt.getV ⟨d, l, t, g, b0, b1, b2, b3, b4, b5, b6, b7, b8, b9⟩ f = v) (w : World) :
    Calls Tryd.prog 42 #[.agg #[.int .i64 d, .int .i64 l, .int .i64 t, .int .i64 g, .bool b0, .bool b1, .bool b2, .bool b3, .bool b4, .bool b5, .bool b6, .bool b7, .bool b8, .bool b9], .int .i64 (f : Int)] w fun e w' => e = .returned (.int .i64 v) ∧ Below w.heap.size w w' := by
  obtain ⟨hd0, hd1⟩ := hd
  obtain ⟨W1, hW1⟩ : ∃ W1, w.alloc (.cells #[.int .i64 d, .int .i64 l, .int .i64 t, .int .i64 g, .bool b0, .bool b1, .bool b2, .bool b3, .bool b4, .bool b5, .bool b6, .bool b7, .bool b8, .bool b9] 23) = W1 := ⟨_, rfl⟩
  have hO1 : OptAt W1 w.heap.size ⟨d, l, t, g, b0, b1, b2, b3, b4, b5, b6, b7, b8, b9⟩ := by rw [← hW1]; exact OptAt.new_ w ⟨d, l, t, g, b0, b1, b2, b3, b4, b5, b6, b7, b8, b9⟩ 23
  have hb1 : Below w.heap.size w W1 := by rw [← hW1]; exact below_new _ _
  have hl1 := hO1.lt
  have c0 : W1.cell? ⟨w.heap.size, 0, none⟩ = some (.int .i64 d) := hO1.1 0 _ rfl
  have c1 : W1.cell? ⟨w.heap.size, 1, none⟩ = some (.int .i64 l) := hO1.1 1 _ rfl
  have c2 : W1.cell? ⟨w.heap.size, 2, none⟩ = some (.int .i64 t) := hO1.1 2 _ rfl
  have c3 : W1.cell? ⟨w.heap.size, 3, none⟩ = some (.int .i64 g) := hO1.1 3 _ rfl
  have c4 : W1.cell? ⟨w.heap.size, 4, none⟩ = some (.bool b0) := hO1.1 4 _ rfl
  have c5 : W1.cell? ⟨w.heap.size, 5, none⟩ = some (.bool b1) := hO1.1 5 _ rfl
  have c6 : W1.cell? ⟨w.heap.size, 6, none⟩ = some (.bool b2) := hO1.1 6 _ rfl
  have c7 : W1.cell? ⟨w.heap.size, 7, none⟩ = some (.bool b3) := hO1.1 7 _ rfl
  have c8 : W1.cell? ⟨w.heap.size, 8, none⟩ = some (.bool b4) := hO1.1 8 _ rfl
  have c9 : W1.cell? ⟨w.heap.size, 9, none⟩ = some (.bool b5) := hO1.1 9 _ rfl
  have c10 : W1.cell? ⟨w.heap.size, 10, none⟩ = some (.bool b6) := hO1.1 10 _ rfl
  have c11 : W1.cell? ⟨w.heap.size, 11, none⟩ = some (.bool b7) := hO1.1 11 _ rfl
  have c12 : W1.cell? ⟨w.heap.size, 12, none⟩ = some (.bool b8) := hO1.1 12 _ rfl
  have c13 : W1.cell? ⟨w.heap.size, 13, none⟩ = some (.bool b9) := hO1.1 13 _ rfl
  have HV := Lib.hid hv
  obtain ⟨W2, hW2⟩ : ∃ W2, W1.alloc (.cells #[.bool b0, .bool b1, .bool b2, .bool b3, .bool b4, .bool b5, .bool b6, .bool b7, .bool b8, .bool b9] 4) = W2 := ⟨_, rfl⟩
  have hF2 : CellsAt W2 W1.heap.size [.bool b0, .bool b1, .bool b2, .bool b3, .bool b4, .bool b5, .bool b6, .bool b7, .bool b8, .bool b9] := by rw [← hW2]; exact CellsAt.new_ W1 _ _
  have hb2 : Below W1.heap.size W1 W2 := by rw [← hW2]; exact below_new _ _
  have hl2 : W1.heap.size < W2.heap.size := by rw [← hW2]; simp
  have hO2 := hO1.below hb2
  have e0 : W2.cell? ⟨w.heap.size, 0, none⟩ = some (.int .i64 d) := hO2.1 0 _ rfl
  have e1 : W2.cell? ⟨w.heap.size, 1, none⟩ = some (.int .i64 l) := hO2.1 1 _ rfl
  have e2 : W2.cell? ⟨w.heap.size, 2, none⟩ = some (.int .i64 t) := hO2.1 2 _ rfl
  have e3 : W2.cell? ⟨w.heap.size, 3, none⟩ = some (.int .i64 g) := hO2.1 3 _ rfl
  obtain ⟨W3, hW3⟩ : ∃ W3, W2.alloc (.cells #[.int .i64 (d + 1), .int .i64 l, .int .i64 t, .int .i64 g] 3) = W3 := ⟨_, rfl⟩
  have hN3 : CellsAt W3 W2.heap.size [.int .i64 (d + 1), .int .i64 l, .int .i64 t, .int .i64 g] := by rw [← hW3]; exact CellsAt.new_ W2 _ _
  have hb3 : Below W2.heap.size W2 W3 := by rw [← hW3]; exact below_new _ _
  have hF3 := hF2.below hb3 hl2
  have HB3 := Lib.hid (below_self (below_self hb1 hb2) hb3)
  have HF3 := Lib.hid hF3
  have HN3 := Lib.hid hN3
  clear hv hO1 hb1 hF2 hb2 hO2 hN3 hb3 hF3
  go_enter Tryd.func42, Tryd.ntmps42
  go_upto_region 3 with fail
  clear c0 c1 c2 c3 c4 c5 c6 c7 c8 c9 c10 c11 c12 c13 e0 e1 e2 e3 hW1 hW2 hW3
  have hfc : f = 0 ∨ f = 1 ∨ f = 2 ∨ f = 3 ∨ f = 4 ∨ f = 5 ∨ f = 6 ∨ f = 7 ∨ f = 8 ∨ f = 9 ∨ f = 10 ∨ f = 11 ∨ f = 12 ∨ f = 13 := by omega
  clear hf
  rcases hfc with rfl | rfl | rfl | rfl | rfl | rfl | rfl | rfl | rfl | rfl | rfl | rfl | rfl | rfl
  · have cz : W3.cell? ⟨W2.heap.size, 0, none⟩ = some (.int .i64 (d + 1)) := HN3.out.1 0 _ rfl
    go_wp2
    go_ret
    exact ⟨by rw [← HV.out]; rfl, HB3.out⟩
  · have cz : W3.cell? ⟨W2.heap.size, 1, none⟩ = some (.int .i64 (l)) := HN3.out.1 1 _ rfl
    go_wp2
    go_ret
    exact ⟨by rw [← HV.out]; rfl, HB3.out⟩
  · have cz : W3.cell? ⟨W2.heap.size, 2, none⟩ = some (.int .i64 (t)) := HN3.out.1 2 _ rfl
    go_wp2
    go_ret
    exact ⟨by rw [← HV.out]; rfl, HB3.out⟩
  · have cz : W3.cell? ⟨W2.heap.size, 3, none⟩ = some (.int .i64 (g)) := HN3.out.1 3 _ rfl
    go_wp2
    go_ret
    exact ⟨by rw [← HV.out]; rfl, HB3.out⟩
  · have cz : W3.cell? ⟨W1.heap.size, 0, none⟩ = some (.bool b0) := HF3.out.1 0 _ rfl
    cases b0 with
    | true =>
      go_wp2
      go_ret
      exact ⟨by rw [← HV.out]; rfl, HB3.out⟩
    | false =>
      go_wp2
      go_ret
      exact ⟨by rw [← HV.out]; rfl, HB3.out⟩
  · have cz : W3.cell? ⟨W1.heap.size, 1, none⟩ = some (.bool b1) := HF3.out.1 1 _ rfl
    cases b1 with
    | true =>
      go_wp2
      go_ret
      exact ⟨by rw [← HV.out]; rfl, HB3.out⟩
    | false =>
      go_wp2
      go_ret
      exact ⟨by rw [← HV.out]; rfl, HB3.out⟩
  · have cz : W3.cell? ⟨W1.heap.size, 2, none⟩ = some (.bool b2) := HF3.out.1 2 _ rfl
    cases b2 with
    | true =>
      go_wp2
      go_ret
      exact ⟨by rw [← HV.out]; rfl, HB3.out⟩
    | false =>
      go_wp2
      go_ret
      exact ⟨by rw [← HV.out]; rfl, HB3.out⟩
  · have cz : W3.cell? ⟨W1.heap.size, 3, none⟩ = some (.bool b3) := HF3.out.1 3 _ rfl
    cases b3 with
    | true =>
      go_wp2
      go_ret
      exact ⟨by rw [← HV.out]; rfl, HB3.out⟩
    | false =>
      go_wp2
      go_ret
      exact ⟨by rw [← HV.out]; rfl, HB3.out⟩
  · have cz : W3.cell? ⟨W1.heap.size, 4, none⟩ = some (.bool b4) := HF3.out.1 4 _ rfl
    cases b4 with
    | true =>
      go_wp2
      go_ret
      exact ⟨by rw [← HV.out]; rfl, HB3.out⟩
    | false =>
      go_wp2
      go_ret
      exact ⟨by rw [← HV.out]; rfl, HB3.out⟩
  · have cz : W3.cell? ⟨W1.heap.size, 5, none⟩ = some (.bool b5) := HF3.out.1 5 _ rfl
    cases b5 with
    | true =>
      go_wp2
      go_ret
      exact ⟨by rw [← HV.out]; rfl, HB3.out⟩
    | false =>
      go_wp2
      go_ret
      exact ⟨by rw [← HV.out]; rfl, HB3.out⟩
  · have cz : W3.cell? ⟨W1.heap.size, 6, none⟩ = some (.bool b6) := HF3.out.1 6 _ rfl
    cases b6 with
    | true =>
      go_wp2
      go_ret
      exact ⟨by rw [← HV.out]; rfl, HB3.out⟩
    | false =>
      go_wp2
      go_ret
      exact ⟨by rw [← HV.out]; rfl, HB3.out⟩
  · have cz : W3.cell? ⟨W1.heap.size, 7, none⟩ = some (.bool b7) := HF3.out.1 7 _ rfl
    cases b7 with
    | true =>
      go_wp2
      go_ret
      exact ⟨by rw [← HV.out]; rfl, HB3.out⟩
    | false =>
      go_wp2
      go_ret
      exact ⟨by rw [← HV.out]; rfl, HB3.out⟩
  · have cz : W3.cell? ⟨W1.heap.size, 8, none⟩ = some (.bool b8) := HF3.out.1 8 _ rfl
    cases b8 with
    | true =>
      go_wp2
      go_ret
      exact ⟨by rw [← HV.out]; rfl, HB3.out⟩
    | false =>
      go_wp2
      go_ret
      exact ⟨by rw [← HV.out]; rfl, HB3.out⟩
  · have cz : W3.cell? ⟨W1.heap.size, 9, none⟩ = some (.bool b9) := HF3.out.1 9 _ rfl
    cases b9 with
    | true =>
      go_wp2
      go_ret
      exact ⟨by rw [← HV.out]; rfl, HB3.out⟩
    | false =>
      go_wp2
      go_ret
      exact ⟨by rw [← HV.out]; rfl, HB3.out⟩
end Go.Proofs.YtcdogkabdhbjmaaDoor
namespace Go.Proofs.YtcdogkabdhbjmaaDoor
open Go.RowKit

/-- A field's word, by its number. -/
def wa (f : Nat) (v : Int) : List ByteArray := if v = 0 then [] else ((wordsOf f)[(v - 1).toNat]?).toList
theorem pa0 (d : Int) (h : 0 ≤ d ∧ d ≤ 3) : pc T0 d = wa 0 (d + 1) := by
  have hc : d = 0 ∨ d = 1 ∨ d = 2 ∨ d = 3 := by omega
  rcases hc with rfl | rfl | rfl | rfl <;> rfl
theorem pa1 (d : Int) (h : 0 ≤ d ∧ d ≤ 4) : pc T1 d = wa 1 d := by
  have hc : d = 0 ∨ d = 1 ∨ d = 2 ∨ d = 3 ∨ d = 4 := by omega
  rcases hc with rfl | rfl | rfl | rfl | rfl <;> rfl
theorem pa2 (d : Int) (h : 0 ≤ d ∧ d ≤ 4) : pc T2 d = wa 2 d := by
  have hc : d = 0 ∨ d = 1 ∨ d = 2 ∨ d = 3 ∨ d = 4 := by omega
  rcases hc with rfl | rfl | rfl | rfl | rfl <;> rfl
theorem pa3 (d : Int) (h : 0 ≤ d ∧ d ≤ 4) : pc T3 d = wa 3 d := by
  have hc : d = 0 ∨ d = 1 ∨ d = 2 ∨ d = 3 ∨ d = 4 := by omega
  rcases hc with rfl | rfl | rfl | rfl | rfl <;> rfl
theorem pa4 (b : Bool) : pc T4 (Opt.bi b) = wa 4 (Opt.bi b) := by cases b <;> rfl
theorem pa5 (b : Bool) : pc T5 (Opt.bi b) = wa 5 (Opt.bi b) := by cases b <;> rfl
theorem pa6 (b : Bool) : pc T6 (Opt.bi b) = wa 6 (Opt.bi b) := by cases b <;> rfl
theorem pa7 (b : Bool) : pc T7 (Opt.bi b) = wa 7 (Opt.bi b) := by cases b <;> rfl
theorem pa8 (b : Bool) : pc T8 (Opt.bi b) = wa 8 (Opt.bi b) := by cases b <;> rfl
theorem pa9 (b : Bool) : pc T9 (Opt.bi b) = wa 9 (Opt.bi b) := by cases b <;> rfl
theorem pa10 (b : Bool) : pc T10 (Opt.bi b) = wa 10 (Opt.bi b) := by cases b <;> rfl
theorem pa11 (b : Bool) : pc T11 (Opt.bi b) = wa 11 (Opt.bi b) := by cases b <;> rfl
theorem pa12 (b : Bool) : pc T12 (Opt.bi b) = wa 12 (Opt.bi b) := by cases b <;> rfl
theorem pa13 (b : Bool) : pc T13 (Opt.bi b) = wa 13 (Opt.bi b) := by cases b <;> rfl
/-- The words of the fields below k. -/
def printedTo (o : Opt) (k : Nat) : List ByteArray := (List.range k).flatMap fun f => wa f (o.getV f)
theorem printed_next (o : Opt) (k : Nat) : printedTo o (k + 1) = printedTo o k ++ wa k (o.getV k) := by
  unfold printedTo
  rw [List.range_succ, List.flatMap_append]
  simp
theorem printed_all (o : Opt) (h : o.err = 0) : printedTo o 14 = wordsL o := by
  obtain ⟨h0, h1, h2, h3, h4, h5, h6, h7⟩ := may_of_err h
  rw [wordsL_cut, pa0 _ ⟨h0, h1⟩, pa1 _ ⟨h2, h3⟩, pa2 _ ⟨h4, h5⟩, pa3 _ ⟨h6, h7⟩, pa4, pa5, pa6, pa7, pa8, pa9, pa10, pa11, pa12, pa13]
  have : printedTo o 14 = wa 0 (o.d + 1) ++ (wa 1 o.l ++ (wa 2 o.t ++ (wa 3 o.g ++ (wa 4 (Opt.bi o.b0) ++ (wa 5 (Opt.bi o.b1) ++ (wa 6 (Opt.bi o.b2) ++ (wa 7 (Opt.bi o.b3) ++ (wa 8 (Opt.bi o.b4) ++ (wa 9 (Opt.bi o.b5) ++ (wa 10 (Opt.bi o.b6) ++ (wa 11 (Opt.bi o.b7) ++ (wa 12 (Opt.bi o.b8) ++ (wa 13 (Opt.bi o.b9) ++ []))))))))))))) := rfl
  rw [this, List.append_nil]
theorem words_good : ((List.range 14).all fun f => (wordsOf f).all wordOk) = true := by decide +kernel
theorem wa_ok {f : Nat} (hf : f < 14) {v : Int} {x : ByteArray} (h : x ∈ wa f v) : wordOk x = true := by
  unfold wa at h
  split at h
  · cases h
  · have h1 := List.all_eq_true.1 (List.all_eq_true.1 words_good f (List.mem_range.2 hf)) x
    rw [Option.mem_toList] at h
    exact h1 (List.mem_of_getElem? h)
theorem printed_ok (o : Opt) (k : Nat) (hk : k ≤ 14) : ∀ x ∈ printedTo o k, wordOk x = true := fun x hx => by
  unfold printedTo at hx
  obtain ⟨f, hf, hx⟩ := List.mem_flatMap.1 hx
  have := List.mem_range.1 hf
  exact wa_ok (by omega) hx
theorem wa_len (f : Nat) (v : Int) : (wa f v).length ≤ 1 := by
  unfold wa
  split
  · simp
  · cases (wordsOf f)[(v - 1).toNat]? <;> simp
theorem printed_few (o : Opt) : ∀ k, (printedTo o k).length ≤ k
  | 0 => by simp [printedTo]
  | k + 1 => by
    rw [printed_next, List.length_append]
    have := printed_few o k
    have := wa_len k (o.getV k)
    omega
theorem joinB_snoc : ∀ (L : List ByteArray) (x : ByteArray), joinB (L ++ [x]) = if L = [] then x.data.toList else joinB L ++ 32 :: x.data.toList
  | [], x => by rw [if_pos rfl]; rfl
  | [w], x => by rw [if_neg (by simp)]; rfl
  | w :: y :: l, x => by
    have ih := joinB_snoc (y :: l) x
    rw [if_neg (by simp)] at ih ⊢
    have e1 : joinB (w :: y :: l ++ [x]) = w.data.toList ++ 32 :: joinB (y :: l ++ [x]) := rfl
    have e2 : joinB (w :: y :: l) = w.data.toList ++ 32 :: joinB (y :: l) := rfl
    rw [e1, ih, e2]
    simp
theorem joinB_empty (L : List ByteArray) (h : ∀ x ∈ L, wordOk x = true) : (joinB L = [] ↔ L = []) := by
  cases L with
  | nil => exact ⟨fun _ => rfl, fun _ => rfl⟩
  | cons w l =>
    constructor
    · intro e
      exfalso
      have h1 := (wordOk_of (h w (List.mem_cons_self ..))).2.1
      cases l with
      | nil => exact h1 e
      | cons y l =>
        have e1 : joinB (w :: y :: l) = w.data.toList ++ 32 :: joinB (y :: l) := rfl
        rw [e1] at e
        exact h1 (List.append_eq_nil_iff.1 e).1
    · intro e
      cases e
theorem getV_at (o : Opt) (h : o.err = 0) {f : Nat} (hf : f < 14) (hv : ¬ o.getV f = 0) : ∃ (j : Nat) (x : ByteArray), o.getV f = (j : Int) + 1 ∧ (wordsOf f)[j]? = some x ∧ wa f (o.getV f) = [x] := by
  obtain ⟨h0, h1, h2, h3, h4, h5, h6, h7⟩ := may_of_err h
  have key : ∀ (v : Int) (n : Nat), 1 ≤ v → v ≤ (n : Int) → n ≤ (wordsOf f).length → ∃ (j : Nat) (x : ByteArray), v = (j : Int) + 1 ∧ (wordsOf f)[j]? = some x ∧ wa f v = [x] := fun v n a b c => by
    obtain ⟨j, rfl⟩ : ∃ j : Nat, v = (j : Int) + 1 := ⟨(v - 1).toNat, by omega⟩
    obtain ⟨x, hx⟩ : ∃ x, (wordsOf f)[j]? = some x := ⟨_, List.getElem?_eq_getElem (show j < (wordsOf f).length by omega)⟩
    refine ⟨j, x, rfl, hx, ?_⟩
    unfold wa
    rw [if_neg (by omega), show ((j : Int) + 1 - 1).toNat = j by omega, hx]
    rfl
  have hb : ∀ b : Bool, Opt.bi b ≤ 1 ∧ 0 ≤ Opt.bi b := fun b => by cases b <;> decide
  have hfc : f = 0 ∨ f = 1 ∨ f = 2 ∨ f = 3 ∨ f = 4 ∨ f = 5 ∨ f = 6 ∨ f = 7 ∨ f = 8 ∨ f = 9 ∨ f = 10 ∨ f = 11 ∨ f = 12 ∨ f = 13 := by omega
  rcases hfc with rfl | rfl | rfl | rfl | rfl | rfl | rfl | rfl | rfl | rfl | rfl | rfl | rfl | rfl
  · exact key (o.d + 1) 4 (by omega) (by omega) (by decide)
  · have hv' : ¬ o.l = 0 := hv
    exact key o.l 4 (by omega) (by omega) (by decide)
  · have hv' : ¬ o.t = 0 := hv
    exact key o.t 4 (by omega) (by omega) (by decide)
  · have hv' : ¬ o.g = 0 := hv
    exact key o.g 4 (by omega) (by omega) (by decide)
  · have hv' : ¬ Opt.bi o.b0 = 0 := hv
    have := hb o.b0
    exact key (Opt.bi o.b0) 1 (by omega) (by omega) (by decide)
  · have hv' : ¬ Opt.bi o.b1 = 0 := hv
    have := hb o.b1
    exact key (Opt.bi o.b1) 1 (by omega) (by omega) (by decide)
  · have hv' : ¬ Opt.bi o.b2 = 0 := hv
    have := hb o.b2
    exact key (Opt.bi o.b2) 1 (by omega) (by omega) (by decide)
  · have hv' : ¬ Opt.bi o.b3 = 0 := hv
    have := hb o.b3
    exact key (Opt.bi o.b3) 1 (by omega) (by omega) (by decide)
  · have hv' : ¬ Opt.bi o.b4 = 0 := hv
    have := hb o.b4
    exact key (Opt.bi o.b4) 1 (by omega) (by omega) (by decide)
  · have hv' : ¬ Opt.bi o.b5 = 0 := hv
    have := hb o.b5
    exact key (Opt.bi o.b5) 1 (by omega) (by omega) (by decide)
  · have hv' : ¬ Opt.bi o.b6 = 0 := hv
    have := hb o.b6
    exact key (Opt.bi o.b6) 1 (by omega) (by omega) (by decide)
  · have hv' : ¬ Opt.bi o.b7 = 0 := hv
    have := hb o.b7
    exact key (Opt.bi o.b7) 1 (by omega) (by omega) (by decide)
  · have hv' : ¬ Opt.bi o.b8 = 0 := hv
    have := hb o.b8
    exact key (Opt.bi o.b8) 1 (by omega) (by omega) (by decide)
  · have hv' : ¬ Opt.bi o.b9 = 0 := hv
    have := hb o.b9
    exact key (Opt.bi o.b9) 1 (by omega) (by omega) (by decide)
theorem ba_mk (a b : List UInt8) : (⟨a.toArray⟩ : ByteArray) ++ ⟨b.toArray⟩ = ⟨(a ++ b).toArray⟩ := by
  apply ByteArray.ext
  rw [ByteArray.data_append]
  simp
theorem ba_self (x : ByteArray) : x = ⟨x.data.toList.toArray⟩ := by
  obtain ⟨⟨l⟩⟩ := x
  rfl
set_option maxRecDepth 100000 in
set_option maxHeartbeats 4000000 in
theorem refPrint_any (d l t g : Int) (b0 b1 b2 b3 b4 b5 b6 b7 b8 b9 : Bool) (S : ByteArray) (E : Int) (hR : printF ⟨d, l, t, g, b0, b1, b2, b3, b4, b5, b6, b7, b8, b9⟩ = (S, E)) (w : World) :
    Calls Tryd.prog 21 #[.agg #[.int .i64 d, .int .i64 l, .int .i64 t, .int .i64 g, .bool b0, .bool b1, .bool b2, .bool b3, .bool b4, .bool b5, .bool b6, .bool b7, .bool b8, .bool b9]] w fun e w' => e = .returned (.tuple #[.string S, .int .i64 E]) ∧ Below w.heap.size w w' := by
  obtain ⟨X, hX⟩ : ∃ X, Opt.err ⟨d, l, t, g, b0, b1, b2, b3, b4, b5, b6, b7, b8, b9⟩ = X := ⟨_, rfl⟩
  have HE := Lib.hid hX
  have HR := Lib.hid (show (S, E) = if X = 0 then (⟨(joinB (wordsL ⟨d, l, t, g, b0, b1, b2, b3, b4, b5, b6, b7, b8, b9⟩)).toArray⟩, 0) else (⟨#[]⟩, X) by rw [← hR, ← hX]; rfl)
  obtain ⟨W1, hW1⟩ : ∃ W1, w.alloc (.cells #[.int .i64 d, .int .i64 l, .int .i64 t, .int .i64 g, .bool b0, .bool b1, .bool b2, .bool b3, .bool b4, .bool b5, .bool b6, .bool b7, .bool b8, .bool b9] 23) = W1 := ⟨_, rfl⟩
  have hO1 : OptAt W1 w.heap.size ⟨d, l, t, g, b0, b1, b2, b3, b4, b5, b6, b7, b8, b9⟩ := by rw [← hW1]; exact OptAt.new_ w ⟨d, l, t, g, b0, b1, b2, b3, b4, b5, b6, b7, b8, b9⟩ 23
  have hb1 : Below w.heap.size w W1 := by rw [← hW1]; exact below_new _ _
  have HO1 := Lib.hid hO1
  have HB1 := Lib.hid hb1
  have c0 : W1.cell? ⟨w.heap.size, 0, none⟩ = some (.int .i64 d) := hO1.1 0 _ rfl
  have c1 : W1.cell? ⟨w.heap.size, 1, none⟩ = some (.int .i64 l) := hO1.1 1 _ rfl
  have c2 : W1.cell? ⟨w.heap.size, 2, none⟩ = some (.int .i64 t) := hO1.1 2 _ rfl
  have c3 : W1.cell? ⟨w.heap.size, 3, none⟩ = some (.int .i64 g) := hO1.1 3 _ rfl
  have c4 : W1.cell? ⟨w.heap.size, 4, none⟩ = some (.bool b0) := hO1.1 4 _ rfl
  have c5 : W1.cell? ⟨w.heap.size, 5, none⟩ = some (.bool b1) := hO1.1 5 _ rfl
  have c6 : W1.cell? ⟨w.heap.size, 6, none⟩ = some (.bool b2) := hO1.1 6 _ rfl
  have c7 : W1.cell? ⟨w.heap.size, 7, none⟩ = some (.bool b3) := hO1.1 7 _ rfl
  have c8 : W1.cell? ⟨w.heap.size, 8, none⟩ = some (.bool b4) := hO1.1 8 _ rfl
  have c9 : W1.cell? ⟨w.heap.size, 9, none⟩ = some (.bool b5) := hO1.1 9 _ rfl
  have c10 : W1.cell? ⟨w.heap.size, 10, none⟩ = some (.bool b6) := hO1.1 10 _ rfl
  have c11 : W1.cell? ⟨w.heap.size, 11, none⟩ = some (.bool b7) := hO1.1 11 _ rfl
  have c12 : W1.cell? ⟨w.heap.size, 12, none⟩ = some (.bool b8) := hO1.1 12 _ rfl
  have c13 : W1.cell? ⟨w.heap.size, 13, none⟩ = some (.bool b9) := hO1.1 13 _ rfl
  clear hR hX hO1 hb1
  go_enter Tryd.func21, Tryd.ntmps21
  go_wp2_with fail
  refine (refCheckO_any d l t g b0 b1 b2 b3 b4 b5 b6 b7 b8 b9 X HE.out _).mono ?_
  rintro e w2 ⟨rfl, hb2⟩
  have HO2 := Lib.hid (HO1.out.below hb2)
  have HB2 := Lib.hid (below_self HB1.out hb2)
  clear hb2 HB1 HO1 c0 c1 c2 c3 c4 c5 c6 c7 c8 c9 c10 c11 c12 c13 hW1
  by_cases hX0 : X = 0
  · subst hX0
    have HY := Lib.hid (show S = ⟨(joinB (wordsL ⟨d, l, t, g, b0, b1, b2, b3, b4, b5, b6, b7, b8, b9⟩)).toArray⟩ ∧ E = 0 by
      have := HR.out
      rw [if_pos rfl] at this
      injection this with e1 e2
      exact ⟨e1, e2⟩)
    have HD := Lib.hid (show 0 ≤ d ∧ d ≤ 3 from ⟨(may_of_err HE.out).1, (may_of_err HE.out).2.1⟩)
    go_wp2
    go_loopw [5, 6] (fun v i wr => ∃ (k : Nat), k ≤ 14 ∧ i = .int .i64 k ∧ v = .string ⟨(joinB (printedTo ⟨d, l, t, g, b0, b1, b2, b3, b4, b5, b6, b7, b8, b9⟩ k)).toArray⟩ ∧ OptAt wr w.heap.size ⟨d, l, t, g, b0, b1, b2, b3, b4, b5, b6, b7, b8, b9⟩ ∧ Below w.heap.size w wr) (fun _ i _ => 14 - (intOf i).toNat)
    case atStart => exact ⟨0, Nat.zero_le _, rfl, rfl, HO2.out, HB2.out⟩
    case round =>
      obtain ⟨k, hk, rfl, rfl, hO, hb⟩ := hrel
      have HO := Lib.hid hO
      have HB := Lib.hid hb
      obtain ⟨J, hJ⟩ : ∃ J, joinB (printedTo ⟨d, l, t, g, b0, b1, b2, b3, b4, b5, b6, b7, b8, b9⟩ k) = J := ⟨_, rfl⟩
      have hjl : J.length ≤ 210 := by
        rw [← hJ]
        have := join_len (printedTo ⟨d, l, t, g, b0, b1, b2, b3, b4, b5, b6, b7, b8, b9⟩ k) (printed_ok _ k hk)
        have := printed_few ⟨d, l, t, g, b0, b1, b2, b3, b4, b5, b6, b7, b8, b9⟩ k
        omega
      have HJE := Lib.hid (show J = [] ↔ printedTo ⟨d, l, t, g, b0, b1, b2, b3, b4, b5, b6, b7, b8, b9⟩ k = [] by rw [← hJ]; exact joinB_empty _ (printed_ok _ k hk))
      have HJ := Lib.hid hJ
      rw [hJ]
      by_cases hlt : k < 14
      · obtain ⟨v, hv⟩ : ∃ v, Opt.getV ⟨d, l, t, g, b0, b1, b2, b3, b4, b5, b6, b7, b8, b9⟩ k = v := ⟨_, rfl⟩
        have HV := Lib.hid hv
        have HSZ := Lib.hid hb.size
        have c0 : wr.cell? ⟨w.heap.size, 0, none⟩ = some (.int .i64 d) := hO.1 0 _ rfl
        have c1 : wr.cell? ⟨w.heap.size, 1, none⟩ = some (.int .i64 l) := hO.1 1 _ rfl
        have c2 : wr.cell? ⟨w.heap.size, 2, none⟩ = some (.int .i64 t) := hO.1 2 _ rfl
        have c3 : wr.cell? ⟨w.heap.size, 3, none⟩ = some (.int .i64 g) := hO.1 3 _ rfl
        have c4 : wr.cell? ⟨w.heap.size, 4, none⟩ = some (.bool b0) := hO.1 4 _ rfl
        have c5 : wr.cell? ⟨w.heap.size, 5, none⟩ = some (.bool b1) := hO.1 5 _ rfl
        have c6 : wr.cell? ⟨w.heap.size, 6, none⟩ = some (.bool b2) := hO.1 6 _ rfl
        have c7 : wr.cell? ⟨w.heap.size, 7, none⟩ = some (.bool b3) := hO.1 7 _ rfl
        have c8 : wr.cell? ⟨w.heap.size, 8, none⟩ = some (.bool b4) := hO.1 8 _ rfl
        have c9 : wr.cell? ⟨w.heap.size, 9, none⟩ = some (.bool b5) := hO.1 9 _ rfl
        have c10 : wr.cell? ⟨w.heap.size, 10, none⟩ = some (.bool b6) := hO.1 10 _ rfl
        have c11 : wr.cell? ⟨w.heap.size, 11, none⟩ = some (.bool b7) := hO.1 11 _ rfl
        have c12 : wr.cell? ⟨w.heap.size, 12, none⟩ = some (.bool b8) := hO.1 12 _ rfl
        have c13 : wr.cell? ⟨w.heap.size, 13, none⟩ = some (.bool b9) := hO.1 13 _ rfl
        clear hO hb hJ hv
        go_wp2_with fail
        refine (get_any d l t g b0 b1 b2 b3 b4 b5 b6 b7 b8 b9 HD.out k hlt v HV.out _).mono ?_
        rintro e w3 ⟨rfl, hb3⟩
        have HO3 := Lib.hid (HO.out.below hb3)
        have HB3 := Lib.hid (HB.out.trans (hb3.mono HSZ.out))
        clear hb3 c0 c1 c2 c3 c4 c5 c6 c7 c8 c9 c10 c11 c12 c13 HO HB
        by_cases hv0 : v = 0
        · have HN := Lib.hid (show joinB (printedTo ⟨d, l, t, g, b0, b1, b2, b3, b4, b5, b6, b7, b8, b9⟩ (k + 1)) = J by
            rw [printed_next, HV.out, hv0]
            show joinB (_ ++ []) = J
            rw [List.append_nil]
            exact HJ.out)
          subst hv0
          go_wp2
          go_roundw
          case rel => exact ⟨k + 1, by omega, by go_num, by rw [HN.out], HO3.out, HB3.out⟩
          case measure => simp [intOf]; omega
        · obtain ⟨j, x, hvj, hx, hwa⟩ := getV_at ⟨d, l, t, g, b0, b1, b2, b3, b4, b5, b6, b7, b8, b9⟩ HE.out hlt (by rw [HV.out]; exact hv0)
          rw [HV.out] at hvj hwa
          subst hvj
          have hxl : x.size ≤ 14 := by
            have := (wordOk_of (wa_ok hlt (show x ∈ wa k ((j : Int) + 1) by rw [hwa]; exact List.mem_singleton_self _))).2.2
            simpa using this
          have HN := Lib.hid (show joinB (printedTo ⟨d, l, t, g, b0, b1, b2, b3, b4, b5, b6, b7, b8, b9⟩ (k + 1)) = if J = [] then x.data.toList else J ++ 32 :: x.data.toList by
            rw [printed_next, HV.out, hwa, joinB_snoc, HJ.out]
            by_cases h : J = []
            · rw [if_pos h, if_pos (HJE.out.1 h)]
            · rw [if_neg h, if_neg (fun e => h (HJE.out.2 e))])
          have g0 : ((j : Int) + 1 == 0) = false := by simp; omega
          have HXX := Lib.hid hx
          have hjw := (List.getElem?_eq_some_iff.1 hx).1
          have hj4 : j < 4 := by have := words_few k; omega
          clear hwa hx hv0
          by_cases hJ0 : J = []
          · subst hJ0
            have HM := Lib.hid (show joinB (printedTo ⟨d, l, t, g, b0, b1, b2, b3, b4, b5, b6, b7, b8, b9⟩ (k + 1)) = x.data.toList by rw [HN.out, if_pos rfl])
            clear HN hjl
            go_wp2_with fail
            refine (words_any k hlt _).mono ?_
            rintro e w5 ⟨A, c, rfl, hr5, hb5⟩
            obtain ⟨ad, hA, _, hc5⟩ := hr5.at_ hjw
            obtain rfl := Option.some.inj hA
            have cx := hc5 (.string x) (by rw [List.getElem?_map, HXX.out]; rfl)
            have HO5 := Lib.hid (HO3.out.below hb5)
            have HB5 := Lib.hid (HB3.out.trans (hb5.mono HB3.out.size))
            clear hr5 hb5 hA hc5
            go_wp2
            go_roundw
            case rel => exact ⟨k + 1, by omega, by go_num, by rw [HM.out]; first | rfl | (congr 1; exact ba_self x) | (rw [← ba_self]; first | rfl | simp), HO5.out, HB5.out⟩
            case measure => simp [intOf]; omega
          · have HM := Lib.hid (show joinB (printedTo ⟨d, l, t, g, b0, b1, b2, b3, b4, b5, b6, b7, b8, b9⟩ (k + 1)) = J ++ [32] ++ x.data.toList by rw [HN.out, if_neg hJ0]; simp)
            have hne : (!J.isEmpty) = true := by simpa using hJ0
            have hne2 : J.isEmpty = false := by simpa using hJ0
            clear HN hJ0
            go_wp2_with fail
            refine (words_any k hlt _).mono ?_
            rintro e w5 ⟨A, c, rfl, hr5, hb5⟩
            obtain ⟨ad, hA, _, hc5⟩ := hr5.at_ hjw
            obtain rfl := Option.some.inj hA
            have cx := hc5 (.string x) (by rw [List.getElem?_map, HXX.out]; rfl)
            have HO5 := Lib.hid (HO3.out.below hb5)
            have HB5 := Lib.hid (HB3.out.trans (hb5.mono HB3.out.size))
            clear hr5 hb5 hA hc5
            go_wp2
            go_roundw
            case rel => exact ⟨k + 1, by omega, by go_num, by rw [HM.out, ← ba_mk, ← ba_mk, ← ba_self x], HO5.out, HB5.out⟩
            case measure => simp [intOf]; omega
      · obtain rfl : k = 14 := by omega
        have HF := Lib.hid (show S = ⟨J.toArray⟩ ∧ E = 0 by
          rw [← HJ.out, printed_all _ HE.out]
          exact HY.out)
        clear hO hb
        go_wp2
        go_ret2
        exact ⟨by rw [HF.out.1, HF.out.2]; rfl, HB.out⟩
  · have HY := Lib.hid (show S = ⟨#[]⟩ ∧ E = X by
      have := HR.out
      rw [if_neg hX0] at this
      injection this with e1 e2
      exact ⟨e1, e2⟩)
    have g1 : (X != 0) = true := by simp [hX0]
    clear hX0
    go_wp2_with fail
    go_ret2
    exact ⟨by rw [HY.out.1, HY.out.2]; rfl, HB2.out⟩
end Go.Proofs.YtcdogkabdhbjmaaDoor
