/- A slice of calls of a stack that came in, opened to a list: op, level, side, override. -/
import Derived.Test.YtflbiblkphaagaaOpenI
namespace Go.Proofs.Ytflbiblkphaagaa
open Go.ChangeShapes Go.WideShapes Go.ChangeAt Go.RowKit Go.Deep

/-- A call: op, level, from the right, override. -/
structure DoS where
  op : Int
  n : Int
  r : Bool
  o : Int
def encD (k : DoS) : List Value := [.int .i64 k.op, .int .i64 k.n, .bool k.r, .int .i64 k.o]
def GoodD (k : DoS) : Prop := Fit k.op ∧ Fit k.n ∧ Fit k.o
section
variable {H : Type} {enc : TypeId × Value → H} {W : World} {base : Nat}
set_option maxRecDepth 100000 in
theorem doS_of {fuel : Nat} {cs : List Value} {x : DataW H × List MemPlace} (h : DataW.trod enc Try.prog W 0 (fun _ => true) true fuel 28 cs = some x) : ∃ k : DoS, cs = encD k ∧ GoodD k := by
  obtain ⟨xs, m, _, _, hl, hn, hf⟩ := DataW.trod_struct Try.underlying28 h
  have hc : Try.prog.cellsOf 28 = 4 := by kernel_rfl
  have hi : Try.prog.cellsOf 3 = 1 := by kernel_rfl
  have hb : Try.prog.cellsOf 4 = 1 := by kernel_rfl
  rw [hc] at hl
  match cs, hl with
  | [u0, u1, u2, u3], _ =>
    match xs, hn with
    | [x0, x1, x2, x3], _ =>
      have f0 := hf 0 _ rfl
      have f1 := hf 1 _ rfl
      have f2 := hf 2 _ rfl
      have f3 := hf 3 _ rfl
      simp [hi, hb] at f0 f1 f2 f3
      obtain ⟨a, e0, _, w0⟩ := DataW.trod_int Try.underlying3 f0
      obtain ⟨b, e1, _, w1⟩ := DataW.trod_int Try.underlying3 f1
      obtain ⟨c, e2, _⟩ := DataW.trod_bool Try.underlying4 f2
      obtain ⟨d, e3, _, w3⟩ := DataW.trod_int Try.underlying3 f3
      simp at e0 e1 e2 e3
      subst e0 e1 e2 e3
      exact ⟨⟨a, b, c, d⟩, rfl, fit_of_wf w0, fit_of_wf w1, fit_of_wf w3⟩
set_option maxRecDepth 100000 in
/-- A slice of calls that came in. -/
theorem open_doS {v : Value} {d : DataW H} {p : List MemPlace} (hval : Value.okWide Try.prog W .any base 22 v) (h : DataW.Trod enc Try.prog W 0 (fun _ => true) true 22 v d p) :
    ∃ (A : Option Addr) (n c : Nat) (l : List DoS), v = .slice A n c ∧ n ≤ c ∧ c ≤ maxLen ∧ Rd W 4 A n (l.flatMap encD) ∧ l.length = n ∧ ∀ k ∈ l, GoodD k :=
  open_rows encD 4 (by decide) (fun _ => rfl) GoodD Try.underlying22 (by kernel_rfl) (fun _ _ _ h => doS_of h) hval h
/-- One call of a slice. -/
theorem Rd.doS {w : World} {A : Option Addr} {n k : Nat} {l : List DoS} {x : DoS} (hr : Rd w 4 A n (l.flatMap encD)) (h : l[k]? = some x) : ∃ ad, A = some ad ∧ ad.block < w.heap.size ∧ w.cell? (ad.add (k * 4)) = some (.int .i64 x.op) ∧ w.cell? ⟨(ad.add (k * 4)).block, (ad.add (k * 4)).off + 1, none⟩ = some (.int .i64 x.n) ∧ w.cell? ⟨(ad.add (k * 4)).block, (ad.add (k * 4)).off + 2, none⟩ = some (.bool x.r) ∧ w.cell? ⟨(ad.add (k * 4)).block, (ad.add (k * 4)).off + 3, none⟩ = some (.int .i64 x.o) := by
  have hk := (List.getElem?_eq_some_iff.1 h).1
  have hlen : l.length * 4 = n * 4 := by rw [← flatMap_len encD 4 (fun _ => rfl)]; exact hr.1
  obtain ⟨ad, rfl, hb, hc⟩ := hr.2 (by omega)
  have hat : ∀ j u, (encD x)[j]? = some u → (l.flatMap encD)[k * 4 + j]? = some u := by
    clear hr hlen hc hb hk
    induction l generalizing k with
    | nil => simp at h
    | cons y l ih =>
      intro j u hj
      have hj4 : j < 4 := by have := (List.getElem?_eq_some_iff.1 hj).1; exact this
      rw [List.flatMap_cons]
      cases k with
      | zero =>
        simp at h
        subst h
        rw [List.getElem?_append_left (by show 0 * 4 + j < 4; omega)]
        simpa using hj
      | succ k =>
        rw [List.getElem?_append_right (by show 4 ≤ (k + 1) * 4 + j; omega)]
        have := ih (k := k) (by simpa using h) j u hj
        rw [show (k + 1) * 4 + j - (encD y).length = k * 4 + j by show (k + 1) * 4 + j - 4 = _; omega]
        exact this
  have h0 := hc _ _ (hat 0 _ rfl)
  have h1 := hc _ _ (hat 1 _ rfl)
  have h2 := hc _ _ (hat 2 _ rfl)
  have h3 := hc _ _ (hat 3 _ rfl)
  have ha : ∀ j, (ad.add (k * 4 + (j + 1))) = ⟨(ad.add (k * 4)).block, (ad.add (k * 4)).off + (j + 1), none⟩ := fun j => addNext ad (k * 4) j
  rw [ha 0] at h1
  rw [ha 1] at h2
  rw [ha 2] at h3
  exact ⟨ad, rfl, hb, h0, h1, h2, h3⟩
end
end Go.Proofs.Ytflbiblkphaagaa
