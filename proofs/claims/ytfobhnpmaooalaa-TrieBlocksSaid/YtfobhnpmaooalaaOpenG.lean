/- A law's row out of its walk, with the reach's bound at hand; slices of ranges that came in, their lengths within it. -/
import Derived.Test.YtfobhnpmaooalaaLawP
import Derived.Test.YtfobhnpmaooalaaOpenI
import Derived.Test.YtfobhnpmaooalaaTrS2
import Derived.SizedLaws
namespace Go.Proofs.Ytfobhnpmaooalaa
open Go.ChangeShapes Go.WideShapes Go.ChangeAt Go.RowKit Go.Deep

def LawWalkPS (H : Type) (enc : TypeId × Value → H) (f : FuncId) (fn : Func) : Prop :=
  ∀ (W : World) (base : Nat) (args : Array Value) (ds : List (DataW H)) (p : List MemPlace),
    (∀ (j : Nat) t v, fn.params[j]? = some t → args[j]? = some v → Value.okWide Try.prog W .any base t v) →
    DataW.TrodAll enc Try.prog W 0 (fun _ => true) true fn.params.toList args.toList ds p →
    (∀ (j : Nat) (t : TypeId) (d : DataW H), fn.params.toList[j]? = some t → ds[j]? = some d → ∀ n ∈ d.weights Try.prog t, n ≤ reachBytes) →
    Calls Try.prog f args W fun e W' => e = .returned (.bool true) ∧ Below W.heap.size W W'
set_option maxRecDepth 100000 in
theorem law_lifted_ps {H : Type} {enc : TypeId × Value → H} {os : Os} (started : os.Started) (s : ChangeSpec) (f : FuncId) (fn : Func) (tb : TypeId)
    (hvars : s.vars = []) (hspec : ∀ (ds : List (DataW H)), ds.length = fn.params.toList.length → s.fn H ds = { results := [.lit (.bool true)], args := ds })
    (hf : Try.checked.prog.funcs[f]? = some fn) (hinit : Try.checked.prog.inits.idxOf? f = none) (hrt : fn.resultTypes = #[tb]) (hub : Try.prog.underlying tb = some .bool)
    (hread : ∀ t ∈ fn.params.toList, Try.prog.readableRec t = true ∧ t < Try.prog.types.size)
    (witness : ∃ (w : World) (tape : Tape) (i : Input), w.os = os ∧ (w.forCall tape i).Shaped Try.checked.prog ∧ i.vars = [] ∧ Input.okWide Try.checked.prog (w.forCall tape i) .any w.heap.size f i ∧
      s.pre6 enc Try.checked.prog fn [] false (w.forCall tape i).memory i.args ∧ ({} : Assume).holds Try.checked.prog (lone (Frame.enter Try.checked.prog f i.args .normal) [] (w.forCall tape i)))
    (walk : LawWalkPS H enc f fn) :
    ReturnsInHanded {} Try.checked os f .any (s.pre6 enc Try.checked.prog fn [] false) (s.post enc Try.prog fn false true false false) := by
  refine returnsInHanded_of_change_sized (C := Try.checked) own started hinit hf witness ?_
  intro W base args ds gs before hval hW _ hwt _
  have hW' := hW
  have hlt : ∀ p ∈ before, p.block < W.heap.size := fun p hp => hW.lt p hp
  obtain ⟨p, q, hA, hV, rfl, hfz, hnd⟩ := hW
  rw [hvars] at hV
  obtain ⟨rfl, rfl⟩ := trodVars_none hV
  have hlen := trodAll_len _ _ _ _ hA
  have hsp := hspec ds hlen
  have hwt' : ∀ (j : Nat) (t : TypeId) (d : DataW H), fn.params.toList[j]? = some t → ds[j]? = some d → ∀ n ∈ d.weights Try.prog t, n ≤ reachBytes := fun j t d ht hd n hn => by
    have h := List.all_eq_true.1 hwt n (DataW.weights_mem_each (j := j) (t := t) (d := d) (by rw [List.getElem?_append_left ((List.getElem?_eq_some_iff.1 ht).1)]; exact ht) (by rw [List.append_nil]; exact hd) n hn)
    simpa using h
  refine (walk W base args ds p hval hA hwt').mono fun e W' ⟨he, hb⟩ => ?_
  subst he
  refine ⟨_, rfl, post_of_below (pa := p) (pv := []) hW' (fun _ _ _ => ?_) (fun sp hs => ?_) (fun sp hs => ?_) (by simp) hb (ok_one hrt ?_ (okWide_bool_mk hub _))⟩
  · rw [List.append_nil, hsp, hrt]
    exact trodAll_mk1 (shut_bool hub _)
  · rw [List.append_nil, hsp]
    exact trodAll_below laidOut hb _ _ _ _ hread (fun x hx => hlt x (by simp [hx])) (fun x hx => hs x (by simp [hx])) hA
  · rw [List.append_nil, hsp, hvars]
    exact rfl
  · rfl
section
variable {H : Type} {enc : TypeId × Value → H} {W : World} {base : Nat}
theorem open_len {P : Program} {t e : TypeId} {A : Option Addr} {n c : Nat} {d : DataW H} {p : List MemPlace} (ht : P.underlying t = some (.slice e)) (h : DataW.Trod enc P W 0 (fun _ => true) true t (.slice A n c) d p) : n = 0 ∨ ∃ elems spare, d = .slice elems spare ∧ elems.length = n := by
  obtain ⟨fuel, hf⟩ := h
  rcases open_slice ht hf with ⟨hcs, _⟩ | ⟨a, len, cap, m, n', D, Pl, hcs, _, _, _, _, hx, _⟩
  · simp [Value.cells] at hcs
    exact .inl hcs.2.1
  · simp [Value.cells] at hcs
    obtain ⟨rfl, rfl, rfl⟩ := hcs
    injection hx with hd _
    exact .inr ⟨_, _, hd, by simp⟩
def FitG (s : Rg) : Prop := FitI s.2.2
set_option maxRecDepth 100000 in
theorem range_of {b fuel : Nat} {sp : Nat → Bool} {held : Bool} {cs : List Value} {x : DataW H × List MemPlace} (h : DataW.trod enc Try.prog W b sp held fuel 31 cs = some x) : ∃ s : Rg, cs = encG s ∧ FitG s := by
  obtain ⟨xs, m, _, _, hl, hn, hf⟩ := DataW.trod_struct Try.underlying31 h
  have hc : Try.prog.cellsOf 31 = 3 := by kernel_rfl
  have hi : Try.prog.cellsOf 3 = 1 := by kernel_rfl
  rw [hc] at hl
  match cs, hl with
  | [u, v, y], _ =>
    match xs, hn with
    | [x0, x1, x2], _ =>
      have f0 := hf 0 _ rfl
      have f1 := hf 1 _ rfl
      have f2 := hf 2 _ rfl
      simp [hi] at f0 f1 f2
      obtain ⟨a, e0, _, w0⟩ := DataW.trod_int Try.underlying3 f0
      obtain ⟨b, e1, _, w1⟩ := DataW.trod_int Try.underlying3 f1
      obtain ⟨c, e2, _, w2⟩ := DataW.trod_int Try.underlying3 f2
      injection e0 with e0
      injection e1 with e1
      injection e2 with e2
      subst e0 e1 e2
      exact ⟨(a, b, c), rfl, fit_of_wf w2⟩
set_option maxRecDepth 100000 in
theorem open_ranges {v : Value} {d : DataW H} {p : List MemPlace} (hval : Value.okWide Try.prog W .any base 22 v) (h : DataW.Trod enc Try.prog W 0 (fun _ => true) true 22 v d p) :
    ∃ (A : Option Addr) (n c : Nat) (l : List Rg), v = .slice A n c ∧ n ≤ c ∧ c ≤ maxLen ∧ Rd W 3 A n (cellsG l) ∧ l.length = n ∧ ∀ s ∈ l, FitG s :=
  open_rows encG 3 (by decide) (fun _ => rfl) FitG Try.underlying22 (by kernel_rfl) (fun _ _ _ h => range_of h) hval h
end
end Go.Proofs.Ytfobhnpmaooalaa
