/- Options compared: Same, the project's and the reference's. -/
import Derived.Test.YtcdogkabdhbjmaaDoorOpP1
namespace Go.Proofs.YtcdogkabdhbjmaaDoor
open Go.RowKit

theorem eqFields_plain {P : Program} (d : Nat) (xs ys : Array Value) (q : Nat → Bool) (w : World) : ∀ fs : List Field, (∀ f ∈ fs, f.name ≠ "_" ∧ P.plainKey f.type = true ∧ ∃ u v, xs[f.offset]? = some u ∧ ys[f.offset]? = some v ∧ ∀ w, (Op.equalIn d f.type u v).run P w = .ok (q f.offset) w) →
    (Op.eqFields d xs ys fs).run P w = .ok (fs.all fun f => q f.offset) w
  | [], _ => rfl
  | f :: fs, h => by
    obtain ⟨hn, hp, u, v, hu, hv, he⟩ := h f (by simp)
    have ih := eqFields_plain d xs ys q w fs fun g hg => h g (by simp [hg])
    have p1 := run_part_plain (P := P) w hp (xs := xs) (off := f.offset) hu
    have p2 := run_part_plain (P := P) w hp (xs := ys) (off := f.offset) hv
    simp only [Op.eqFields, hn, ne_eq, not_false_eq_true, if_true, Sem.run_bind, p1, p2, Result.andThen_ok, he, List.all_cons]
    cases q f.offset
    · simp
    · simp [ih]
set_option maxRecDepth 100000 in
theorem optsEq (d l t g : Int) (b0 b1 b2 b3 b4 b5 b6 b7 b8 b9 : Bool) (d' l' t' g' : Int) (a0 a1 a2 a3 a4 a5 a6 a7 a8 a9 : Bool) (w : World) :
    (Op.equalIn 10000 23 (.agg #[.int .i64 d, .int .i64 l, .int .i64 t, .int .i64 g, .bool b0, .bool b1, .bool b2, .bool b3, .bool b4, .bool b5, .bool b6, .bool b7, .bool b8, .bool b9]) (.agg #[.int .i64 d', .int .i64 l', .int .i64 t', .int .i64 g', .bool a0, .bool a1, .bool a2, .bool a3, .bool a4, .bool a5, .bool a6, .bool a7, .bool a8, .bool a9])).run Tryd.prog w =
      .ok ((d == d') && (l == l') && (t == t') && (g == g') && (b0 == a0) && (b1 == a1) && (b2 == a2) && (b3 == a3) && (b4 == a4) && (b5 == a5) && (b6 == a6) && (b7 == a7) && (b8 == a8) && (b9 == a9)) w := by
  have hf : (Tryd.prog.fieldsOf 23).toList.map (fun f => (f.type, f.offset)) = [(3, 0), (3, 1), (3, 2), (3, 3), (4, 4), (4, 5), (4, 6), (4, 7), (4, 8), (4, 9), (4, 10), (4, 11), (4, 12), (4, 13)] := by kernel_rfl
  have hn : (Tryd.prog.fieldsOf 23).toList.all (fun f => f.name != "_") = true := by kernel_rfl
  rw [show (10000 : Nat) = 9999 + 1 from rfl, run_equalIn_struct (P := Tryd.prog) w 9999 23 _ _ (by kernel_rfl) (by kernel_rfl)]
  rw [eqFields_plain 9999 _ _ (fun o => ([d == d', l == l', t == t', g == g', b0 == a0, b1 == a1, b2 == a2, b3 == a3, b4 == a4, b5 == a5, b6 == a6, b7 == a7, b8 == a8, b9 == a9] : List Bool).getD o true) w _ (fun f hfm => ?_)]
  · congr 1
    rw [show (fun f : Field => ([d == d', l == l', t == t', g == g', b0 == a0, b1 == a1, b2 == a2, b3 == a3, b4 == a4, b5 == a5, b6 == a6, b7 == a7, b8 == a8, b9 == a9] : List Bool).getD f.offset true) = (fun x : TypeId × Nat => ([d == d', l == l', t == t', g == g', b0 == a0, b1 == a1, b2 == a2, b3 == a3, b4 == a4, b5 == a5, b6 == a6, b7 == a7, b8 == a8, b9 == a9] : List Bool).getD x.2 true) ∘ (fun f : Field => (f.type, f.offset)) from rfl, ← List.all_map, hf]
    simp [Bool.and_assoc]
  · have hne : f.name ≠ "_" := by
      have := List.all_eq_true.1 hn f hfm
      simpa using this
    have hm := List.mem_map_of_mem (f := fun f : Field => (f.type, f.offset)) hfm
    rw [hf] at hm
    simp only [List.mem_cons, List.not_mem_nil, or_false, Prod.mk.injEq] at hm
    have hI : ∀ (a b : Int) w, (Op.equalIn 9999 3 (.int .i64 a) (.int .i64 b)).run Tryd.prog w = .ok (a == b) w := fun a b w => run_equalIn_int w 9998 _ _ _ a b Tryd.underlying3
    have hB : ∀ (a b : Bool) w, (Op.equalIn 9999 4 (.bool a) (.bool b)).run Tryd.prog w = .ok (a == b) w := fun a b w => run_equalIn_bool' w 9998 _ a b Tryd.underlying4
    refine ⟨hne, ?_⟩
    rcases hm with ⟨h1, h2⟩ | ⟨h1, h2⟩ | ⟨h1, h2⟩ | ⟨h1, h2⟩ | ⟨h1, h2⟩ | ⟨h1, h2⟩ | ⟨h1, h2⟩ | ⟨h1, h2⟩ | ⟨h1, h2⟩ | ⟨h1, h2⟩ | ⟨h1, h2⟩ | ⟨h1, h2⟩ | ⟨h1, h2⟩ | ⟨h1, h2⟩ <;> rw [h1, h2]
    all_goals first
      | exact ⟨by kernel_rfl, _, _, rfl, rfl, hI _ _⟩
      | exact ⟨by kernel_rfl, _, _, rfl, rfl, hB _ _⟩
set_option maxRecDepth 100000 in
set_option maxHeartbeats 4000000 in
theorem opSame_any (d l t g : Int) (b0 b1 b2 b3 b4 b5 b6 b7 b8 b9 : Bool) (d' l' t' g' : Int) (a0 a1 a2 a3 a4 a5 a6 a7 a8 a9 : Bool) (y : Bool) (hy : ((d == d') && (l == l') && (t == t') && (g == g') && (b0 == a0) && (b1 == a1) && (b2 == a2) && (b3 == a3) && (b4 == a4) && (b5 == a5) && (b6 == a6) && (b7 == a7) && (b8 == a8) && (b9 == a9)) = y) (w : World) :
    Calls Tryd.prog 12 #[.agg #[.int .i64 d, .int .i64 l, .int .i64 t, .int .i64 g, .bool b0, .bool b1, .bool b2, .bool b3, .bool b4, .bool b5, .bool b6, .bool b7, .bool b8, .bool b9], .agg #[.int .i64 d', .int .i64 l', .int .i64 t', .int .i64 g', .bool a0, .bool a1, .bool a2, .bool a3, .bool a4, .bool a5, .bool a6, .bool a7, .bool a8, .bool a9]] w fun e w' => e = .returned (.bool y) ∧ Below w.heap.size w w' := by
  have hq := optsEq d l t g b0 b1 b2 b3 b4 b5 b6 b7 b8 b9 d' l' t' g' a0 a1 a2 a3 a4 a5 a6 a7 a8 a9
  simp only [hy] at hq
  clear hy
  go_enter Tryd.func12, Tryd.ntmps12
  go_wp2
  go_ret
  exact ⟨rfl, below_self (below_new _ _) (below_new _ _)⟩
set_option maxRecDepth 100000 in
set_option maxHeartbeats 4000000 in
theorem refSame_any (d l t g : Int) (b0 b1 b2 b3 b4 b5 b6 b7 b8 b9 : Bool) (d' l' t' g' : Int) (a0 a1 a2 a3 a4 a5 a6 a7 a8 a9 : Bool) (y : Bool) (hy : ((d == d') && (l == l') && (t == t') && (g == g') && (b0 == a0) && (b1 == a1) && (b2 == a2) && (b3 == a3) && (b4 == a4) && (b5 == a5) && (b6 == a6) && (b7 == a7) && (b8 == a8) && (b9 == a9)) = y) (w : World) :
    Calls Tryd.prog 13 #[.agg #[.int .i64 d, .int .i64 l, .int .i64 t, .int .i64 g, .bool b0, .bool b1, .bool b2, .bool b3, .bool b4, .bool b5, .bool b6, .bool b7, .bool b8, .bool b9], .agg #[.int .i64 d', .int .i64 l', .int .i64 t', .int .i64 g', .bool a0, .bool a1, .bool a2, .bool a3, .bool a4, .bool a5, .bool a6, .bool a7, .bool a8, .bool a9]] w fun e w' => e = .returned (.bool y) ∧ Below w.heap.size w w' := by
  have hq := optsEq d l t g b0 b1 b2 b3 b4 b5 b6 b7 b8 b9 d' l' t' g' a0 a1 a2 a3 a4 a5 a6 a7 a8 a9
  simp only [hy] at hq
  clear hy
  go_enter Tryd.func13, Tryd.ntmps13
  go_wp2
  go_ret
  exact ⟨rfl, below_self (below_new _ _) (below_new _ _)⟩
end Go.Proofs.YtcdogkabdhbjmaaDoor
