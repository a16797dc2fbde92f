/- Texts of one claim, one behind the other. -/
import Derived.Test.YtcbiaeeifclieaaGreatDoorRows
import Derived.ProofKit
import Derived.LaidMore
import Derived.OpenShut
/- A variable that reads as nested arrays and structs of integers, bools and strings: its cells are the datum's leaves, one behind the other. -/
namespace Go.Proofs.YtcbiaeeifclieaaGreatDoor
open Go.RowKit Go.ChangeShapes Go.WideShapes Go.ChangeAt

/-- A literal's value. -/
def litVal : Lit → List Value
  | .int k n => [.int k n]
  | .bool b => [.bool b]
  | .string l => [.string ⟨l.toArray⟩]
  | _ => []
/-- The leaves of a datum. -/
def flatD {H : Type} : Nat → DataW H → List Value
  | 0, _ => []
  | m + 1, d => match d with
    | .lit l => litVal l
    | .agg ps => (ps.map (flatD m)).flatten
    | _ => []
/-- Where the fields lie one behind the other, the place behind the last one. -/
def tileEnd (P : Program) : Nat → List Field → Option Nat
  | o, [] => some o
  | o, f :: fs => if f.offset = o then tileEnd P (o + P.cellsOf f.type) fs else none
/-- Arrays and structs of integers and bools, without a gap. -/
def plainTy (P : Program) : Nat → TypeId → Bool
  | 0, _ => false
  | m + 1, t => match P.underlying t with
    | some (.int _) => true
    | some .bool => true
    | some .string => true
    | some (.array n e) => P.cellsOf t == n * P.cellsOf e && plainTy P m e
    | some (.struct fs) => tileEnd P 0 fs.toList == some (P.cellsOf t) && fs.toList.all (fun f => plainTy P m f.type)
    | _ => false

theorem tile_array (c : Nat) : ∀ (n : Nat) (cs : List Value) (ys : List (List Value)), cs.length = n * c → ys.length = n → (∀ i, i < n → ys[i]? = some ((cs.drop (i * c)).take c)) → cs = ys.flatten := by
  intro n
  induction n with
  | zero =>
    intro cs ys h1 h2 _
    have : cs = [] := List.eq_nil_of_length_eq_zero (by simpa using h1)
    have : ys = [] := List.eq_nil_of_length_eq_zero h2
    subst_vars; rfl
  | succ n ih =>
    intro cs ys h1 h2 h
    match ys, h2 with
    | y :: ys, h2 =>
      have h0 := h 0 (by omega)
      simp at h0
      have := ih (cs.drop c) ys (by rw [List.length_drop, h1, Nat.succ_mul]; omega) (by simpa using h2) (fun i hi => by
        have := h (i + 1) (by omega)
        simp only [List.getElem?_cons_succ] at this
        rw [this, List.drop_drop, Nat.succ_mul, Nat.add_comm])
      rw [List.flatten_cons, ← this, h0, List.take_append_drop]

theorem tile_struct (P : Program) (e : Nat) : ∀ (fs : List Field) (o : Nat) (cs : List Value) (ys : List (List Value)), tileEnd P o fs = some e → cs.length = e → ys.length = fs.length →
    (∀ (i : Nat) (f : Field), fs[i]? = some f → ys[i]? = some ((cs.drop f.offset).take (P.cellsOf f.type))) → cs.drop o = ys.flatten := by
  intro fs
  induction fs with
  | nil =>
    intro o cs ys h1 h2 h3 _
    have : ys = [] := List.eq_nil_of_length_eq_zero h3
    subst this
    injection h1 with h1
    rw [List.drop_eq_nil_of_le (by omega)]; rfl
  | cons f fs ih =>
    intro o cs ys h1 h2 h3 h
    match ys, h3 with
    | y :: ys, h3 =>
      unfold tileEnd at h1
      split at h1
      · rename_i ho
        have h0 := h 0 f rfl
        simp at h0
        have := ih (o + P.cellsOf f.type) cs ys h1 h2 (by simpa using h3) (fun i g hg => by
          have := h (i + 1) g (by simpa using hg)
          simpa using this)
        rw [List.flatten_cons, ← this, h0, ho, ← List.drop_drop, List.take_append_drop]
      · cases h1

theorem flat_of_trod {H : Type} {enc : TypeId × Value → H} {P : Program} {w : World} {base : Nat} {sp : Nat → Bool} {held : Bool} : ∀ (m fuel : Nat) (t : TypeId) (cs : List Value) (x : DataW H × List MemPlace),
    plainTy P m t = true → DataW.trod enc P w base sp held fuel t cs = some x → cs = flatD m x.1 := by
  intro m
  induction m with
  | zero => intro _ _ _ _ h; simp [plainTy] at h
  | succ m ih =>
    intro fuel t cs x hp h
    unfold plainTy at hp
    split at hp
    · rename_i k ht
      obtain ⟨n, rfl, rfl, _⟩ := DataW.trod_int ht h
      rfl
    · rename_i ht
      obtain ⟨b, rfl, rfl⟩ := DataW.trod_bool ht h
      rfl
    · rename_i ht
      obtain ⟨b, rfl, rfl, _⟩ := DataW.trod_string ht h
      rfl
    · rename_i n e ht
      simp only [Bool.and_eq_true, beq_iff_eq] at hp
      obtain ⟨xs, m', _, rfl, hl, hn, hel⟩ := DataW.trod_array ht h
      have := tile_array (P.cellsOf e) n cs (xs.map fun y => flatD m y.1) (by rw [hl, hp.1]) (by simpa using hn) (fun i hi => by
        have h1 := hel i hi
        obtain ⟨y, hy⟩ : ∃ y, xs[i]? = some y := ⟨_, List.getElem?_eq_getElem (by omega)⟩
        rw [hy] at h1
        rw [List.getElem?_map, hy, ih _ _ _ _ hp.2 h1]; rfl)
      rw [this]
      simp [flatD, List.map_map, Function.comp_def]
    · rename_i fs ht
      simp only [Bool.and_eq_true, beq_iff_eq] at hp
      obtain ⟨xs, m', _, rfl, hl, hn, hel⟩ := DataW.trod_struct ht h
      have := tile_struct P _ fs.toList 0 cs (xs.map fun y => flatD m y.1) hp.1 hl (by simpa using hn) (fun i f hf => by
        have h1 := hel i f (by simpa using hf)
        have hlt : i < fs.size := by
          have := (List.getElem?_eq_some_iff.1 hf).1
          simpa using this
        obtain ⟨y, hy⟩ : ∃ y, xs[i]? = some y := ⟨_, List.getElem?_eq_getElem (by omega)⟩
        rw [hy] at h1
        rw [List.getElem?_map, hy, ih _ _ _ _ (List.all_eq_true.1 hp.2 f (List.mem_of_getElem? hf)) h1]; rfl)
      simp only [List.drop_zero] at this
      rw [this]
      simp [flatD, List.map_map, Function.comp_def]
    · cases hp
end Go.Proofs.YtcbiaeeifclieaaGreatDoor
