/- Options that go together are read back from their words. -/
import Derived.Test.YtcdogkabdhbjmaaDoorSwD
namespace Go.Proofs.YtcdogkabdhbjmaaDoor
open Go.Lib

def pc (T : List (ByteArray × Nat × Int)) (v : Int) : List ByteArray := T.filterMap fun t => if v = t.2.2 then some t.1 else none
def T0 : List (ByteArray × Nat × Int) := [(⟨#[108, 116, 114]⟩, 0, 0), (⟨#[114, 116, 108]⟩, 0, 1), (⟨#[102, 105, 114, 115, 116, 45, 108, 116, 114]⟩, 0, 2), (⟨#[102, 105, 114, 115, 116, 45, 114, 116, 108]⟩, 0, 3)]
def T1 : List (ByteArray × Nat × Int) := [(⟨#[108, 97, 109, 45, 114, 101, 115, 105, 122, 101]⟩, 1, 1), (⟨#[108, 97, 109, 45, 110, 101, 97, 114]⟩, 1, 2), (⟨#[108, 97, 109, 45, 98, 101, 103, 105, 110]⟩, 1, 3), (⟨#[108, 97, 109, 45, 101, 110, 100]⟩, 1, 4)]
def T2 : List (ByteArray × Nat × Int) := [(⟨#[109, 97, 114, 107, 45, 105, 115, 111, 108, 97, 116, 101, 100]⟩, 2, 1), (⟨#[109, 97, 114, 107, 45, 109, 101, 100, 105, 97, 108]⟩, 2, 2), (⟨#[109, 97, 114, 107, 45, 114, 101, 109, 111, 118, 101]⟩, 2, 3), (⟨#[109, 97, 114, 107, 45, 116, 97, 116, 119, 101, 101, 108]⟩, 2, 4)]
def T3 : List (ByteArray × Nat × Int) := [(⟨#[116, 111, 45, 97, 114, 97, 98, 105, 99]⟩, 3, 1), (⟨#[116, 111, 45, 101, 117, 114, 111, 112, 101, 97, 110]⟩, 3, 2), (⟨#[99, 111, 110, 116, 101, 120, 116, 45, 108, 116, 114]⟩, 3, 3), (⟨#[99, 111, 110, 116, 101, 120, 116, 45, 97, 114, 97, 98, 105, 99]⟩, 3, 4)]
def T4 : List (ByteArray × Nat × Int) := [(⟨#[101, 97, 115, 116, 101, 114, 110]⟩, 4, 1)]
def T5 : List (ByteArray × Nat × Int) := [(⟨#[108, 101, 116, 116, 101, 114, 115]⟩, 5, 1)]
def T6 : List (ByteArray × Nat × Int) := [(⟨#[116, 104, 114, 111, 117, 103, 104]⟩, 6, 1)]
def T7 : List (ByteArray × Nat × Int) := [(⟨#[112, 105, 108, 101]⟩, 7, 1)]
def T8 : List (ByteArray × Nat × Int) := [(⟨#[115, 101, 101, 110]⟩, 8, 1)]
def T9 : List (ByteArray × Nat × Int) := [(⟨#[121, 101, 104]⟩, 9, 1)]
def T10 : List (ByteArray × Nat × Int) := [(⟨#[114, 101, 111, 114, 100, 101, 114]⟩, 10, 1)]
def T11 : List (ByteArray × Nat × Int) := [(⟨#[109, 97, 114, 107, 115]⟩, 11, 1)]
def T12 : List (ByteArray × Nat × Int) := [(⟨#[109, 105, 114, 114, 111, 114]⟩, 12, 1)]
def T13 : List (ByteArray × Nat × Int) := [(⟨#[115, 116, 114, 105, 112]⟩, 13, 1)]
theorem terms_cut : termsL = T0 ++ (T1 ++ (T2 ++ (T3 ++ (T4 ++ (T5 ++ (T6 ++ (T7 ++ (T8 ++ (T9 ++ (T10 ++ (T11 ++ (T12 ++ (T13))))))))))))) := rfl
theorem wordsL_cut (o : Opt) : wordsL o = pc T0 o.d ++ (pc T1 o.l ++ (pc T2 o.t ++ (pc T3 o.g ++ (pc T4 (Opt.bi o.b0) ++ (pc T5 (Opt.bi o.b1) ++ (pc T6 (Opt.bi o.b2) ++ (pc T7 (Opt.bi o.b3) ++ (pc T8 (Opt.bi o.b4) ++ (pc T9 (Opt.bi o.b5) ++ (pc T10 (Opt.bi o.b6) ++ (pc T11 (Opt.bi o.b7) ++ (pc T12 (Opt.bi o.b8) ++ (pc T13 (Opt.bi o.b9)))))))))))))) := by
  unfold wordsL
  rw [terms_cut]
  simp only [List.filterMap_append]
  rfl
theorem said_one (w : ByteArray) (k : Nat) (n : Int) (rest : List ByteArray) (o : Opt) (kn : List Bool) (hf : findT w = some (k, n)) (hk : kn.getD k false = false) : saidL ([w] ++ rest) o kn = saidL rest (o.put k n) (kn.set k true) := by
  show saidL (w :: rest) o kn = _
  rw [saidL, hf]
  simp only [hk, Bool.false_eq_true, if_false]
theorem find0 : findT ⟨#[108, 116, 114]⟩ = some (0, 0) := by decide +kernel
theorem find1 : findT ⟨#[114, 116, 108]⟩ = some (0, 1) := by decide +kernel
theorem find2 : findT ⟨#[102, 105, 114, 115, 116, 45, 108, 116, 114]⟩ = some (0, 2) := by decide +kernel
theorem find3 : findT ⟨#[102, 105, 114, 115, 116, 45, 114, 116, 108]⟩ = some (0, 3) := by decide +kernel
theorem find4 : findT ⟨#[108, 97, 109, 45, 114, 101, 115, 105, 122, 101]⟩ = some (1, 1) := by decide +kernel
theorem find5 : findT ⟨#[108, 97, 109, 45, 110, 101, 97, 114]⟩ = some (1, 2) := by decide +kernel
theorem find6 : findT ⟨#[108, 97, 109, 45, 98, 101, 103, 105, 110]⟩ = some (1, 3) := by decide +kernel
theorem find7 : findT ⟨#[108, 97, 109, 45, 101, 110, 100]⟩ = some (1, 4) := by decide +kernel
theorem find8 : findT ⟨#[109, 97, 114, 107, 45, 105, 115, 111, 108, 97, 116, 101, 100]⟩ = some (2, 1) := by decide +kernel
theorem find9 : findT ⟨#[109, 97, 114, 107, 45, 109, 101, 100, 105, 97, 108]⟩ = some (2, 2) := by decide +kernel
theorem find10 : findT ⟨#[109, 97, 114, 107, 45, 114, 101, 109, 111, 118, 101]⟩ = some (2, 3) := by decide +kernel
theorem find11 : findT ⟨#[109, 97, 114, 107, 45, 116, 97, 116, 119, 101, 101, 108]⟩ = some (2, 4) := by decide +kernel
theorem find12 : findT ⟨#[116, 111, 45, 97, 114, 97, 98, 105, 99]⟩ = some (3, 1) := by decide +kernel
theorem find13 : findT ⟨#[116, 111, 45, 101, 117, 114, 111, 112, 101, 97, 110]⟩ = some (3, 2) := by decide +kernel
theorem find14 : findT ⟨#[99, 111, 110, 116, 101, 120, 116, 45, 108, 116, 114]⟩ = some (3, 3) := by decide +kernel
theorem find15 : findT ⟨#[99, 111, 110, 116, 101, 120, 116, 45, 97, 114, 97, 98, 105, 99]⟩ = some (3, 4) := by decide +kernel
theorem find16 : findT ⟨#[101, 97, 115, 116, 101, 114, 110]⟩ = some (4, 1) := by decide +kernel
theorem find17 : findT ⟨#[108, 101, 116, 116, 101, 114, 115]⟩ = some (5, 1) := by decide +kernel
theorem find18 : findT ⟨#[116, 104, 114, 111, 117, 103, 104]⟩ = some (6, 1) := by decide +kernel
theorem find19 : findT ⟨#[112, 105, 108, 101]⟩ = some (7, 1) := by decide +kernel
theorem find20 : findT ⟨#[115, 101, 101, 110]⟩ = some (8, 1) := by decide +kernel
theorem find21 : findT ⟨#[121, 101, 104]⟩ = some (9, 1) := by decide +kernel
theorem find22 : findT ⟨#[114, 101, 111, 114, 100, 101, 114]⟩ = some (10, 1) := by decide +kernel
theorem find23 : findT ⟨#[109, 97, 114, 107, 115]⟩ = some (11, 1) := by decide +kernel
theorem find24 : findT ⟨#[109, 105, 114, 114, 111, 114]⟩ = some (12, 1) := by decide +kernel
theorem find25 : findT ⟨#[115, 116, 114, 105, 112]⟩ = some (13, 1) := by decide +kernel
theorem step_said0 (d : Int)  (h : 0 ≤ d ∧ d ≤ 3) (rest : List ByteArray) : ∃ c, saidL (pc T0 d ++ rest) ⟨0, 0, 0, 0, false, false, false, false, false, false, false, false, false, false⟩ [false, false, false, false, false, false, false, false, false, false, false, false, false, false] = saidL rest ⟨d, 0, 0, 0, false, false, false, false, false, false, false, false, false, false⟩ [c, false, false, false, false, false, false, false, false, false, false, false, false, false] := by
  have hc : d = 0 ∨ d = 1 ∨ d = 2 ∨ d = 3 := by omega
  rcases hc with rfl | rfl | rfl | rfl
  · exact ⟨true, said_one ⟨#[108, 116, 114]⟩ 0 0 rest _ _ find0 rfl⟩
  · exact ⟨true, said_one ⟨#[114, 116, 108]⟩ 0 1 rest _ _ find1 rfl⟩
  · exact ⟨true, said_one ⟨#[102, 105, 114, 115, 116, 45, 108, 116, 114]⟩ 0 2 rest _ _ find2 rfl⟩
  · exact ⟨true, said_one ⟨#[102, 105, 114, 115, 116, 45, 114, 116, 108]⟩ 0 3 rest _ _ find3 rfl⟩
theorem step_said1 (d : Int) (l : Int)  (c0 : Bool) (h : 0 ≤ l ∧ l ≤ 4) (rest : List ByteArray) : ∃ c, saidL (pc T1 l ++ rest) ⟨d, 0, 0, 0, false, false, false, false, false, false, false, false, false, false⟩ [c0, false, false, false, false, false, false, false, false, false, false, false, false, false] = saidL rest ⟨d, l, 0, 0, false, false, false, false, false, false, false, false, false, false⟩ [c0, c, false, false, false, false, false, false, false, false, false, false, false, false] := by
  have hc : l = 0 ∨ l = 1 ∨ l = 2 ∨ l = 3 ∨ l = 4 := by omega
  rcases hc with rfl | rfl | rfl | rfl | rfl
  · exact ⟨false, rfl⟩
  · exact ⟨true, said_one ⟨#[108, 97, 109, 45, 114, 101, 115, 105, 122, 101]⟩ 1 1 rest _ _ find4 rfl⟩
  · exact ⟨true, said_one ⟨#[108, 97, 109, 45, 110, 101, 97, 114]⟩ 1 2 rest _ _ find5 rfl⟩
  · exact ⟨true, said_one ⟨#[108, 97, 109, 45, 98, 101, 103, 105, 110]⟩ 1 3 rest _ _ find6 rfl⟩
  · exact ⟨true, said_one ⟨#[108, 97, 109, 45, 101, 110, 100]⟩ 1 4 rest _ _ find7 rfl⟩
theorem step_said2 (d : Int) (l : Int) (t : Int)  (c0 c1 : Bool) (h : 0 ≤ t ∧ t ≤ 4) (rest : List ByteArray) : ∃ c, saidL (pc T2 t ++ rest) ⟨d, l, 0, 0, false, false, false, false, false, false, false, false, false, false⟩ [c0, c1, false, false, false, false, false, false, false, false, false, false, false, false] = saidL rest ⟨d, l, t, 0, false, false, false, false, false, false, false, false, false, false⟩ [c0, c1, c, false, false, false, false, false, false, false, false, false, false, false] := by
  have hc : t = 0 ∨ t = 1 ∨ t = 2 ∨ t = 3 ∨ t = 4 := by omega
  rcases hc with rfl | rfl | rfl | rfl | rfl
  · exact ⟨false, rfl⟩
  · exact ⟨true, said_one ⟨#[109, 97, 114, 107, 45, 105, 115, 111, 108, 97, 116, 101, 100]⟩ 2 1 rest _ _ find8 rfl⟩
  · exact ⟨true, said_one ⟨#[109, 97, 114, 107, 45, 109, 101, 100, 105, 97, 108]⟩ 2 2 rest _ _ find9 rfl⟩
  · exact ⟨true, said_one ⟨#[109, 97, 114, 107, 45, 114, 101, 109, 111, 118, 101]⟩ 2 3 rest _ _ find10 rfl⟩
  · exact ⟨true, said_one ⟨#[109, 97, 114, 107, 45, 116, 97, 116, 119, 101, 101, 108]⟩ 2 4 rest _ _ find11 rfl⟩
theorem step_said3 (d : Int) (l : Int) (t : Int) (g : Int)  (c0 c1 c2 : Bool) (h : 0 ≤ g ∧ g ≤ 4) (rest : List ByteArray) : ∃ c, saidL (pc T3 g ++ rest) ⟨d, l, t, 0, false, false, false, false, false, false, false, false, false, false⟩ [c0, c1, c2, false, false, false, false, false, false, false, false, false, false, false] = saidL rest ⟨d, l, t, g, false, false, false, false, false, false, false, false, false, false⟩ [c0, c1, c2, c, false, false, false, false, false, false, false, false, false, false] := by
  have hc : g = 0 ∨ g = 1 ∨ g = 2 ∨ g = 3 ∨ g = 4 := by omega
  rcases hc with rfl | rfl | rfl | rfl | rfl
  · exact ⟨false, rfl⟩
  · exact ⟨true, said_one ⟨#[116, 111, 45, 97, 114, 97, 98, 105, 99]⟩ 3 1 rest _ _ find12 rfl⟩
  · exact ⟨true, said_one ⟨#[116, 111, 45, 101, 117, 114, 111, 112, 101, 97, 110]⟩ 3 2 rest _ _ find13 rfl⟩
  · exact ⟨true, said_one ⟨#[99, 111, 110, 116, 101, 120, 116, 45, 108, 116, 114]⟩ 3 3 rest _ _ find14 rfl⟩
  · exact ⟨true, said_one ⟨#[99, 111, 110, 116, 101, 120, 116, 45, 97, 114, 97, 98, 105, 99]⟩ 3 4 rest _ _ find15 rfl⟩
theorem step_said4 (d : Int) (l : Int) (t : Int) (g : Int) (b0 : Bool) (c0 c1 c2 c3 : Bool) (rest : List ByteArray) : ∃ c, saidL (pc T4 (Opt.bi b0) ++ rest) ⟨d, l, t, g, false, false, false, false, false, false, false, false, false, false⟩ [c0, c1, c2, c3, false, false, false, false, false, false, false, false, false, false] = saidL rest ⟨d, l, t, g, b0, false, false, false, false, false, false, false, false, false⟩ [c0, c1, c2, c3, c, false, false, false, false, false, false, false, false, false] := by
  cases b0 with
  | false => exact ⟨false, rfl⟩
  | true => exact ⟨true, said_one ⟨#[101, 97, 115, 116, 101, 114, 110]⟩ 4 1 rest _ _ find16 rfl⟩
theorem step_said5 (d : Int) (l : Int) (t : Int) (g : Int) (b0 : Bool) (b1 : Bool) (c0 c1 c2 c3 c4 : Bool) (rest : List ByteArray) : ∃ c, saidL (pc T5 (Opt.bi b1) ++ rest) ⟨d, l, t, g, b0, false, false, false, false, false, false, false, false, false⟩ [c0, c1, c2, c3, c4, false, false, false, false, false, false, false, false, false] = saidL rest ⟨d, l, t, g, b0, b1, false, false, false, false, false, false, false, false⟩ [c0, c1, c2, c3, c4, c, false, false, false, false, false, false, false, false] := by
  cases b1 with
  | false => exact ⟨false, rfl⟩
  | true => exact ⟨true, said_one ⟨#[108, 101, 116, 116, 101, 114, 115]⟩ 5 1 rest _ _ find17 rfl⟩
theorem step_said6 (d : Int) (l : Int) (t : Int) (g : Int) (b0 : Bool) (b1 : Bool) (b2 : Bool) (c0 c1 c2 c3 c4 c5 : Bool) (rest : List ByteArray) : ∃ c, saidL (pc T6 (Opt.bi b2) ++ rest) ⟨d, l, t, g, b0, b1, false, false, false, false, false, false, false, false⟩ [c0, c1, c2, c3, c4, c5, false, false, false, false, false, false, false, false] = saidL rest ⟨d, l, t, g, b0, b1, b2, false, false, false, false, false, false, false⟩ [c0, c1, c2, c3, c4, c5, c, false, false, false, false, false, false, false] := by
  cases b2 with
  | false => exact ⟨false, rfl⟩
  | true => exact ⟨true, said_one ⟨#[116, 104, 114, 111, 117, 103, 104]⟩ 6 1 rest _ _ find18 rfl⟩
theorem step_said7 (d : Int) (l : Int) (t : Int) (g : Int) (b0 : Bool) (b1 : Bool) (b2 : Bool) (b3 : Bool) (c0 c1 c2 c3 c4 c5 c6 : Bool) (rest : List ByteArray) : ∃ c, saidL (pc T7 (Opt.bi b3) ++ rest) ⟨d, l, t, g, b0, b1, b2, false, false, false, false, false, false, false⟩ [c0, c1, c2, c3, c4, c5, c6, false, false, false, false, false, false, false] = saidL rest ⟨d, l, t, g, b0, b1, b2, b3, false, false, false, false, false, false⟩ [c0, c1, c2, c3, c4, c5, c6, c, false, false, false, false, false, false] := by
  cases b3 with
  | false => exact ⟨false, rfl⟩
  | true => exact ⟨true, said_one ⟨#[112, 105, 108, 101]⟩ 7 1 rest _ _ find19 rfl⟩
theorem step_said8 (d : Int) (l : Int) (t : Int) (g : Int) (b0 : Bool) (b1 : Bool) (b2 : Bool) (b3 : Bool) (b4 : Bool) (c0 c1 c2 c3 c4 c5 c6 c7 : Bool) (rest : List ByteArray) : ∃ c, saidL (pc T8 (Opt.bi b4) ++ rest) ⟨d, l, t, g, b0, b1, b2, b3, false, false, false, false, false, false⟩ [c0, c1, c2, c3, c4, c5, c6, c7, false, false, false, false, false, false] = saidL rest ⟨d, l, t, g, b0, b1, b2, b3, b4, false, false, false, false, false⟩ [c0, c1, c2, c3, c4, c5, c6, c7, c, false, false, false, false, false] := by
  cases b4 with
  | false => exact ⟨false, rfl⟩
  | true => exact ⟨true, said_one ⟨#[115, 101, 101, 110]⟩ 8 1 rest _ _ find20 rfl⟩
theorem step_said9 (d : Int) (l : Int) (t : Int) (g : Int) (b0 : Bool) (b1 : Bool) (b2 : Bool) (b3 : Bool) (b4 : Bool) (b5 : Bool) (c0 c1 c2 c3 c4 c5 c6 c7 c8 : Bool) (rest : List ByteArray) : ∃ c, saidL (pc T9 (Opt.bi b5) ++ rest) ⟨d, l, t, g, b0, b1, b2, b3, b4, false, false, false, false, false⟩ [c0, c1, c2, c3, c4, c5, c6, c7, c8, false, false, false, false, false] = saidL rest ⟨d, l, t, g, b0, b1, b2, b3, b4, b5, false, false, false, false⟩ [c0, c1, c2, c3, c4, c5, c6, c7, c8, c, false, false, false, false] := by
  cases b5 with
  | false => exact ⟨false, rfl⟩
  | true => exact ⟨true, said_one ⟨#[121, 101, 104]⟩ 9 1 rest _ _ find21 rfl⟩
theorem step_said10 (d : Int) (l : Int) (t : Int) (g : Int) (b0 : Bool) (b1 : Bool) (b2 : Bool) (b3 : Bool) (b4 : Bool) (b5 : Bool) (b6 : Bool) (c0 c1 c2 c3 c4 c5 c6 c7 c8 c9 : Bool) (rest : List ByteArray) : ∃ c, saidL (pc T10 (Opt.bi b6) ++ rest) ⟨d, l, t, g, b0, b1, b2, b3, b4, b5, false, false, false, false⟩ [c0, c1, c2, c3, c4, c5, c6, c7, c8, c9, false, false, false, false] = saidL rest ⟨d, l, t, g, b0, b1, b2, b3, b4, b5, b6, false, false, false⟩ [c0, c1, c2, c3, c4, c5, c6, c7, c8, c9, c, false, false, false] := by
  cases b6 with
  | false => exact ⟨false, rfl⟩
  | true => exact ⟨true, said_one ⟨#[114, 101, 111, 114, 100, 101, 114]⟩ 10 1 rest _ _ find22 rfl⟩
theorem step_said11 (d : Int) (l : Int) (t : Int) (g : Int) (b0 : Bool) (b1 : Bool) (b2 : Bool) (b3 : Bool) (b4 : Bool) (b5 : Bool) (b6 : Bool) (b7 : Bool) (c0 c1 c2 c3 c4 c5 c6 c7 c8 c9 c10 : Bool) (rest : List ByteArray) : ∃ c, saidL (pc T11 (Opt.bi b7) ++ rest) ⟨d, l, t, g, b0, b1, b2, b3, b4, b5, b6, false, false, false⟩ [c0, c1, c2, c3, c4, c5, c6, c7, c8, c9, c10, false, false, false] = saidL rest ⟨d, l, t, g, b0, b1, b2, b3, b4, b5, b6, b7, false, false⟩ [c0, c1, c2, c3, c4, c5, c6, c7, c8, c9, c10, c, false, false] := by
  cases b7 with
  | false => exact ⟨false, rfl⟩
  | true => exact ⟨true, said_one ⟨#[109, 97, 114, 107, 115]⟩ 11 1 rest _ _ find23 rfl⟩
theorem step_said12 (d : Int) (l : Int) (t : Int) (g : Int) (b0 : Bool) (b1 : Bool) (b2 : Bool) (b3 : Bool) (b4 : Bool) (b5 : Bool) (b6 : Bool) (b7 : Bool) (b8 : Bool) (c0 c1 c2 c3 c4 c5 c6 c7 c8 c9 c10 c11 : Bool) (rest : List ByteArray) : ∃ c, saidL (pc T12 (Opt.bi b8) ++ rest) ⟨d, l, t, g, b0, b1, b2, b3, b4, b5, b6, b7, false, false⟩ [c0, c1, c2, c3, c4, c5, c6, c7, c8, c9, c10, c11, false, false] = saidL rest ⟨d, l, t, g, b0, b1, b2, b3, b4, b5, b6, b7, b8, false⟩ [c0, c1, c2, c3, c4, c5, c6, c7, c8, c9, c10, c11, c, false] := by
  cases b8 with
  | false => exact ⟨false, rfl⟩
  | true => exact ⟨true, said_one ⟨#[109, 105, 114, 114, 111, 114]⟩ 12 1 rest _ _ find24 rfl⟩
theorem step_said13 (d : Int) (l : Int) (t : Int) (g : Int) (b0 : Bool) (b1 : Bool) (b2 : Bool) (b3 : Bool) (b4 : Bool) (b5 : Bool) (b6 : Bool) (b7 : Bool) (b8 : Bool) (b9 : Bool) (c0 c1 c2 c3 c4 c5 c6 c7 c8 c9 c10 c11 c12 : Bool) (rest : List ByteArray) : ∃ c, saidL (pc T13 (Opt.bi b9) ++ rest) ⟨d, l, t, g, b0, b1, b2, b3, b4, b5, b6, b7, b8, false⟩ [c0, c1, c2, c3, c4, c5, c6, c7, c8, c9, c10, c11, c12, false] = saidL rest ⟨d, l, t, g, b0, b1, b2, b3, b4, b5, b6, b7, b8, b9⟩ [c0, c1, c2, c3, c4, c5, c6, c7, c8, c9, c10, c11, c12, c] := by
  cases b9 with
  | false => exact ⟨false, rfl⟩
  | true => exact ⟨true, said_one ⟨#[115, 116, 114, 105, 112]⟩ 13 1 rest _ _ find25 rfl⟩
theorem said_words (o : Opt) (h : o.err = 0) : saidF (wordsL o) = (o, 0) := by
  have hm := Opt.err_zero h
  unfold Opt.may at hm
  simp only [decide_eq_true_eq] at hm
  obtain ⟨d, l, t, g, b0, b1, b2, b3, b4, b5, b6, b7, b8, b9⟩ := o
  simp only at hm
  obtain ⟨d0, d1, l0, l1, t0, t1, g0, g1⟩ := hm
  rw [wordsL_cut]
  unfold saidF
  rw [show List.replicate 14 false = [false, false, false, false, false, false, false, false, false, false, false, false, false, false] from rfl, show Opt.zero = ⟨0, 0, 0, 0, false, false, false, false, false, false, false, false, false, false⟩ from rfl]
  obtain ⟨c0, e0⟩ := step_said0 d  ⟨d0, d1⟩ (pc T1 l ++ (pc T2 t ++ (pc T3 g ++ (pc T4 (Opt.bi b0) ++ (pc T5 (Opt.bi b1) ++ (pc T6 (Opt.bi b2) ++ (pc T7 (Opt.bi b3) ++ (pc T8 (Opt.bi b4) ++ (pc T9 (Opt.bi b5) ++ (pc T10 (Opt.bi b6) ++ (pc T11 (Opt.bi b7) ++ (pc T12 (Opt.bi b8) ++ (pc T13 (Opt.bi b9))))))))))))))
  rw [e0]
  obtain ⟨c1, e1⟩ := step_said1 d l c0 ⟨l0, l1⟩ (pc T2 t ++ (pc T3 g ++ (pc T4 (Opt.bi b0) ++ (pc T5 (Opt.bi b1) ++ (pc T6 (Opt.bi b2) ++ (pc T7 (Opt.bi b3) ++ (pc T8 (Opt.bi b4) ++ (pc T9 (Opt.bi b5) ++ (pc T10 (Opt.bi b6) ++ (pc T11 (Opt.bi b7) ++ (pc T12 (Opt.bi b8) ++ (pc T13 (Opt.bi b9)))))))))))))
  rw [e1]
  obtain ⟨c2, e2⟩ := step_said2 d l t c0 c1 ⟨t0, t1⟩ (pc T3 g ++ (pc T4 (Opt.bi b0) ++ (pc T5 (Opt.bi b1) ++ (pc T6 (Opt.bi b2) ++ (pc T7 (Opt.bi b3) ++ (pc T8 (Opt.bi b4) ++ (pc T9 (Opt.bi b5) ++ (pc T10 (Opt.bi b6) ++ (pc T11 (Opt.bi b7) ++ (pc T12 (Opt.bi b8) ++ (pc T13 (Opt.bi b9))))))))))))
  rw [e2]
  obtain ⟨c3, e3⟩ := step_said3 d l t g c0 c1 c2 ⟨g0, g1⟩ (pc T4 (Opt.bi b0) ++ (pc T5 (Opt.bi b1) ++ (pc T6 (Opt.bi b2) ++ (pc T7 (Opt.bi b3) ++ (pc T8 (Opt.bi b4) ++ (pc T9 (Opt.bi b5) ++ (pc T10 (Opt.bi b6) ++ (pc T11 (Opt.bi b7) ++ (pc T12 (Opt.bi b8) ++ (pc T13 (Opt.bi b9)))))))))))
  rw [e3]
  obtain ⟨c4, e4⟩ := step_said4 d l t g b0 c0 c1 c2 c3 (pc T5 (Opt.bi b1) ++ (pc T6 (Opt.bi b2) ++ (pc T7 (Opt.bi b3) ++ (pc T8 (Opt.bi b4) ++ (pc T9 (Opt.bi b5) ++ (pc T10 (Opt.bi b6) ++ (pc T11 (Opt.bi b7) ++ (pc T12 (Opt.bi b8) ++ (pc T13 (Opt.bi b9))))))))))
  rw [e4]
  obtain ⟨c5, e5⟩ := step_said5 d l t g b0 b1 c0 c1 c2 c3 c4 (pc T6 (Opt.bi b2) ++ (pc T7 (Opt.bi b3) ++ (pc T8 (Opt.bi b4) ++ (pc T9 (Opt.bi b5) ++ (pc T10 (Opt.bi b6) ++ (pc T11 (Opt.bi b7) ++ (pc T12 (Opt.bi b8) ++ (pc T13 (Opt.bi b9)))))))))
  rw [e5]
  obtain ⟨c6, e6⟩ := step_said6 d l t g b0 b1 b2 c0 c1 c2 c3 c4 c5 (pc T7 (Opt.bi b3) ++ (pc T8 (Opt.bi b4) ++ (pc T9 (Opt.bi b5) ++ (pc T10 (Opt.bi b6) ++ (pc T11 (Opt.bi b7) ++ (pc T12 (Opt.bi b8) ++ (pc T13 (Opt.bi b9))))))))
  rw [e6]
  obtain ⟨c7, e7⟩ := step_said7 d l t g b0 b1 b2 b3 c0 c1 c2 c3 c4 c5 c6 (pc T8 (Opt.bi b4) ++ (pc T9 (Opt.bi b5) ++ (pc T10 (Opt.bi b6) ++ (pc T11 (Opt.bi b7) ++ (pc T12 (Opt.bi b8) ++ (pc T13 (Opt.bi b9)))))))
  rw [e7]
  obtain ⟨c8, e8⟩ := step_said8 d l t g b0 b1 b2 b3 b4 c0 c1 c2 c3 c4 c5 c6 c7 (pc T9 (Opt.bi b5) ++ (pc T10 (Opt.bi b6) ++ (pc T11 (Opt.bi b7) ++ (pc T12 (Opt.bi b8) ++ (pc T13 (Opt.bi b9))))))
  rw [e8]
  obtain ⟨c9, e9⟩ := step_said9 d l t g b0 b1 b2 b3 b4 b5 c0 c1 c2 c3 c4 c5 c6 c7 c8 (pc T10 (Opt.bi b6) ++ (pc T11 (Opt.bi b7) ++ (pc T12 (Opt.bi b8) ++ (pc T13 (Opt.bi b9)))))
  rw [e9]
  obtain ⟨c10, e10⟩ := step_said10 d l t g b0 b1 b2 b3 b4 b5 b6 c0 c1 c2 c3 c4 c5 c6 c7 c8 c9 (pc T11 (Opt.bi b7) ++ (pc T12 (Opt.bi b8) ++ (pc T13 (Opt.bi b9))))
  rw [e10]
  obtain ⟨c11, e11⟩ := step_said11 d l t g b0 b1 b2 b3 b4 b5 b6 b7 c0 c1 c2 c3 c4 c5 c6 c7 c8 c9 c10 (pc T12 (Opt.bi b8) ++ (pc T13 (Opt.bi b9)))
  rw [e11]
  obtain ⟨c12, e12⟩ := step_said12 d l t g b0 b1 b2 b3 b4 b5 b6 b7 b8 c0 c1 c2 c3 c4 c5 c6 c7 c8 c9 c10 c11 (pc T13 (Opt.bi b9))
  rw [e12]
  obtain ⟨c13, e13⟩ := step_said13 d l t g b0 b1 b2 b3 b4 b5 b6 b7 b8 b9 c0 c1 c2 c3 c4 c5 c6 c7 c8 c9 c10 c11 c12 []
  rw [List.append_nil] at e13
  rw [e13]
  rfl
def wordOk (w : ByteArray) : Bool := w.data.toList.all (fun b => !(b.toNat == 32)) && !w.data.toList.isEmpty && decide (w.data.toList.length ≤ 14)
theorem terms_word : (termsL.all fun t => wordOk t.1) = true := by decide +kernel
theorem wordsL_ok (o : Opt) : ∀ w ∈ wordsL o, wordOk w = true := fun w hw => by
  unfold wordsL at hw
  rw [List.mem_filterMap] at hw
  obtain ⟨t, ht, he⟩ := hw
  have := List.all_eq_true.1 terms_word t ht
  split at he
  · injection he with he
    rw [← he]
    exact this
  · cases he
theorem wordOk_of {w : ByteArray} (h : wordOk w = true) : (∀ b ∈ w.data.toList, b.toNat ≠ 32) ∧ w.data.toList ≠ [] ∧ w.data.toList.length ≤ 14 := by
  unfold wordOk at h
  simp only [Bool.and_eq_true, decide_eq_true_eq, List.all_eq_true] at h
  obtain ⟨⟨h1, h2⟩, h3⟩ := h
  refine ⟨fun b hb => ?_, fun e => ?_, h3⟩
  · have := h1 b hb
    simpa using this
  · rw [e] at h2
    cases h2
theorem split_join : ∀ L : List ByteArray, (∀ w ∈ L, wordOk w = true) → splitL [] (joinB L) = L
  | [], _ => rfl
  | [w], h => by
    obtain ⟨h1, h2, _⟩ := wordOk_of (h w (by simp))
    have := splitL_word w.data.toList [] [] h1
    rw [List.append_nil, List.nil_append] at this
    show splitL [] w.data.toList = _
    rw [this, splitL, if_neg h2]
  | w :: v :: L, h => by
    obtain ⟨h1, h2, _⟩ := wordOk_of (h w (by simp))
    show splitL [] (w.data.toList ++ 32 :: joinB (v :: L)) = _
    rw [splitL_word w.data.toList [] _ h1, List.nil_append, splitL_blank _ _ _ (by decide) h2, split_join (v :: L) (fun x hx => h x (by simp [hx]))]
theorem join_len : ∀ L : List ByteArray, (∀ w ∈ L, wordOk w = true) → (joinB L).length ≤ 15 * L.length
  | [], _ => Nat.le_refl _
  | [w], h => by
    have := (wordOk_of (h w (by simp))).2.2
    show w.data.toList.length ≤ 15
    omega
  | w :: v :: L, h => by
    have h1 := (wordOk_of (h w (by simp))).2.2
    have h2 := join_len (v :: L) (fun x hx => h x (by simp [hx]))
    show (w.data.toList ++ 32 :: joinB (v :: L)).length ≤ _
    rw [List.length_append, List.length_cons]
    simp only [List.length_cons] at h2 ⊢
    omega
theorem wordsL_few (o : Opt) : (wordsL o).length ≤ 26 := by
  have := List.length_filterMap_le (fun t => if o.fields.getD t.2.1 0 = t.2.2 then some t.1 else none) termsL
  rw [terms_len] at this
  exact this
theorem parse_print (o : Opt) (h : o.err = 0) : parseF (printF o).1 = (o, 0) := by
  unfold printF
  rw [if_pos h]
  simp only
  have hs : (⟨(joinB (wordsL o)).toArray⟩ : ByteArray).size ≤ 1000 := by
    show (joinB (wordsL o)).toArray.size ≤ 1000
    rw [List.size_toArray]
    have := join_len (wordsL o) (wordsL_ok o)
    have := wordsL_few o
    omega
  have hw : wordsF ⟨(joinB (wordsL o)).toArray⟩ = wordsL o := by
    rw [words_split]
    exact split_join _ (wordsL_ok o)
  unfold parseF
  rw [hw, said_words o h, if_neg (by omega), if_pos rfl]
  simp only
  rw [if_pos h]
end Go.Proofs.YtcdogkabdhbjmaaDoor
