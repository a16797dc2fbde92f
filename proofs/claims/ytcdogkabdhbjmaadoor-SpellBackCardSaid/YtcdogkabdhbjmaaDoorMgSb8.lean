/- Texts of one claim, one behind the other. -/
import Derived.BigQuiet
import Derived.Deep.QuietTactic
import Derived.StillTailTactics
import Derived.Test.YtcdogkabdhbjmaaDoorMgSb1
import Derived.Test.YtcdogkabdhbjmaaDoorMgSb2
import Derived.Test.YtcdogkabdhbjmaaDoorMgSb5
import Derived.Test.YtcdogkabdhbjmaaDoorMgSb7
/- Options that go together are read back from their words. -/
namespace Go.Proofs.YtcdogkabdhbjmaaDoor
open Go.Lib

def pc (T : List (ByteArray × Nat × Int)) (v : Int) : List ByteArray := T.filterMap fun t => if v = t.2.2 then some t.1 else none
def T0 : List (ByteArray × Nat × Int) := [(⟨#[108, 116, 114]⟩, 0, 0), (⟨#[114, 116, 108]⟩, 0, 1), (⟨#[102, 105, 114, 115, 116, 45, 108, 116, 114]⟩, 0, 2), (⟨#[102, 105, 114, 115, 116, 45, 114, 116, 108]⟩, 0, 3)]
def T1 : List (ByteArray × Nat × Int) := [(⟨#[108, 97, 109, 45, 114, 101, 115, 105, 122, 101]⟩, 1, 1), (⟨#[108, 97, 109, 45, 110, 101, 97, 114]⟩, 1, 2), (⟨#[108, 97, 109, 45, 98, 101, 103, 105, 110]⟩, 1, 3), (⟨#[108, 97, 109, 45, 101, 110, 100]⟩, 1, 4)]
def T2 : List (ByteArray × Nat × Int) := [(⟨#[109, 97, 114, 107, 45, 105, 115, 111, 108, 97, 116, 101, 100]⟩, 2, 1), (⟨#[109, 97, 114, 107, 45, 109, 101, 100, 105, 97, 108]⟩, 2, 2), (⟨#[109, 97, 114, 107, 45, 114, 101, 109, 111, 118, 101]⟩, 2, 3), (⟨#[109, 97, 114, 107, 45, 116, 97, 116, 119, 101, 101, 108]⟩, 2, 4)]
def T3 : List (ByteArray × Nat × Int) := [(⟨#[116, 111, 45, 97, 114, 97, 98, 105, 99]⟩, 3, 1), (⟨#[116, 111, 45, 101, 117, 114, 111, 112, 101, 97, 110]⟩, 3, 2), (⟨#[99, 111, 110, 116, 101, 120, 116, 45, 108, 116, 114]⟩, 3, 3), (⟨#[99, 111, 110, 116, 101, 120, 116, 45, 97, 114, 97, 98, 105, 99]⟩, 3, 4)]
def T4 : List (ByteArray × Nat × Int) := [(⟨#[101, 97, 115, 116, 101, 114, 110]⟩, 4, 1)]
def T5 : List (ByteArray × Nat × Int) := [(⟨#[108, 101, 116, 116, 101, 114, 115]⟩, 5, 1)]
def T6 : List (ByteArray × Nat × Int) := [(⟨#[116, 104, 114, 111, 117, 103, 104]⟩, 6, 1)]
def T7 : List (ByteArray × Nat × Int) := [(⟨#[112, 105, 108, 101]⟩, 7, 1)]
def T8 : List (ByteArray × Nat × Int) := [(⟨#[115, 101, 101, 110]⟩, 8, 1)]
def T9 : List (ByteArray × Nat × Int) := [(⟨#[121, 101, 104]⟩, 9, 1)]
def T10 : List (ByteArray × Nat × Int) := [(⟨#[114, 101, 111, 114, 100, 101, 114]⟩, 10, 1)]
def T11 : List (ByteArray × Nat × Int) := [(⟨#[109, 97, 114, 107, 115]⟩, 11, 1)]
def T12 : List (ByteArray × Nat × Int) := [(⟨#[109, 105, 114, 114, 111, 114]⟩, 12, 1)]
def T13 : List (ByteArray × Nat × Int) := [(⟨#[115, 116, 114, 105, 112]⟩, 13, 1)]
theorem terms_cut : termsL = T0 ++ (T1 ++ (T2 ++ (T3 ++ (T4 ++ (T5 ++ (T6 ++ (T7 ++ (T8 ++ (T9 ++ (T10 ++ (T11 ++ (T12 ++ (T13))))))))))))) := rfl
theorem wordsL_cut (o : Opt) : wordsL o = pc T0 o.d ++ (pc T1 o.l ++ (pc T2 o.t ++ (pc T3 o.g ++ (pc T4 (Opt.bi o.b0) ++ (pc T5 (Opt.bi o.b1) ++ (pc T6 (Opt.bi o.b2) ++ (pc T7 (Opt.bi o.b3) ++ (pc T8 (Opt.bi o.b4) ++ (pc T9 (Opt.bi o.b5) ++ (pc T10 (Opt.bi o.b6) ++ (pc T11 (Opt.bi o.b7) ++ (pc T12 (Opt.bi o.b8) ++ (pc T13 (Opt.bi o.b9)))))))))))))) := by
  unfold wordsL
  rw [terms_cut]
  simp only [List.filterMap_append]
  rfl
theorem said_one (w : ByteArray) (k : Nat) (n : Int) (rest : List ByteArray) (o : Opt) (kn : List Bool) (hf : findT w = some (k, n)) (hk : kn.getD k false = false) : saidL ([w] ++ rest) o kn = saidL rest (o.put k n) (kn.set k true) := by
  show saidL (w :: rest) o kn = _
  rw [saidL, hf]
  simp only [hk, Bool.false_eq_true, if_false]
theorem find0 : findT ⟨#[108, 116, 114]⟩ = some (0, 0) := by decide +kernel
theorem find1 : findT ⟨#[114, 116, 108]⟩ = some (0, 1) := by decide +kernel
theorem find2 : findT ⟨#[102, 105, 114, 115, 116, 45, 108, 116, 114]⟩ = some (0, 2) := by decide +kernel
theorem find3 : findT ⟨#[102, 105, 114, 115, 116, 45, 114, 116, 108]⟩ = some (0, 3) := by decide +kernel
theorem find4 : findT ⟨#[108, 97, 109, 45, 114, 101, 115, 105, 122, 101]⟩ = some (1, 1) := by decide +kernel
theorem find5 : findT ⟨#[108, 97, 109, 45, 110, 101, 97, 114]⟩ = some (1, 2) := by decide +kernel
theorem find6 : findT ⟨#[108, 97, 109, 45, 98, 101, 103, 105, 110]⟩ = some (1, 3) := by decide +kernel
theorem find7 : findT ⟨#[108, 97, 109, 45, 101, 110, 100]⟩ = some (1, 4) := by decide +kernel
theorem find8 : findT ⟨#[109, 97, 114, 107, 45, 105, 115, 111, 108, 97, 116, 101, 100]⟩ = some (2, 1) := by decide +kernel
theorem find9 : findT ⟨#[109, 97, 114, 107, 45, 109, 101, 100, 105, 97, 108]⟩ = some (2, 2) := by decide +kernel
theorem find10 : findT ⟨#[109, 97, 114, 107, 45, 114, 101, 109, 111, 118, 101]⟩ = some (2, 3) := by decide +kernel
theorem find11 : findT ⟨#[109, 97, 114, 107, 45, 116, 97, 116, 119, 101, 101, 108]⟩ = some (2, 4) := by decide +kernel
theorem find12 : findT ⟨#[116, 111, 45, 97, 114, 97, 98, 105, 99]⟩ = some (3, 1) := by decide +kernel
theorem find13 : findT ⟨#[116, 111, 45, 101, 117, 114, 111, 112, 101, 97, 110]⟩ = some (3, 2) := by decide +kernel
theorem find14 : findT ⟨#[99, 111, 110, 116, 101, 120, 116, 45, 108, 116, 114]⟩ = some (3, 3) := by decide +kernel
theorem find15 : findT ⟨#[99, 111, 110, 116, 101, 120, 116, 45, 97, 114, 97, 98, 105, 99]⟩ = some (3, 4) := by decide +kernel
theorem find16 : findT ⟨#[101, 97, 115, 116, 101, 114, 110]⟩ = some (4, 1) := by decide +kernel
theorem find17 : findT ⟨#[108, 101, 116, 116, 101, 114, 115]⟩ = some (5, 1) := by decide +kernel
theorem find18 : findT ⟨#[116, 104, 114, 111, 117, 103, 104]⟩ = some (6, 1) := by decide +kernel
theorem find19 : findT ⟨#[112, 105, 108, 101]⟩ = some (7, 1) := by decide +kernel
theorem find20 : findT ⟨#[115, 101, 101, 110]⟩ = some (8, 1) := by decide +kernel
theorem find21 : findT ⟨#[121, 101, 104]⟩ = some (9, 1) := by decide +kernel
theorem find22 : findT ⟨#[114, 101, 111, 114, 100, 101, 114]⟩ = some (10, 1) := by decide +kernel
theorem find23 : findT ⟨#[109, 97, 114, 107, 115]⟩ = some (11, 1) := by decide +kernel
theorem find24 : findT ⟨#[109, 105, 114, 114, 111, 114]⟩ = some (12, 1) := by decide +kernel
theorem find25 : findT ⟨#[115, 116, 114, 105, 112]⟩ = some (13, 1) := by decide +kernel
theorem step_said0 (d : Int)  (h : 0 ≤ d ∧ d ≤ 3) (rest : List ByteArray) : ∃ c, saidL (pc T0 d ++ rest) ⟨0, 0, 0, 0, false, false, false, false, false, false, false, false, false, false⟩ [false, false, false, false, false, false, false, false, false, false, false, false, false, false] = saidL rest ⟨d, 0, 0, 0, false, false, false, false, false, false, false, false, false, false⟩ [c, false, false, false, false, false, false, false, false, false, false, false, false, false] := by
  have hc : d = 0 ∨ d = 1 ∨ d = 2 ∨ d = 3 := by omega
  rcases hc with rfl | rfl | rfl | rfl
  · exact ⟨true, said_one ⟨#[108, 116, 114]⟩ 0 0 rest _ _ find0 rfl⟩
  · exact ⟨true, said_one ⟨#[114, 116, 108]⟩ 0 1 rest _ _ find1 rfl⟩
  · exact ⟨true, said_one ⟨#[102, 105, 114, 115, 116, 45, 108, 116, 114]⟩ 0 2 rest _ _ find2 rfl⟩
  · exact ⟨true, said_one ⟨#[102, 105, 114, 115, 116, 45, 114, 116, 108]⟩ 0 3 rest _ _ find3 rfl⟩
theorem step_said1 (d : Int) (l : Int)  (c0 : Bool) (h : 0 ≤ l ∧ l ≤ 4) (rest : List ByteArray) : ∃ c, saidL (pc T1 l ++ rest) ⟨d, 0, 0, 0, false, false, false, false, false, false, false, false, false, false⟩ [c0, false, false, false, false, false, false, false, false, false, false, false, false, false] = saidL rest ⟨d, l, 0, 0, false, false, false, false, false, false, false, false, false, false⟩ [c0, c, false, false, false, false, false, false, false, false, false, false, false, false] := by
  have hc : l = 0 ∨ l = 1 ∨ l = 2 ∨ l = 3 ∨ l = 4 := by omega
  rcases hc with rfl | rfl | rfl | rfl | rfl
  · exact ⟨false, rfl⟩
  · exact ⟨true, said_one ⟨#[108, 97, 109, 45, 114, 101, 115, 105, 122, 101]⟩ 1 1 rest _ _ find4 rfl⟩
  · exact ⟨true, said_one ⟨#[108, 97, 109, 45, 110, 101, 97, 114]⟩ 1 2 rest _ _ find5 rfl⟩
  · exact ⟨true, said_one ⟨#[108, 97, 109, 45, 98, 101, 103, 105, 110]⟩ 1 3 rest _ _ find6 rfl⟩
  · exact ⟨true, said_one ⟨#[108, 97, 109, 45, 101, 110, 100]⟩ 1 4 rest _ _ find7 rfl⟩
theorem step_said2 (d : Int) (l : Int) (t : Int)  (c0 c1 : Bool) (h : 0 ≤ t ∧ t ≤ 4) (rest : List ByteArray) : ∃ c, saidL (pc T2 t ++ rest) ⟨d, l, 0, 0, false, false, false, false, false, false, false, false, false, false⟩ [c0, c1, false, false, false, false, false, false, false, false, false, false, false, false] = saidL rest ⟨d, l, t, 0, false, false, false, false, false, false, false, false, false, false⟩ [c0, c1, c, false, false, false, false, false, false, false, false, false, false, false] := by
  have hc : t = 0 ∨ t = 1 ∨ t = 2 ∨ t = 3 ∨ t = 4 := by omega
  rcases hc with rfl | rfl | rfl | rfl | rfl
  · exact ⟨false, rfl⟩
  · exact ⟨true, said_one ⟨#[109, 97, 114, 107, 45, 105, 115, 111, 108, 97, 116, 101, 100]⟩ 2 1 rest _ _ find8 rfl⟩
  · exact ⟨true, said_one ⟨#[109, 97, 114, 107, 45, 109, 101, 100, 105, 97, 108]⟩ 2 2 rest _ _ find9 rfl⟩
  · exact ⟨true, said_one ⟨#[109, 97, 114, 107, 45, 114, 101, 109, 111, 118, 101]⟩ 2 3 rest _ _ find10 rfl⟩
  · exact ⟨true, said_one ⟨#[109, 97, 114, 107, 45, 116, 97, 116, 119, 101, 101, 108]⟩ 2 4 rest _ _ find11 rfl⟩
theorem step_said3 (d : Int) (l : Int) (t : Int) (g : Int)  (c0 c1 c2 : Bool) (h : 0 ≤ g ∧ g ≤ 4) (rest : List ByteArray) : ∃ c, saidL (pc T3 g ++ rest) ⟨d, l, t, 0, false, false, false, false, false, false, false, false, false, false⟩ [c0, c1, c2, false, false, false, false, false, false, false, false, false, false, false] = saidL rest ⟨d, l, t, g, false, false, false, false, false, false, false, false, false, false⟩ [c0, c1, c2, c, false, false, false, false, false, false, false, false, false, false] := by
  have hc : g = 0 ∨ g = 1 ∨ g = 2 ∨ g = 3 ∨ g = 4 := by omega
  rcases hc with rfl | rfl | rfl | rfl | rfl
  · exact ⟨false, rfl⟩
  · exact ⟨true, said_one ⟨#[116, 111, 45, 97, 114, 97, 98, 105, 99]⟩ 3 1 rest _ _ find12 rfl⟩
  · exact ⟨true, said_one ⟨#[116, 111, 45, 101, 117, 114, 111, 112, 101, 97, 110]⟩ 3 2 rest _ _ find13 rfl⟩
  · exact ⟨true, said_one ⟨#[99, 111, 110, 116, 101, 120, 116, 45, 108, 116, 114]⟩ 3 3 rest _ _ find14 rfl⟩
  · exact ⟨true, said_one ⟨#[99, 111, 110, 116, 101, 120, 116, 45, 97, 114, 97, 98, 105, 99]⟩ 3 4 rest _ _ find15 rfl⟩
theorem step_said4 (d : Int) (l : Int) (t : Int) (g : Int) (b0 : Bool) (c0 c1 c2 c3 : Bool) (rest : List ByteArray) : ∃ c, saidL (pc T4 (Opt.bi b0) ++ rest) ⟨d, l, t, g, false, false, false, false, false, false, false, false, false, false⟩ [c0, c1, c2, c3, false, false, false, false, false, false, false, false, false, false] = saidL rest ⟨d, l, t, g, b0, false, false, false, false, false, false, false, false, false⟩ [c0, c1, c2, c3, c, false, false, false, false, false, false, false, false, false] := by
  cases b0 with
  | false => exact ⟨false, rfl⟩
  | true => exact ⟨true, said_one ⟨#[101, 97, 115, 116, 101, 114, 110]⟩ 4 1 rest _ _ find16 rfl⟩
theorem step_said5 (d : Int) (l : Int) (t : Int) (g : Int) (b0 : Bool) (b1 : Bool) (c0 c1 c2 c3 c4 : Bool) (rest : List ByteArray) : ∃ c, saidL (pc T5 (Opt.bi b1) ++ rest) ⟨d, l, t, g, b0, false, false, false, false, false, false, false, false, false⟩ [c0, c1, c2, c3, c4, false, false, false, false, false, false, false, false, false] = saidL rest ⟨d, l, t, g, b0, b1, false, false, false, false, false, false, false, false⟩ [c0, c1, c2, c3, c4, c, false, false, false, false, false, false, false, false] := by
  cases b1 with
  | false => exact ⟨false, rfl⟩
  | true => exact ⟨true, said_one ⟨#[108, 101, 116, 116, 101, 114, 115]⟩ 5 1 rest _ _ find17 rfl⟩
theorem step_said6 (d : Int) (l : Int) (t : Int) (g : Int) (b0 : Bool) (b1 : Bool) (b2 : Bool) (c0 c1 c2 c3 c4 c5 : Bool) (rest : List ByteArray) : ∃ c, saidL (pc T6 (Opt.bi b2) ++ rest) ⟨d, l, t, g, b0, b1, false, false, false, false, false, false, false, false⟩ [c0, c1, c2, c3, c4, c5, false, false, false, false, false, false, false, false] = saidL rest ⟨d, l, t, g, b0, b1, b2, false, false, false, false, false, false, false⟩ [c0, c1, c2, c3, c4, c5, c, false, false, false, false, false, false, false] := by
  cases b2 with
  | false => exact ⟨false, rfl⟩
  | true => exact ⟨true, said_one ⟨#[116, 104, 114, 111, 117, 103, 104]⟩ 6 1 rest _ _ find18 rfl⟩
theorem step_said7 (d : Int) (l : Int) (t : Int) (g : Int) (b0 : Bool) (b1 : Bool) (b2 : Bool) (b3 : Bool) (c0 c1 c2 c3 c4 c5 c6 : Bool) (rest : List ByteArray) : ∃ c, saidL (pc T7 (Opt.bi b3) ++ rest) ⟨d, l, t, g, b0, b1, b2, false, false, false, false, false, false, false⟩ [c0, c1, c2, c3, c4, c5, c6, false, false, false, false, false, false, false] = saidL rest ⟨d, l, t, g, b0, b1, b2, b3, false, false, false, false, false, false⟩ [c0, c1, c2, c3, c4, c5, c6, c, false, false, false, false, false, false] := by
  cases b3 with
  | false => exact ⟨false, rfl⟩
  | true => exact ⟨true, said_one ⟨#[112, 105, 108, 101]⟩ 7 1 rest _ _ find19 rfl⟩
theorem step_said8 (d : Int) (l : Int) (t : Int) (g : Int) (b0 : Bool) (b1 : Bool) (b2 : Bool) (b3 : Bool) (b4 : Bool) (c0 c1 c2 c3 c4 c5 c6 c7 : Bool) (rest : List ByteArray) : ∃ c, saidL (pc T8 (Opt.bi b4) ++ rest) ⟨d, l, t, g, b0, b1, b2, b3, false, false, false, false, false, false⟩ [c0, c1, c2, c3, c4, c5, c6, c7, false, false, false, false, false, false] = saidL rest ⟨d, l, t, g, b0, b1, b2, b3, b4, false, false, false, false, false⟩ [c0, c1, c2, c3, c4, c5, c6, c7, c, false, false, false, false, false] := by
  cases b4 with
  | false => exact ⟨false, rfl⟩
  | true => exact ⟨true, said_one ⟨#[115, 101, 101, 110]⟩ 8 1 rest _ _ find20 rfl⟩
theorem step_said9 (d : Int) (l : Int) (t : Int) (g : Int) (b0 : Bool) (b1 : Bool) (b2 : Bool) (b3 : Bool) (b4 : Bool) (b5 : Bool) (c0 c1 c2 c3 c4 c5 c6 c7 c8 : Bool) (rest : List ByteArray) : ∃ c, saidL (pc T9 (Opt.bi b5) ++ rest) ⟨d, l, t, g, b0, b1, b2, b3, b4, false, false, false, false, false⟩ [c0, c1, c2, c3, c4, c5, c6, c7, c8, false, false, false, false, false] = saidL rest ⟨d, l, t, g, b0, b1, b2, b3, b4, b5, false, false, false, false⟩ [c0, c1, c2, c3, c4, c5, c6, c7, c8, c, false, false, false, false] := by
  cases b5 with
  | false => exact ⟨false, rfl⟩
  | true => exact ⟨true, said_one ⟨#[121, 101, 104]⟩ 9 1 rest _ _ find21 rfl⟩
theorem step_said10 (d : Int) (l : Int) (t : Int) (g : Int) (b0 : Bool) (b1 : Bool) (b2 : Bool) (b3 : Bool) (b4 : Bool) (b5 : Bool) (b6 : Bool) (c0 c1 c2 c3 c4 c5 c6 c7 c8 c9 : Bool) (rest : List ByteArray) : ∃ c, saidL (pc T10 (Opt.bi b6) ++ rest) ⟨d, l, t, g, b0, b1, b2, b3, b4, b5, false, false, false, false⟩ [c0, c1, c2, c3, c4, c5, c6, c7, c8, c9, false, false, false, false] = saidL rest ⟨d, l, t, g, b0, b1, b2, b3, b4, b5, b6, false, false, false⟩ [c0, c1, c2, c3, c4, c5, c6, c7, c8, c9, c, false, false, false] := by
  cases b6 with
  | false => exact ⟨false, rfl⟩
  | true => exact ⟨true, said_one ⟨#[114, 101, 111, 114, 100, 101, 114]⟩ 10 1 rest _ _ find22 rfl⟩
theorem step_said11 (d : Int) (l : Int) (t : Int) (g : Int) (b0 : Bool) (b1 : Bool) (b2 : Bool) (b3 : Bool) (b4 : Bool) (b5 : Bool) (b6 : Bool) (b7 : Bool) (c0 c1 c2 c3 c4 c5 c6 c7 c8 c9 c10 : Bool) (rest : List ByteArray) : ∃ c, saidL (pc T11 (Opt.bi b7) ++ rest) ⟨d, l, t, g, b0, b1, b2, b3, b4, b5, b6, false, false, false⟩ [c0, c1, c2, c3, c4, c5, c6, c7, c8, c9, c10, false, false, false] = saidL rest ⟨d, l, t, g, b0, b1, b2, b3, b4, b5, b6, b7, false, false⟩ [c0, c1, c2, c3, c4, c5, c6, c7, c8, c9, c10, c, false, false] := by
  cases b7 with
  | false => exact ⟨false, rfl⟩
  | true => exact ⟨true, said_one ⟨#[109, 97, 114, 107, 115]⟩ 11 1 rest _ _ find23 rfl⟩
theorem step_said12 (d : Int) (l : Int) (t : Int) (g : Int) (b0 : Bool) (b1 : Bool) (b2 : Bool) (b3 : Bool) (b4 : Bool) (b5 : Bool) (b6 : Bool) (b7 : Bool) (b8 : Bool) (c0 c1 c2 c3 c4 c5 c6 c7 c8 c9 c10 c11 : Bool) (rest : List ByteArray) : ∃ c, saidL (pc T12 (Opt.bi b8) ++ rest) ⟨d, l, t, g, b0, b1, b2, b3, b4, b5, b6, b7, false, false⟩ [c0, c1, c2, c3, c4, c5, c6, c7, c8, c9, c10, c11, false, false] = saidL rest ⟨d, l, t, g, b0, b1, b2, b3, b4, b5, b6, b7, b8, false⟩ [c0, c1, c2, c3, c4, c5, c6, c7, c8, c9, c10, c11, c, false] := by
  cases b8 with
  | false => exact ⟨false, rfl⟩
  | true => exact ⟨true, said_one ⟨#[109, 105, 114, 114, 111, 114]⟩ 12 1 rest _ _ find24 rfl⟩
theorem step_said13 (d : Int) (l : Int) (t : Int) (g : Int) (b0 : Bool) (b1 : Bool) (b2 : Bool) (b3 : Bool) (b4 : Bool) (b5 : Bool) (b6 : Bool) (b7 : Bool) (b8 : Bool) (b9 : Bool) (c0 c1 c2 c3 c4 c5 c6 c7 c8 c9 c10 c11 c12 : Bool) (rest : List ByteArray) : ∃ c, saidL (pc T13 (Opt.bi b9) ++ rest) ⟨d, l, t, g, b0, b1, b2, b3, b4, b5, b6, b7, b8, false⟩ [c0, c1, c2, c3, c4, c5, c6, c7, c8, c9, c10, c11, c12, false] = saidL rest ⟨d, l, t, g, b0, b1, b2, b3, b4, b5, b6, b7, b8, b9⟩ [c0, c1, c2, c3, c4, c5, c6, c7, c8, c9, c10, c11, c12, c] := by
  cases b9 with
  | false => exact ⟨false, rfl⟩
  | true => exact ⟨true, said_one ⟨#[115, 116, 114, 105, 112]⟩ 13 1 rest _ _ find25 rfl⟩
theorem said_words (o : Opt) (h : o.err = 0) : saidF (wordsL o) = (o, 0) := by
  have hm := Opt.err_zero h
  unfold Opt.may at hm
  simp only [decide_eq_true_eq] at hm
  obtain ⟨d, l, t, g, b0, b1, b2, b3, b4, b5, b6, b7, b8, b9⟩ := o
  simp only at hm
  obtain ⟨d0, d1, l0, l1, t0, t1, g0, g1⟩ := hm
  rw [wordsL_cut]
  unfold saidF
  rw [show List.replicate 14 false = [false, false, false, false, false, false, false, false, false, false, false, false, false, false] from rfl, show Opt.zero = ⟨0, 0, 0, 0, false, false, false, false, false, false, false, false, false, false⟩ from rfl]
  obtain ⟨c0, e0⟩ := step_said0 d  ⟨d0, d1⟩ (pc T1 l ++ (pc T2 t ++ (pc T3 g ++ (pc T4 (Opt.bi b0) ++ (pc T5 (Opt.bi b1) ++ (pc T6 (Opt.bi b2) ++ (pc T7 (Opt.bi b3) ++ (pc T8 (Opt.bi b4) ++ (pc T9 (Opt.bi b5) ++ (pc T10 (Opt.bi b6) ++ (pc T11 (Opt.bi b7) ++ (pc T12 (Opt.bi b8) ++ (pc T13 (Opt.bi b9))))))))))))))
  rw [e0]
  obtain ⟨c1, e1⟩ := step_said1 d l c0 ⟨l0, l1⟩ (pc T2 t ++ (pc T3 g ++ (pc T4 (Opt.bi b0) ++ (pc T5 (Opt.bi b1) ++ (pc T6 (Opt.bi b2) ++ (pc T7 (Opt.bi b3) ++ (pc T8 (Opt.bi b4) ++ (pc T9 (Opt.bi b5) ++ (pc T10 (Opt.bi b6) ++ (pc T11 (Opt.bi b7) ++ (pc T12 (Opt.bi b8) ++ (pc T13 (Opt.bi b9)))))))))))))
  rw [e1]
  obtain ⟨c2, e2⟩ := step_said2 d l t c0 c1 ⟨t0, t1⟩ (pc T3 g ++ (pc T4 (Opt.bi b0) ++ (pc T5 (Opt.bi b1) ++ (pc T6 (Opt.bi b2) ++ (pc T7 (Opt.bi b3) ++ (pc T8 (Opt.bi b4) ++ (pc T9 (Opt.bi b5) ++ (pc T10 (Opt.bi b6) ++ (pc T11 (Opt.bi b7) ++ (pc T12 (Opt.bi b8) ++ (pc T13 (Opt.bi b9))))))))))))
  rw [e2]
  obtain ⟨c3, e3⟩ := step_said3 d l t g c0 c1 c2 ⟨g0, g1⟩ (pc T4 (Opt.bi b0) ++ (pc T5 (Opt.bi b1) ++ (pc T6 (Opt.bi b2) ++ (pc T7 (Opt.bi b3) ++ (pc T8 (Opt.bi b4) ++ (pc T9 (Opt.bi b5) ++ (pc T10 (Opt.bi b6) ++ (pc T11 (Opt.bi b7) ++ (pc T12 (Opt.bi b8) ++ (pc T13 (Opt.bi b9)))))))))))
  rw [e3]
  obtain ⟨c4, e4⟩ := step_said4 d l t g b0 c0 c1 c2 c3 (pc T5 (Opt.bi b1) ++ (pc T6 (Opt.bi b2) ++ (pc T7 (Opt.bi b3) ++ (pc T8 (Opt.bi b4) ++ (pc T9 (Opt.bi b5) ++ (pc T10 (Opt.bi b6) ++ (pc T11 (Opt.bi b7) ++ (pc T12 (Opt.bi b8) ++ (pc T13 (Opt.bi b9))))))))))
  rw [e4]
  obtain ⟨c5, e5⟩ := step_said5 d l t g b0 b1 c0 c1 c2 c3 c4 (pc T6 (Opt.bi b2) ++ (pc T7 (Opt.bi b3) ++ (pc T8 (Opt.bi b4) ++ (pc T9 (Opt.bi b5) ++ (pc T10 (Opt.bi b6) ++ (pc T11 (Opt.bi b7) ++ (pc T12 (Opt.bi b8) ++ (pc T13 (Opt.bi b9)))))))))
  rw [e5]
  obtain ⟨c6, e6⟩ := step_said6 d l t g b0 b1 b2 c0 c1 c2 c3 c4 c5 (pc T7 (Opt.bi b3) ++ (pc T8 (Opt.bi b4) ++ (pc T9 (Opt.bi b5) ++ (pc T10 (Opt.bi b6) ++ (pc T11 (Opt.bi b7) ++ (pc T12 (Opt.bi b8) ++ (pc T13 (Opt.bi b9))))))))
  rw [e6]
  obtain ⟨c7, e7⟩ := step_said7 d l t g b0 b1 b2 b3 c0 c1 c2 c3 c4 c5 c6 (pc T8 (Opt.bi b4) ++ (pc T9 (Opt.bi b5) ++ (pc T10 (Opt.bi b6) ++ (pc T11 (Opt.bi b7) ++ (pc T12 (Opt.bi b8) ++ (pc T13 (Opt.bi b9)))))))
  rw [e7]
  obtain ⟨c8, e8⟩ := step_said8 d l t g b0 b1 b2 b3 b4 c0 c1 c2 c3 c4 c5 c6 c7 (pc T9 (Opt.bi b5) ++ (pc T10 (Opt.bi b6) ++ (pc T11 (Opt.bi b7) ++ (pc T12 (Opt.bi b8) ++ (pc T13 (Opt.bi b9))))))
  rw [e8]
  obtain ⟨c9, e9⟩ := step_said9 d l t g b0 b1 b2 b3 b4 b5 c0 c1 c2 c3 c4 c5 c6 c7 c8 (pc T10 (Opt.bi b6) ++ (pc T11 (Opt.bi b7) ++ (pc T12 (Opt.bi b8) ++ (pc T13 (Opt.bi b9)))))
  rw [e9]
  obtain ⟨c10, e10⟩ := step_said10 d l t g b0 b1 b2 b3 b4 b5 b6 c0 c1 c2 c3 c4 c5 c6 c7 c8 c9 (pc T11 (Opt.bi b7) ++ (pc T12 (Opt.bi b8) ++ (pc T13 (Opt.bi b9))))
  rw [e10]
  obtain ⟨c11, e11⟩ := step_said11 d l t g b0 b1 b2 b3 b4 b5 b6 b7 c0 c1 c2 c3 c4 c5 c6 c7 c8 c9 c10 (pc T12 (Opt.bi b8) ++ (pc T13 (Opt.bi b9)))
  rw [e11]
  obtain ⟨c12, e12⟩ := step_said12 d l t g b0 b1 b2 b3 b4 b5 b6 b7 b8 c0 c1 c2 c3 c4 c5 c6 c7 c8 c9 c10 c11 (pc T13 (Opt.bi b9))
  rw [e12]
  obtain ⟨c13, e13⟩ := step_said13 d l t g b0 b1 b2 b3 b4 b5 b6 b7 b8 b9 c0 c1 c2 c3 c4 c5 c6 c7 c8 c9 c10 c11 c12 []
  rw [List.append_nil] at e13
  rw [e13]
  rfl
def wordOk (w : ByteArray) : Bool := w.data.toList.all (fun b => !(b.toNat == 32)) && !w.data.toList.isEmpty && decide (w.data.toList.length ≤ 14)
theorem terms_word : (termsL.all fun t => wordOk t.1) = true := by decide +kernel
theorem wordsL_ok (o : Opt) : ∀ w ∈ wordsL o, wordOk w = true := fun w hw => by
  unfold wordsL at hw
  rw [List.mem_filterMap] at hw
  obtain ⟨t, ht, he⟩ := hw
  have := List.all_eq_true.1 terms_word t ht
  split at he
  · injection he with he
    rw [← he]
    exact this
  · cases he
theorem wordOk_of {w : ByteArray} (h : wordOk w = true) : (∀ b ∈ w.data.toList, b.toNat ≠ 32) ∧ w.data.toList ≠ [] ∧ w.data.toList.length ≤ 14 := by
  unfold wordOk at h
  simp only [Bool.and_eq_true, decide_eq_true_eq, List.all_eq_true] at h
  obtain ⟨⟨h1, h2⟩, h3⟩ := h
  refine ⟨fun b hb => ?_, fun e => ?_, h3⟩
  · have := h1 b hb
    simpa using this
  · rw [e] at h2
    cases h2
theorem split_join : ∀ L : List ByteArray, (∀ w ∈ L, wordOk w = true) → splitL [] (joinB L) = L
  | [], _ => rfl
  | [w], h => by
    obtain ⟨h1, h2, _⟩ := wordOk_of (h w (by simp))
    have := splitL_word w.data.toList [] [] h1
    rw [List.append_nil, List.nil_append] at this
    show splitL [] w.data.toList = _
    rw [this, splitL, if_neg h2]
  | w :: v :: L, h => by
    obtain ⟨h1, h2, _⟩ := wordOk_of (h w (by simp))
    show splitL [] (w.data.toList ++ 32 :: joinB (v :: L)) = _
    rw [splitL_word w.data.toList [] _ h1, List.nil_append, splitL_blank _ _ _ (by decide) h2, split_join (v :: L) (fun x hx => h x (by simp [hx]))]
theorem join_len : ∀ L : List ByteArray, (∀ w ∈ L, wordOk w = true) → (joinB L).length ≤ 15 * L.length
  | [], _ => Nat.le_refl _
  | [w], h => by
    have := (wordOk_of (h w (by simp))).2.2
    show w.data.toList.length ≤ 15
    omega
  | w :: v :: L, h => by
    have h1 := (wordOk_of (h w (by simp))).2.2
    have h2 := join_len (v :: L) (fun x hx => h x (by simp [hx]))
    show (w.data.toList ++ 32 :: joinB (v :: L)).length ≤ _
    rw [List.length_append, List.length_cons]
    simp only [List.length_cons] at h2 ⊢
    omega
theorem wordsL_few (o : Opt) : (wordsL o).length ≤ 26 := by
  have := List.length_filterMap_le (fun t => if o.fields.getD t.2.1 0 = t.2.2 then some t.1 else none) termsL
  rw [terms_len] at this
  exact this
theorem parse_print (o : Opt) (h : o.err = 0) : parseF (printF o).1 = (o, 0) := by
  unfold printF
  rw [if_pos h]
  simp only
  have hs : (⟨(joinB (wordsL o)).toArray⟩ : ByteArray).size ≤ 1000 := by
    show (joinB (wordsL o)).toArray.size ≤ 1000
    rw [List.size_toArray]
    have := join_len (wordsL o) (wordsL_ok o)
    have := wordsL_few o
    omega
  have hw : wordsF ⟨(joinB (wordsL o)).toArray⟩ = wordsL o := by
    rw [words_split]
    exact split_join _ (wordsL_ok o)
  unfold parseF
  rw [hw, said_words o h, if_neg (by omega), if_pos rfl]
  simp only
  rw [if_pos h]
end Go.Proofs.YtcdogkabdhbjmaaDoor
/- Options as words: strings.Join at a blank; the words so far. -/
namespace Go.Proofs.YtcdogkabdhbjmaaDoor
open Go.RowKit Go.Shelf

theorem jn_extra : Builder.Extra Tryd.prog jn_lays_ren where
  sizeBuilder := by kernel_rfl
  liesBuilder := by kernel_rfl
  t5 := Tryd.underlying5
  a5 := Tryd.isAgg5
  z5 := Tryd.sizeOf5
  v5 := Tryd.zeroValue5
  infoByte := by kernel_rfl
  cellsByte := by kernel_rfl
  sizeByte := by kernel_rfl
  neB5 := by decide
theorem tail_same : ∀ L : List ByteArray, Lib.joinTail [32] (L.map (·.data.toList)) = if L = [] then [] else 32 :: joinB L
  | [] => rfl
  | [w] => by simp [Lib.joinTail, joinB]
  | w :: y :: l => by
    have ih := tail_same (y :: l)
    rw [if_neg (by simp)] at ih
    have e1 : joinB (w :: y :: l) = w.data.toList ++ 32 :: joinB (y :: l) := rfl
    rw [if_neg (by simp), e1]
    show ([32] ++ w.data.toList) ++ Lib.joinTail [32] ((y :: l).map (·.data.toList)) = _
    rw [ih]
    simp
theorem join_same (L : List ByteArray) : Lib.join (L.map (·.data.toList)) [32] = joinB L := by
  cases L with
  | nil => rfl
  | cons w l =>
    rw [List.map_cons, Lib.join_cons, tail_same]
    cases l with
    | nil => simp [joinB]
    | cons y l =>
      have e1 : joinB (w :: y :: l) = w.data.toList ++ 32 :: joinB (y :: l) := rfl
      rw [if_neg (by simp), e1]
/-- The words so far. -/
def wordsTo (o : Opt) (k : Nat) : List ByteArray := (termsL.take k).filterMap fun t => if o.fields.getD t.2.1 0 = t.2.2 then some t.1 else none
theorem wordsTo_all (o : Opt) : wordsTo o 26 = wordsL o := by
  unfold wordsTo wordsL
  rw [List.take_of_length_le (by rw [terms_len]; exact Nat.le_refl _)]
theorem wordsTo_next {o : Opt} {k : Nat} {t : ByteArray × Nat × Int} (h : termsL[k]? = some t) : wordsTo o (k + 1) = wordsTo o k ++ (if o.fields.getD t.2.1 0 = t.2.2 then [t.1] else []) := by
  unfold wordsTo
  rw [List.take_add_one, h]
  rw [List.filterMap_append]
  congr 1
  show List.filterMap _ [t] = _
  rw [List.filterMap_cons, List.filterMap_nil]
  by_cases hc : o.fields.getD t.2.1 0 = t.2.2
  · rw [if_pos hc, if_pos hc]
  · rw [if_neg hc, if_neg hc]
theorem wordsTo_len (o : Opt) (k : Nat) : (wordsTo o k).length ≤ k :=
  Nat.le_trans (List.length_filterMap_le _ _) (List.length_take_le _ _)
theorem printed_len (o : Opt) : (joinB (wordsL o)).length ≤ 390 := by
  have h1 := join_len (wordsL o) (wordsL_ok o)
  have h2 := wordsL_few o
  omega
theorem joined_any (o : Opt) (A : Option Addr) (c : Nat) (w : World) {B : Nat} (hown : w.ownsRow B 9 1 (.slice A (wordsL o).length c) (wordsL o).length ((wordsL o).map Value.string)) :
    Calls Tryd.prog 41 #[.slice A (wordsL o).length c, .string ⟨#[32]⟩] w fun e w' => e = .returned (.string ⟨(joinB (wordsL o)).toArray⟩) ∧ Below w.heap.size w w' := by
  rcases Nat.eq_zero_or_pos (wordsL o).length with h0 | h0
  · have hn := List.eq_nil_of_length_eq_zero h0
    rw [hn]
    exact (Any.strings_Join_none jn_lays jn_extra A c ⟨#[32]⟩ w).mono fun e w' ⟨he, hw⟩ => ⟨he, hw ▸ Below.refl _ _⟩
  · obtain ⟨g, c', hv, hnc, hg, _, hc⟩ := own_at hown h0
    injection hv with h1 _ h3
    subst h1 h3
    have hj := Any.strings_Join jn_lays jn_extra g 0 c (wordsL o) ⟨#[32]⟩ w (fun j x hx => by
      rw [Nat.zero_add]
      exact hc j _ (by rw [List.getElem?_map, hx]; rfl)) hg (by have := wordsL_few o; omega) hnc (by
      show (Lib.join _ [32]).length ≤ _
      rw [join_same]
      have := printed_len o
      omega)
    rw [show Lib.join ((wordsL o).map (·.data.toList)) (⟨#[32]⟩ : ByteArray).data.toList = joinB (wordsL o) from join_same _] at hj
    exact hj
end Go.Proofs.YtcdogkabdhbjmaaDoor
/- Options as words: the project's Print. -/
namespace Go.Proofs.YtcdogkabdhbjmaaDoor
open Go.RowKit

set_option maxRecDepth 100000 in
set_option maxHeartbeats 4000000 in
theorem swPrint_any (d l t g : Int) (b0 b1 b2 b3 b4 b5 b6 b7 b8 b9 : Bool) (S : ByteArray) (E : Int) (hR : printF ⟨d, l, t, g, b0, b1, b2, b3, b4, b5, b6, b7, b8, b9⟩ = (S, E)) (w : World) (hT : TermsAt w) (hK : KindsAt w) :
    Calls Tryd.prog 20 #[.agg #[.int .i64 d, .int .i64 l, .int .i64 t, .int .i64 g, .bool b0, .bool b1, .bool b2, .bool b3, .bool b4, .bool b5, .bool b6, .bool b7, .bool b8, .bool b9]] w fun e w' => e = .returned (.tuple #[.string S, .int .i64 E]) ∧ Below w.heap.size w w' := by
  obtain ⟨X, hX⟩ : ∃ X, Opt.err ⟨d, l, t, g, b0, b1, b2, b3, b4, b5, b6, b7, b8, b9⟩ = X := ⟨_, rfl⟩
  have HE := Lib.hid hX
  have HR := Lib.hid (show (S, E) = if X = 0 then (⟨(joinB (wordsL ⟨d, l, t, g, b0, b1, b2, b3, b4, b5, b6, b7, b8, b9⟩)).toArray⟩, 0) else (⟨#[]⟩, X) by rw [← hR, ← hX]; rfl)
  obtain ⟨W1, hW1⟩ : ∃ W1, w.alloc (.cells #[.int .i64 d, .int .i64 l, .int .i64 t, .int .i64 g, .bool b0, .bool b1, .bool b2, .bool b3, .bool b4, .bool b5, .bool b6, .bool b7, .bool b8, .bool b9] 23) = W1 := ⟨_, rfl⟩
  have hO1 : OptAt W1 w.heap.size ⟨d, l, t, g, b0, b1, b2, b3, b4, b5, b6, b7, b8, b9⟩ := by rw [← hW1]; exact OptAt.new_ w ⟨d, l, t, g, b0, b1, b2, b3, b4, b5, b6, b7, b8, b9⟩ 23
  have hb1 : Below w.heap.size w W1 := by rw [← hW1]; exact below_new _ _
  have HT1 := Lib.hid (hT.below hb1)
  have HK1 := Lib.hid (hK.below hb1)
  have HO1 := Lib.hid hO1
  have HB1 := Lib.hid hb1
  have c0 : W1.cell? ⟨w.heap.size, 0, none⟩ = some (.int .i64 d) := hO1.1 0 _ rfl
  have c1 : W1.cell? ⟨w.heap.size, 1, none⟩ = some (.int .i64 l) := hO1.1 1 _ rfl
  have c2 : W1.cell? ⟨w.heap.size, 2, none⟩ = some (.int .i64 t) := hO1.1 2 _ rfl
  have c3 : W1.cell? ⟨w.heap.size, 3, none⟩ = some (.int .i64 g) := hO1.1 3 _ rfl
  have c4 : W1.cell? ⟨w.heap.size, 4, none⟩ = some (.bool b0) := hO1.1 4 _ rfl
  have c5 : W1.cell? ⟨w.heap.size, 5, none⟩ = some (.bool b1) := hO1.1 5 _ rfl
  have c6 : W1.cell? ⟨w.heap.size, 6, none⟩ = some (.bool b2) := hO1.1 6 _ rfl
  have c7 : W1.cell? ⟨w.heap.size, 7, none⟩ = some (.bool b3) := hO1.1 7 _ rfl
  have c8 : W1.cell? ⟨w.heap.size, 8, none⟩ = some (.bool b4) := hO1.1 8 _ rfl
  have c9 : W1.cell? ⟨w.heap.size, 9, none⟩ = some (.bool b5) := hO1.1 9 _ rfl
  have c10 : W1.cell? ⟨w.heap.size, 10, none⟩ = some (.bool b6) := hO1.1 10 _ rfl
  have c11 : W1.cell? ⟨w.heap.size, 11, none⟩ = some (.bool b7) := hO1.1 11 _ rfl
  have c12 : W1.cell? ⟨w.heap.size, 12, none⟩ = some (.bool b8) := hO1.1 12 _ rfl
  have c13 : W1.cell? ⟨w.heap.size, 13, none⟩ = some (.bool b9) := hO1.1 13 _ rfl
  clear hR hX hT hK hO1 hb1
  go_enter Tryd.func20, Tryd.ntmps20
  go_wp2_with fail
  refine (opCheck_any d l t g b0 b1 b2 b3 b4 b5 b6 b7 b8 b9 X HE.out _ HK1.out).mono ?_
  rintro e w2 ⟨rfl, hb2⟩
  have hO2 := HO1.out.below hb2
  have HT2 := Lib.hid (HT1.out.below hb2)
  have HB2 := Lib.hid (below_self HB1.out hb2)
  clear hb2 HK1 HT1 HB1 HO1 c0 c1 c2 c3 c4 c5 c6 c7 c8 c9 c10 c11 c12 c13 hW1
  by_cases hX0 : X = 0
  · subst hX0
    have HY := Lib.hid (show S = ⟨(joinB (wordsL ⟨d, l, t, g, b0, b1, b2, b3, b4, b5, b6, b7, b8, b9⟩)).toArray⟩ ∧ E = 0 by
      have := HR.out
      rw [if_pos rfl] at this
      injection this with e1 e2
      exact ⟨e1, e2⟩)
    have c0 : w2.cell? ⟨w.heap.size, 0, none⟩ = some (.int .i64 d) := hO2.1 0 _ rfl
    have c1 : w2.cell? ⟨w.heap.size, 1, none⟩ = some (.int .i64 l) := hO2.1 1 _ rfl
    have c2 : w2.cell? ⟨w.heap.size, 2, none⟩ = some (.int .i64 t) := hO2.1 2 _ rfl
    have c3 : w2.cell? ⟨w.heap.size, 3, none⟩ = some (.int .i64 g) := hO2.1 3 _ rfl
    have c4 : w2.cell? ⟨w.heap.size, 4, none⟩ = some (.bool b0) := hO2.1 4 _ rfl
    have c5 : w2.cell? ⟨w.heap.size, 5, none⟩ = some (.bool b1) := hO2.1 5 _ rfl
    have c6 : w2.cell? ⟨w.heap.size, 6, none⟩ = some (.bool b2) := hO2.1 6 _ rfl
    have c7 : w2.cell? ⟨w.heap.size, 7, none⟩ = some (.bool b3) := hO2.1 7 _ rfl
    have c8 : w2.cell? ⟨w.heap.size, 8, none⟩ = some (.bool b4) := hO2.1 8 _ rfl
    have c9 : w2.cell? ⟨w.heap.size, 9, none⟩ = some (.bool b5) := hO2.1 9 _ rfl
    have c10 : w2.cell? ⟨w.heap.size, 10, none⟩ = some (.bool b6) := hO2.1 10 _ rfl
    have c11 : w2.cell? ⟨w.heap.size, 11, none⟩ = some (.bool b7) := hO2.1 11 _ rfl
    have c12 : w2.cell? ⟨w.heap.size, 12, none⟩ = some (.bool b8) := hO2.1 12 _ rfl
    have c13 : w2.cell? ⟨w.heap.size, 13, none⟩ = some (.bool b9) := hO2.1 13 _ rfl
    clear hO2
    go_wp2_with fail
    refine (swFields_any d l t g b0 b1 b2 b3 b4 b5 b6 b7 b8 b9 _).mono ?_
    rintro e w3 ⟨rfl, hb3⟩
    have HT3 := Lib.hid (HT2.out.below hb3)
    have HB3 := Lib.hid (below_self HB2.out hb3)
    clear hb3 HT2 HB2 c0 c1 c2 c3 c4 c5 c6 c7 c8 c9 c10 c11 c12 c13
    simp only [Opt.fields, List.map_cons, List.map_nil]
    obtain ⟨W4, hW4⟩ : ∃ W4, w3.alloc (.cells #[.int .i64 d, .int .i64 l, .int .i64 t, .int .i64 g, .int .i64 (Opt.bi b0), .int .i64 (Opt.bi b1), .int .i64 (Opt.bi b2), .int .i64 (Opt.bi b3), .int .i64 (Opt.bi b4), .int .i64 (Opt.bi b5), .int .i64 (Opt.bi b6), .int .i64 (Opt.bi b7), .int .i64 (Opt.bi b8), .int .i64 (Opt.bi b9)] 62) = W4 := ⟨_, rfl⟩
    have hF4 : CellsAt W4 w3.heap.size [.int .i64 d, .int .i64 l, .int .i64 t, .int .i64 g, .int .i64 (Opt.bi b0), .int .i64 (Opt.bi b1), .int .i64 (Opt.bi b2), .int .i64 (Opt.bi b3), .int .i64 (Opt.bi b4), .int .i64 (Opt.bi b5), .int .i64 (Opt.bi b6), .int .i64 (Opt.bi b7), .int .i64 (Opt.bi b8), .int .i64 (Opt.bi b9)] := by rw [← hW4]; exact CellsAt.new_ w3 _ _
    have hb4 : Below w3.heap.size w3 W4 := by rw [← hW4]; exact below_new _ _
    have hl4 : w3.heap.size < W4.heap.size := by rw [← hW4]; simp
    have hls : w.heap.size ≤ w3.heap.size := HB3.out.size
    have HLT := Lib.hid (loadTerms (HT3.out.below hb4))
    have HF4 := Lib.hid hF4
    have HB4 := Lib.hid (below_self HB3.out hb4)
    clear hF4 hb4 HT3 HB3
    go_wp2_with ((with_reducible refine wpList_loadV rfl 66 _ rfl ⟨0, 0, none⟩ (.agg termsA) ?_ HLT.out ?_); rfl)
    clear hW4
    generalize hfb : w3.heap.size = fb at *
    have HFB := Lib.hid (show fb < W4.heap.size ∧ w.heap.size ≤ fb from ⟨hl4, hls⟩)
    obtain ⟨o, ho⟩ : ∃ o : Opt, ⟨d, l, t, g, b0, b1, b2, b3, b4, b5, b6, b7, b8, b9⟩ = o := ⟨_, rfl⟩
    have HFO := Lib.hid (show ([.int .i64 d, .int .i64 l, .int .i64 t, .int .i64 g, .int .i64 (Opt.bi b0), .int .i64 (Opt.bi b1), .int .i64 (Opt.bi b2), .int .i64 (Opt.bi b3), .int .i64 (Opt.bi b4), .int .i64 (Opt.bi b5), .int .i64 (Opt.bi b6), .int .i64 (Opt.bi b7), .int .i64 (Opt.bi b8), .int .i64 (Opt.bi b9)] : List Value) = o.fields.map (Value.int .i64) by rw [← ho]; rfl)
    rw [ho] at HY
    rw [HFO.out] at HF4
    clear hfb ho hl4 hls HR HE
    go_loopw [6, 17] (fun v i wr => ∃ (k : Nat), k ≤ 26 ∧ i = .int .i64 k ∧ wr.ownsRow (fb + 1) 9 1 v (wordsTo o k).length ((wordsTo o k).map Value.string) ∧ CellsAt wr fb (o.fields.map (Value.int .i64)) ∧ Below w.heap.size w wr) (fun _ i _ => 26 - (intOf i).toNat)
    case atStart => exact ⟨0, Nat.zero_le _, rfl, World.ownsRow_nil _ _ _ _, HF4.out, HB4.out⟩
    case round =>
      obtain ⟨k, hk, rfl, hown, hF, hb⟩ := hrel
      obtain ⟨A, c, rfl, hnc⟩ := own_form hown
      have hwl := wordsTo_len o k
      by_cases hlt : k < 26
      · obtain ⟨⟨wd, f, m⟩, ht⟩ : ∃ t, termsL[k]? = some t := ⟨_, List.getElem?_eq_getElem (by rw [terms_len]; exact hlt)⟩
        obtain ⟨hf, _⟩ := terms_ok _ (List.mem_of_getElem? ht)
        simp only at hf
        have hidx : ∀ w, (Instr.index 66 (.agg termsA) (.int .i64 (k : Int))).run Tryd.prog w = .ok (.agg #[.string wd, .int .i64 (f : Int), .int .i64 m]) w := fun w => idxTerms ht w
        obtain ⟨z, hz⟩ : ∃ z, o.fields[f]? = some z := ⟨_, List.getElem?_eq_getElem hf⟩
        have HN := Lib.hid (show wordsTo o (k + 1) = wordsTo o k ++ (if z = m then [wd] else []) by
          rw [wordsTo_next ht]
          simp only
          rw [List.getD_eq_getElem?_getD, hz]
          rfl)
        have hlf : fb < wr.heap.size := cell_lt (hF.1 f _ (by rw [List.getElem?_map, hz]; rfl))
        obtain ⟨W5, hW5⟩ : ∃ W5, wr.alloc (.cells #[.string wd, .int .i64 (f : Int), .int .i64 m] 65) = W5 := ⟨_, rfl⟩
        have hC5 : CellsAt W5 wr.heap.size [.string wd, .int .i64 (f : Int), .int .i64 m] := by rw [← hW5]; exact CellsAt.new_ wr _ _
        have hb5 : Below wr.heap.size wr W5 := by rw [← hW5]; exact below_new _ _
        have t0 : W5.cell? ⟨wr.heap.size, 0, none⟩ = some (.string wd) := hC5.1 0 _ rfl
        have t1 : W5.cell? ⟨wr.heap.size, 1, none⟩ = some (.int .i64 (f : Int)) := hC5.1 1 _ rfl
        have t2 : W5.cell? ⟨wr.heap.size, 2, none⟩ = some (.int .i64 m) := hC5.1 2 _ rfl
        have hF5 := hF.below hb5 hlf
        have cz : W5.cell? ⟨fb, f, none⟩ = some (.int .i64 z) := hF5.1 f _ (by rw [List.getElem?_map, hz]; rfl)
        have HO5 := Lib.hid (own_below hown hb5)
        have HF5 := Lib.hid hF5
        have hB5 := hb.trans (hb5.mono hb.size)
        have HB5 := Lib.hid hB5
        have hf0 : (f : Int) < 14 := by omega
        clear ht hz hC5 hb5 hF5 hown hF hb hB5
        by_cases hzm : z = m
        · subst hzm
          have HM := Lib.hid (show wordsTo o (k + 1) = wordsTo o k ++ [wd] by rw [HN.out, if_pos rfl])
          clear HN
          go_wp2
          go_quiet (fail)
          have HO6 := Lib.hid (show (W5.drewN nq).ownsRow (fb + 1) 9 1 (.slice A (wordsTo o k).length c) (wordsTo o k).length ((wordsTo o k).map Value.string) from HO5.out)
          have HF6 := Lib.hid (show CellsAt (W5.drewN nq) fb (o.fields.map (Value.int .i64)) from HF5.out)
          have HB6 := Lib.hid (below_drewN HB5.out nq)
          have t0' : (W5.drewN nq).cell? ⟨wr.heap.size, 0, none⟩ = some (.string wd) := t0
          clear t0 t1 t2 cz HO5 HF5 HB5 hW5
          generalize W5.drewN nq = W6 at *
          have hs6 := HB6.out.size
          have hf6 : fb < W6.heap.size := cell_lt (HF6.out.1 0 _ rfl)
          go_wp2_with (at_builtin; refine wpList_app rfl _ _ _ rfl strSlice (by decide) _ (wordsTo o k).length _ rfl (HO6.out.alloc _) ⟨W6.heap.size, 0, none⟩ 1 1 [.string wd] rfl rfl (cells_new W6 [_] _) (oneStr _) (by omega) (by unfold maxLen; omega) (by simp; omega) ?_; intro v1 w1 hown1 hg1 hat1)
          have hbX : Below (fb + 1) W6 w1 := below_app ((Below.refl (fb + 1) W6).alloc (by omega) _) hg1 (HO6.out.alloc _) (by simp; omega)
          have HW := Lib.hid (show w1.ownsRow (fb + 1) 9 1 v1 (wordsTo o (k + 1)).length ((wordsTo o (k + 1)).map Value.string) by
            rw [HM.out]
            simpa using hown1)
          have HX := Lib.hid (show CellsAt w1 fb (o.fields.map (Value.int .i64)) from ⟨fun j v hv => (cell_upto hbX (by show fb < fb + 1; omega)).trans (HF6.out.1 j v hv), fun j => (hbX.frozen (by show fb < fb + 1; omega)).trans (HF6.out.2 j)⟩)
          have HB7 := Lib.hid (HB6.out.trans (hbX.mono (by have := HFB.out.2; omega)))
          clear hown1 hg1 hat1 hbX
          go_wp2
          go_roundw
          case rel => exact ⟨k + 1, by omega, by go_num, HW.out, HX.out, HB7.out⟩
          case measure => simp [intOf]; omega
        · have HM := Lib.hid (show wordsTo o (k + 1) = wordsTo o k by rw [HN.out, if_neg hzm, List.append_nil])
          have g1 : (z == m) = false := by simp [hzm]
          clear HN hzm
          go_wp2
          go_quiet (fail)
          have HO6 := Lib.hid (show (W5.drewN nq).ownsRow (fb + 1) 9 1 (.slice A (wordsTo o k).length c) (wordsTo o k).length ((wordsTo o k).map Value.string) from HO5.out)
          have HF6 := Lib.hid (show CellsAt (W5.drewN nq) fb (o.fields.map (Value.int .i64)) from HF5.out)
          have HB6 := Lib.hid (below_drewN HB5.out nq)
          clear t0 t1 t2 cz HO5 HF5 HB5 hW5
          generalize W5.drewN nq = W6 at *
          go_wp2
          go_roundw
          case rel => exact ⟨k + 1, by omega, by go_num, by rw [HM.out]; exact HO6.out, HF6.out, HB6.out⟩
          case measure => simp [intOf]; omega
      · obtain rfl : k = 26 := by omega
        rw [wordsTo_all] at hown
        have HJ := Lib.hid (joined_any o A c wr hown)
        have HB := Lib.hid hb
        rw [wordsTo_all]
        clear hown hF hb
        go_wp2_with fail
        refine HJ.out.mono ?_
        rintro e w9 ⟨rfl, hb9⟩
        have HB9 := Lib.hid (below_self HB.out hb9)
        clear hb9
        go_wp2_with fail
        go_ret2
        exact ⟨by rw [HY.out.1, HY.out.2]; rfl, HB9.out⟩
  · have HY := Lib.hid (show S = ⟨#[]⟩ ∧ E = X by
      have := HR.out
      rw [if_neg hX0] at this
      injection this with e1 e2
      exact ⟨e1, e2⟩)
    have g1 : (X != 0) = true := by simp [hX0]
    clear hX0 hO2
    go_wp2_with fail
    go_ret2
    exact ⟨by rw [HY.out.1, HY.out.2]; rfl, HB2.out⟩
end Go.Proofs.YtcdogkabdhbjmaaDoor
/- Options: the kinds of a number. -/
namespace Go.Proofs.YtcdogkabdhbjmaaDoor
open Go.RowKit

def leftAt (m : Nat) : Nat → Nat
  | 0 => m
  | 1 => m / 4
  | 2 => m / 20
  | 3 => m / 100
  | _ => m / 500
def NumAt (w : World) (m k : Nat) (wr : World) : Prop := FourAt wr w.heap.size (if 0 < k then ((m % 4 : Nat) : Int) else 0) (if 1 < k then ((m / 4 % 5 : Nat) : Int) else 0) (if 2 < k then ((m / 20 % 5 : Nat) : Int) else 0) (if 3 < k then ((m / 100 % 5 : Nat) : Int) else 0) ∧ Below w.heap.size w wr
set_option maxRecDepth 100000 in
set_option maxHeartbeats 4000000 in
theorem opNumbered_any (m : Nat) (hm : m < 1000000) (q0 q1 q2 q3 : Int) (hq : ((m % 4 : Nat) : Int) = q0 ∧ ((m / 4 % 5 : Nat) : Int) = q1 ∧ ((m / 20 % 5 : Nat) : Int) = q2 ∧ ((m / 100 % 5 : Nat) : Int) = q3) (w : World) (hK : KindsAt w) :
    Calls Tryd.prog 36 #[.int .i64 m] w fun e w' => e = .returned (.agg #[.int .i64 q0, .int .i64 q1, .int .i64 q2, .int .i64 q3]) ∧ Below w.heap.size w w' := by
  have hb0 := below_new w (.cells #[.int .i64 0, .int .i64 0, .int .i64 0, .int .i64 0] 47)
  obtain ⟨z0, z1, z2, z3⟩ := hK.below hb0
  have HN0 := Lib.hid (show NumAt w m 0 _ from ⟨FourAt.new_ w 0 0 0 0 47, hb0⟩)
  have HQ := Lib.hid hq
  clear hb0 hK hq
  have i0 : ∀ w, (Instr.index 46 (.agg #[.int .i64 4, .int .i64 5, .int .i64 5, .int .i64 5]) (.int .i64 0)).run Tryd.prog w = .ok (.int .i64 4) w := fun _ => by kernel_rfl
  have i1 : ∀ w, (Instr.index 46 (.agg #[.int .i64 4, .int .i64 5, .int .i64 5, .int .i64 5]) (.int .i64 1)).run Tryd.prog w = .ok (.int .i64 5) w := fun _ => by kernel_rfl
  have i2 : ∀ w, (Instr.index 46 (.agg #[.int .i64 4, .int .i64 5, .int .i64 5, .int .i64 5]) (.int .i64 2)).run Tryd.prog w = .ok (.int .i64 5) w := fun _ => by kernel_rfl
  have i3 : ∀ w, (Instr.index 46 (.agg #[.int .i64 4, .int .i64 5, .int .i64 5, .int .i64 5]) (.int .i64 3)).run Tryd.prog w = .ok (.int .i64 5) w := fun _ => by kernel_rfl
  go_enter Tryd.func36, Tryd.ntmps36
  go_wp2
  clear z0 z1 z2 z3
  go_loopw [0, 6] (fun n i wr => ∃ k N : Nat, k ≤ 4 ∧ i = .int .i64 k ∧ n = .int .i64 N ∧ N = leftAt m k ∧ NumAt w m k wr) (fun _ i _ => 4 - (intOf i).toNat)
  case atStart => exact ⟨0, m, Nat.zero_le _, rfl, rfl, rfl, HN0.out⟩
  case round =>
    clear HN0
    obtain ⟨k, N, hk, rfl, rfl, hN, hst⟩ := hrel
    have hcase : k = 0 ∨ k = 1 ∨ k = 2 ∨ k = 3 ∨ k = 4 := by omega
    clear hk
    rcases hcase with rfl | rfl | rfl | rfl | rfl
    · have hF : FourAt wr w.heap.size 0 0 0 0 := hst.1
      have HX := Lib.hid (show NumAt w m 1 (wr.setCell ⟨w.heap.size, 0, none⟩ (.int .i64 ((m % 4 : Nat) : Int))) from ⟨hF.set0 _, below_setK hst.2 (Nat.le_refl _) _ _⟩)
      obtain ⟨⟨d0, d1, d2, d3⟩, hf⟩ := hF
      have hf0 := hf 0
      have hlt := cell_lt d0
      have hbd : N < 1000000 := by rw [hN]; exact hm
      have HN := Lib.hid hN
      clear hN hf hst
      go_wp2
      go_roundw
      case rel => exact ⟨1, N / 4, by omega, by go_num, by go_num, by rw [HN.out]; rfl, by have e := HX.out; rw [← show N = m from HN.out] at e ⊢; exact e⟩
      case measure => simp [intOf]
    · have hF : FourAt wr w.heap.size ((m % 4 : Nat) : Int) 0 0 0 := hst.1
      have HX := Lib.hid (show NumAt w m 2 (wr.setCell ⟨w.heap.size, 1, none⟩ (.int .i64 ((m / 4 % 5 : Nat) : Int))) from ⟨hF.set1 _, below_setK hst.2 (Nat.le_refl _) _ _⟩)
      obtain ⟨⟨d0, d1, d2, d3⟩, hf⟩ := hF
      have hf0 := hf 1
      have hlt := cell_lt d0
      have hN2 : N = m / 4 := hN
      have hbd : N < 1000000 := by rw [hN2]; omega
      have HN := Lib.hid hN2
      clear hN hN2 hf hst
      go_wp2
      go_roundw
      case rel => exact ⟨2, N / 5, by omega, by go_num, by go_num, by rw [HN.out]; show _ = m / 20; omega, by have e := HX.out; rw [← show N = m / 4 from HN.out] at e; exact e⟩
      case measure => simp [intOf]
    · have hF : FourAt wr w.heap.size ((m % 4 : Nat) : Int) ((m / 4 % 5 : Nat) : Int) 0 0 := hst.1
      have HX := Lib.hid (show NumAt w m 3 (wr.setCell ⟨w.heap.size, 2, none⟩ (.int .i64 ((m / 20 % 5 : Nat) : Int))) from ⟨hF.set2 _, below_setK hst.2 (Nat.le_refl _) _ _⟩)
      obtain ⟨⟨d0, d1, d2, d3⟩, hf⟩ := hF
      have hf0 := hf 2
      have hlt := cell_lt d0
      have hN2 : N = m / 20 := hN
      have hbd : N < 1000000 := by rw [hN2]; omega
      have HN := Lib.hid hN2
      clear hN hN2 hf hst
      go_wp2
      go_roundw
      case rel => exact ⟨3, N / 5, by omega, by go_num, by go_num, by rw [HN.out]; show _ = m / 100; omega, by have e := HX.out; rw [← show N = m / 20 from HN.out] at e; exact e⟩
      case measure => simp [intOf]
    · have hF : FourAt wr w.heap.size ((m % 4 : Nat) : Int) ((m / 4 % 5 : Nat) : Int) ((m / 20 % 5 : Nat) : Int) 0 := hst.1
      have HX := Lib.hid (show NumAt w m 4 (wr.setCell ⟨w.heap.size, 3, none⟩ (.int .i64 ((m / 100 % 5 : Nat) : Int))) from ⟨hF.set3 _, below_setK hst.2 (Nat.le_refl _) _ _⟩)
      obtain ⟨⟨d0, d1, d2, d3⟩, hf⟩ := hF
      have hf0 := hf 3
      have hlt := cell_lt d0
      have hN2 : N = m / 100 := hN
      have hbd : N < 1000000 := by rw [hN2]; omega
      have HN := Lib.hid hN2
      clear hN hN2 hf hst
      go_wp2
      go_roundw
      case rel => exact ⟨4, N / 5, by omega, by go_num, by go_num, by rw [HN.out]; show _ = m / 500; omega, by have e := HX.out; rw [← show N = m / 100 from HN.out] at e; exact e⟩
      case measure => simp [intOf]
    · have hF : FourAt wr w.heap.size ((m % 4 : Nat) : Int) ((m / 4 % 5 : Nat) : Int) ((m / 20 % 5 : Nat) : Int) ((m / 100 % 5 : Nat) : Int) := hst.1
      rw [HQ.out.1, HQ.out.2.1, HQ.out.2.2.1, HQ.out.2.2.2] at hF
      have HF := Lib.hid hF
      have HB := Lib.hid hst.2
      obtain ⟨⟨d0, d1, d2, d3⟩, hf⟩ := hF
      have hf0 := hf 0
      have hf1 := hf 1
      have hf2 := hf 2
      have hf3 := hf 3
      have hlt := cell_lt d0
      simp only at hlt
      clear hN hf hst
      go_wp2
      (try simp only [Exit.inBlock, Exit.then])
      obtain ⟨⟨e0, e1, e2, e3⟩, _⟩ := (((HF.out.set0 q0).set1 q1).set2 q2).set3 q3
      refine bodyPost_ret (v := .agg #[.int .i64 q0, .int .i64 q1, .int .i64 q2, .int .i64 q3]) ?_ rfl ⟨rfl, ?_⟩
      · simp [results, Tryd.results36, go_sem, e0, e1, e2, e3]
      · refine below_setK (below_setK (below_setK (below_setK HB.out ?_ _ _) ?_ _ _) ?_ _ _) ?_ _ _ <;> omega
end Go.Proofs.YtcdogkabdhbjmaaDoor
/- Options: kinds put into options. -/
namespace Go.Proofs.YtcdogkabdhbjmaaDoor
open Go.RowKit

set_option maxRecDepth 100000 in
set_option maxHeartbeats 4000000 in
theorem opPut_any (q0 q1 q2 q3 : Int) (b : Nat) (o : Opt) (w : World) (hO : OptAt w b o) :
    Calls Tryd.prog 37 #[.agg #[.int .i64 q0, .int .i64 q1, .int .i64 q2, .int .i64 q3], .pointer (some ⟨b, 0, none⟩)] w fun e w' => e = .returned (.tuple #[]) ∧ OptAt w' b { o with d := q0, l := q1, t := q2, g := q3 } ∧ ∀ B ww, B ≤ b → B ≤ w.heap.size → Below B ww w → Below B ww w' := by
  have hO1 := hO.below (below_new w (.cells #[.int .i64 q0, .int .i64 q1, .int .i64 q2, .int .i64 q3] 47))
  obtain ⟨⟨k0, k1, k2, k3⟩, _⟩ := FourAt.new_ w q0 q1 q2 q3 47
  have c0 := hO1.1 0 _ rfl
  have c1 := hO1.1 1 _ rfl
  have c2 := hO1.1 2 _ rfl
  have c3 := hO1.1 3 _ rfl
  have f0 := hO1.2 0
  have f1 := hO1.2 1
  have f2 := hO1.2 2
  have f3 := hO1.2 3
  have hl := cell_lt c0
  simp only at hl
  have HO := Lib.hid hO1
  clear hO hO1
  go_enter Tryd.func37, Tryd.ntmps37
  go_wp2
  go_region
  go_wp2
  go_end0
  exact ⟨rfl, ((((HO.out.set0 q0).set1 q1).set2 q2).set3 q3).below (Below.refl _ _).drew, fun B ww hB hw h => (below_setB (below_setB (below_setB (below_setB (h.alloc hw _) hB _ _) hB _ _) hB _ _) hB _ _).drew⟩
end Go.Proofs.YtcdogkabdhbjmaaDoor
/- Options: flags set from their bits. -/
namespace Go.Proofs.YtcdogkabdhbjmaaDoor
open Go.RowKit

/-- Options whose first k flags are those of a number. -/
def Opt.setK (o : Opt) (n : Nat) : Nat → Opt
  | 0 => o
  | k + 1 => (Opt.setK o n k).putB k (n.testBit k)
theorem bit_of (n k : Nat) (hn : n < 1024) (hk : k < 10) : (bits .and .i64 (n : Int) ((2 : Int) ^ k) != 0) = n.testBit k := by
  have hp : ((2 : Int) ^ k) = ((2 ^ k : Nat) : Int) := by simp
  have h2 : (2 : Nat) ^ k ≤ 2 ^ 9 := Nat.pow_le_pow_right (by decide) (by omega)
  have h512 : (2 : Nat) ^ 9 = 512 := by decide
  rw [hp, and_i64 _ _ (by omega) (by omega)]
  cases h : n.testBit k with
  | false =>
    have e : n &&& 2 ^ k = 0 := by
      apply Nat.eq_of_testBit_eq
      intro i
      rw [Nat.testBit_and, Nat.testBit_two_pow, Nat.zero_testBit]
      by_cases hi : k = i
      · subst hi
        rw [h]
        rfl
      · simp [hi]
    rw [e]
    rfl
  | true =>
    have e : n &&& 2 ^ k ≠ 0 := by
      intro e
      have h3 : (n &&& 2 ^ k).testBit k = true := by
        rw [Nat.testBit_and, Nat.testBit_two_pow, h]
        simp
      rw [e, Nat.zero_testBit] at h3
      cases h3
    simp [bne]
    omega
/-- A row elsewhere, over a store. -/
theorem rd_set {W : World} {b g n : Nat} {l : List Value} {s : Nat} (h : Rd W s (some ⟨g, 0, none⟩) n l) (hne : g ≠ b) (j : Nat) (u : Value) : Rd (W.setCell ⟨b, j, none⟩ u) s (some ⟨g, 0, none⟩) n l := by
  refine ⟨h.1, fun hn => ?_⟩
  obtain ⟨ad, he, hl, hc⟩ := h.2 hn
  refine ⟨ad, he, by simpa [World.setCell] using hl, fun i v hv => ?_⟩
  injection he with he
  subst he
  exact (World.cell?_setCell_other (h := fun e => hne (by have := congrArg Addr.block e; rw [blockAdd] at this; exact this.symm)) ..).trans (hc i v hv)
set_option maxRecDepth 100000 in
set_option maxHeartbeats 4000000 in
theorem opPutBits_any (b : Nat) (o : Opt) (n : Nat) (hn : n < 1024) (w : World) (hO : OptAt w b o) :
    Calls Tryd.prog 38 #[.pointer (some ⟨b, 0, none⟩), .int .i64 n] w fun e w' => e = .returned (.tuple #[]) ∧ OptAt w' b (o.setK n 10) ∧ ∀ B ww, B ≤ b → B ≤ w.heap.size → Below B ww w → Below B ww w' := by
  have HO := Lib.hid hO
  clear hO
  go_enter Tryd.func38, Tryd.ntmps38
  go_wp2_with fail
  refine (opFlags_any b w).mono ?_
  rintro e w1 ⟨⟨g, rfl, hr⟩, hb1⟩
  have hO1 := HO.out.below hb1
  have hgb : g ≠ b := by
    intro e
    subst e
    have h1 := hr.news 1 _ rfl
    have h2 := hO1.1 1 _ rfl
    rw [addNew] at h1
    rw [show (⟨g, 0 + 1, none⟩ : Addr) = ⟨g, 1, none⟩ from rfl] at *
    rw [h1] at h2
    cases h2
  have HO1 := Lib.hid hO1
  have HR := Lib.hid hr
  have HB1 := Lib.hid hb1
  clear hr hb1 hO1 HO
  go_wp2
  go_loopw [9] (fun i wr => ∃ k : Nat, k ≤ 10 ∧ i = .int .i64 k ∧ OptAt wr b (o.setK n k) ∧ Rd wr 2 (some ⟨g, 0, none⟩) 10 (flagCells b) ∧ (∀ B ww, B ≤ b → B ≤ w.heap.size → Below B ww w → Below B ww wr) ∧ w.heap.size ≤ wr.heap.size) (fun i _ => 10 - (intOf i).toNat)
  case atStart => exact ⟨0, Nat.zero_le _, rfl, HO1.out, HR.out, fun B ww _ hB h => h.trans (HB1.out.mono hB), HB1.out.size⟩
  case round =>
    clear HO1 HR HB1
    obtain ⟨k, hk, rfl, hO, hr, hb, hs⟩ := hrel
    by_cases hlt : k < 10
    · obtain ⟨hc1, hc2⟩ := flag_cells b k hlt
      have q1 := hr.news (k * 2) _ hc1
      have q2 := hr.news (k * 2 + 1) _ hc2
      rw [addNew] at q1 q2
      have hbit := bit_of n k hn hlt
      obtain ⟨P2, hP2⟩ : ∃ P2 : Int, (2 : Int) ^ k = P2 := ⟨_, rfl⟩
      rw [hP2] at q1 hbit
      obtain ⟨X, hX⟩ : ∃ X, n.testBit k = X := ⟨_, rfl⟩
      rw [hX] at hbit
      have hA := below_new wr (.cells #[.int .i64 P2, .pointer (some ⟨b, 4 + k, none⟩)] 86)
      have hO2 := hO.below hA
      have hr2 := hr.below hA
      have HN := Lib.hid (show OptAt ((wr.alloc (.cells #[.int .i64 P2, .pointer (some ⟨b, 4 + k, none⟩)] 86)).setCell ⟨b, 4 + k, none⟩ (.bool X)) b (o.setK n (k + 1)) by
        show OptAt _ b ((Opt.setK o n k).putB k (n.testBit k))
        rw [hX]
        exact hO2.setB k hlt X)
      have HRN := Lib.hid (rd_set hr2 hgb (4 + k) (.bool X))
      have HBN := Lib.hid (show ∀ B ww, B ≤ b → B ≤ w.heap.size → Below B ww w → Below B ww ((wr.alloc (.cells #[.int .i64 P2, .pointer (some ⟨b, 4 + k, none⟩)] 86)).setCell ⟨b, 4 + k, none⟩ (.bool X)) from
        fun B ww h1 h2 h3 => below_setB ((hb B ww h1 h2 h3).alloc (Nat.le_trans h2 hs) _) h1 _ _)
      have HS := Lib.hid (show w.heap.size ≤ ((wr.alloc (.cells #[.int .i64 P2, .pointer (some ⟨b, 4 + k, none⟩)] 86)).setCell ⟨b, 4 + k, none⟩ (.bool X)).heap.size by simp [World.setCell]; omega)
      have hlen14 : (Opt.cells (o.setK n k)).size = 14 := rfl
      obtain ⟨cv, cx⟩ : ∃ cv, (wr.alloc (.cells #[.int .i64 P2, .pointer (some ⟨b, 4 + k, none⟩)] 86)).cell? ⟨b, 4 + k, none⟩ = some cv := ⟨_, hO2.1 (4 + k) _ (Array.getElem?_eq_getElem (by rw [hlen14]; omega))⟩
      have fx := hO2.2 (4 + k)
      have hlt2 := cell_lt cx
      simp only at hlt2
      clear hP2 hX hc1 hc2 hO hr hb hA hO2 hr2 hlen14
      go_wp2
      go_roundw
      case rel => exact ⟨k + 1, by omega, by go_num, HN.out, HRN.out, HBN.out, HS.out⟩
      case measure => simp [intOf]; omega
    · have hk10 : k = 10 := by omega
      subst hk10
      have HN := Lib.hid hO
      have HB := Lib.hid hb
      clear hO hr hb
      go_wp2
      go_end0
      exact ⟨rfl, HN.out, HB.out⟩
end Go.Proofs.YtcdogkabdhbjmaaDoor
