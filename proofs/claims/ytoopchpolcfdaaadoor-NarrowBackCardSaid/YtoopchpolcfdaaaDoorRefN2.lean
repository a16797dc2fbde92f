/- The reference's first, at every slice of bytes: it says what firstN says. -/
import Derived.Test.YtoopchpolcfdaaaDoorRefN
namespace Go.Proofs.YtoopchpolcfdaaaDoor
open Go.RowKit

theorem take_getD {bs l : List Int} (h : bs.take l.length = l) (i : Nat) (hi : i < l.length) : bs.getD i 0 = l.getD i 0 := by
  rw [List.getD_eq_getElem?_getD, List.getD_eq_getElem?_getD]
  have : (bs.take l.length)[i]? = bs[i]? := List.getElem?_take_of_lt hi
  rw [← this, h]
theorem take2 {bs : List Int} (h : 2 ≤ bs.length) : bs.take 2 = [bs.getD 0 0, bs.getD 1 0] := by
  match bs, h with
  | a :: b :: r, _ => rfl
theorem take3 {bs : List Int} (h : 3 ≤ bs.length) : bs.take 3 = [bs.getD 0 0, bs.getD 1 0, bs.getD 2 0] := by
  match bs, h with
  | a :: b :: c :: r, _ => rfl
theorem take4 {bs : List Int} (h : 4 ≤ bs.length) : bs.take 4 = [bs.getD 0 0, bs.getD 1 0, bs.getD 2 0, bs.getD 3 0] := by
  match bs, h with
  | a :: b :: c :: d :: r, _ => rfl
theorem getD_lt {bs : List Int} {i : Nat} (h : bs.getD i 0 ≠ 0) : i < bs.length := by
  rcases Nat.lt_or_ge i bs.length with h1 | h1
  · exact h1
  · exact absurd (by rw [List.getD_eq_getElem?_getD, List.getElem?_eq_none h1]; rfl) h
/-- What a size tells of a code. -/
theorem sizeN_inv (c : Int) : (sizeN c = 2 → 128 ≤ c ∧ c < 2048) ∧ (sizeN c = 3 → 2048 ≤ c ∧ c < 65536 ∧ (c < 55296 ∨ 57343 < c)) ∧ (sizeN c = 4 → 65536 ≤ c ∧ c ≤ 1114111) := by
  rcases partsN c with ⟨h, h'⟩ | ⟨h, h'⟩ | ⟨h, h'⟩ | ⟨h, h'⟩ | ⟨h, h', h''⟩ | ⟨h, h'⟩
  · rw [sizeN_ill h h']; refine ⟨fun h => ?_, fun h => ?_, fun h => ?_⟩ <;> omega
  · rw [sizeN_0 h h']; refine ⟨fun h => ?_, fun h => ?_, fun h => ?_⟩ <;> omega
  · rw [sizeN_1 h h']; refine ⟨fun h => ?_, fun h => ?_, fun h => ?_⟩ <;> omega
  · rw [sizeN_2 h h']; exact ⟨fun _ => ⟨h, h'⟩, fun h => by omega, fun h => by omega⟩
  · rw [sizeN_3 h h' h'']; exact ⟨fun h => by omega, fun _ => ⟨h, h', h''⟩, fun h => by omega⟩
  · rw [sizeN_4 h h']; exact ⟨fun h => by omega, fun h => by omega, fun _ => ⟨h, h'⟩⟩
theorem whole_iff {c : Int} : wholeB c = true ↔ (0 ≤ c ∧ c ≤ 1114111 ∧ (c < 55296 ∨ 57343 < c)) := decide_eq_true_iff

def refOf (r : Int × Nat) : Int := if r.2 = 1 then -1 else r.1

theorem kept_2 (n : Nat) (bs : List Int) (hl : bs.length = n) (x y : Int) (hx : bs.getD 0 0 = x) (hy : bs.getD 1 0 = y) (h1 : 192 ≤ x) (h2 : x < 224) (z t : Int) : keptN ((x - 192) * 64 + y % 64) n bs = refOf (firstN4 x y z t) := by
  obtain ⟨i2, _, _⟩ := sizeN_inv ((x - 192) * 64 + y % 64)
  by_cases g : (128 ≤ y ∧ y < 192) ∧ sizeN ((x - 192) * 64 + y % 64) = 2
  · have hf : firstN4 x y z t = (v2N x y, 2) := by
      unfold firstN4; rw [if_neg (by omega), if_pos ⟨h1, h2, g⟩]
    have hn : 2 ≤ n := by have := getD_lt (bs := bs) (i := 1) (by omega); omega
    have ho := oneN_2 g.2
    have := i2 g.2
    rw [hf]
    refine if_pos ⟨by omega, whole_iff.2 (by omega), by rw [ho]; exact hn, ?_⟩
    rw [ho]
    show _ = bs.take 2
    rw [take2 (by omega), hx, hy]
    congr 1
    · omega
    · congr 1; omega
  · have hf : firstN4 x y z t = (1114112 + x, 1) := by
      unfold firstN4; rw [if_neg (by omega), if_neg (fun h => g h.2.2), if_neg (by omega), if_neg (by omega)]
    rw [hf]
    refine if_neg (fun ⟨a1, a2, a3, a4⟩ => g ?_)
    have hs := sizeN_2 a1 (by omega)
    rw [oneN_2 hs] at a4
    have e := take_getD a4.symm 1 (by simp)
    rw [hy] at e
    have e' : y = 128 + ((x - 192) * 64 + y % 64) % 64 := e
    exact ⟨by omega, hs⟩

theorem kept_3 (n : Nat) (bs : List Int) (hl : bs.length = n) (x y z : Int) (hx : bs.getD 0 0 = x) (hy : bs.getD 1 0 = y) (hz : bs.getD 2 0 = z) (h1 : 224 ≤ x) (h2 : x < 240) (t : Int) : keptN ((x - 224) * 4096 + y % 64 * 64 + z % 64) n bs = refOf (firstN4 x y z t) := by
  have hv : (x - 224) * 4096 + y % 64 * 64 + z % 64 = v3N x y z := by unfold v3N; omega
  rw [hv]
  have hr : v3N x y z = ((x - 224) * 64 + y % 64) * 64 + z % 64 := rfl
  obtain ⟨i2, i3, _⟩ := sizeN_inv (v3N x y z)
  by_cases g : (128 ≤ y ∧ y < 192) ∧ (128 ≤ z ∧ z < 192) ∧ sizeN (v3N x y z) = 3
  · have hf : firstN4 x y z t = (v3N x y z, 3) := by
      unfold firstN4; rw [if_neg (by omega), if_neg (by omega), if_pos ⟨h1, h2, g⟩]
    have hn : 3 ≤ n := by have := getD_lt (bs := bs) (i := 2) (by omega); omega
    have ho := oneN_3 g.2.2
    have := i3 g.2.2
    rw [hf]
    refine if_pos ⟨by omega, whole_iff.2 (by omega), by rw [ho]; exact hn, ?_⟩
    rw [ho]
    show _ = bs.take 3
    rw [take3 (by omega), hx, hy, hz]
    congr 1
    · omega
    · congr 1
      · omega
      · congr 1; omega
  · have hf : firstN4 x y z t = (1114112 + x, 1) := by
      unfold firstN4; rw [if_neg (by omega), if_neg (by omega), if_neg (fun h => g h.2.2), if_neg (by omega)]
    rw [hf]
    refine if_neg (fun ⟨a1, a2, a3, a4⟩ => g ?_)
    have a2' := whole_iff.1 a2
    by_cases hb : v3N x y z < 2048
    · rw [oneN_2 (sizeN_2 a1 hb)] at a4
      have e := take_getD a4.symm 0 (by simp)
      rw [hx] at e
      have e' : x = 192 + v3N x y z / 64 := e
      omega
    · have hs := sizeN_3 (c := v3N x y z) (by omega) (by omega) a2'.2.2
      rw [oneN_3 hs] at a4
      have e := take_getD a4.symm 1 (by simp)
      have e2 := take_getD a4.symm 2 (by simp)
      rw [hy] at e
      rw [hz] at e2
      have e' : y = 128 + v3N x y z / 64 % 64 := e
      have e2' : z = 128 + v3N x y z % 64 := e2
      exact ⟨by omega, by omega, hs⟩

theorem kept_4 (n : Nat) (bs : List Int) (hl : bs.length = n) (x y z t : Int) (hx : bs.getD 0 0 = x) (hy : bs.getD 1 0 = y) (hz : bs.getD 2 0 = z) (ht : bs.getD 3 0 = t) (h1 : 240 ≤ x) (h2 : x < 248) : keptN ((x - 240) * 262144 + y % 64 * 4096 + z % 64 * 64 + t % 64) n bs = refOf (firstN4 x y z t) := by
  have hv : (x - 240) * 262144 + y % 64 * 4096 + z % 64 * 64 + t % 64 = v4N x y z t := by unfold v4N; omega
  rw [hv]
  have hr : v4N x y z t = (((x - 240) * 64 + y % 64) * 64 + z % 64) * 64 + t % 64 := rfl
  obtain ⟨i2, i3, i4⟩ := sizeN_inv (v4N x y z t)
  by_cases g : (128 ≤ y ∧ y < 192) ∧ (128 ≤ z ∧ z < 192) ∧ (128 ≤ t ∧ t < 192) ∧ sizeN (v4N x y z t) = 4
  · have hf : firstN4 x y z t = (v4N x y z t, 4) := by
      unfold firstN4; rw [if_neg (by omega), if_neg (by omega), if_neg (by omega), if_pos ⟨h1, g⟩]
    have hn : 4 ≤ n := by have := getD_lt (bs := bs) (i := 3) (by omega); omega
    have ho := oneN_4 g.2.2.2
    have := i4 g.2.2.2
    rw [hf]
    refine if_pos ⟨by omega, whole_iff.2 (by omega), by rw [ho]; exact hn, ?_⟩
    rw [ho]
    show _ = bs.take 4
    rw [take4 (by omega), hx, hy, hz, ht]
    congr 1
    · omega
    · congr 1
      · omega
      · congr 1
        · omega
        · congr 1; omega
  · have hf : firstN4 x y z t = (1114112 + x, 1) := by
      unfold firstN4; rw [if_neg (by omega), if_neg (by omega), if_neg (by omega), if_neg (fun h => g h.2)]
    rw [hf]
    refine if_neg (fun ⟨a1, a2, a3, a4⟩ => g ?_)
    have a2' := whole_iff.1 a2
    by_cases hb : v4N x y z t < 2048
    · rw [oneN_2 (sizeN_2 a1 hb)] at a4
      have e := take_getD a4.symm 0 (by simp)
      rw [hx] at e
      have e' : x = 192 + v4N x y z t / 64 := e
      omega
    · by_cases hb2 : v4N x y z t < 65536
      · rw [oneN_3 (sizeN_3 (by omega) hb2 a2'.2.2)] at a4
        have e := take_getD a4.symm 0 (by simp)
        rw [hx] at e
        have e' : x = 224 + v4N x y z t / 4096 := e
        omega
      · have hs := sizeN_4 (c := v4N x y z t) (by omega) (by omega)
        rw [oneN_4 hs] at a4
        have e := take_getD a4.symm 1 (by simp)
        have e2 := take_getD a4.symm 2 (by simp)
        have e3 := take_getD a4.symm 3 (by simp)
        rw [hy] at e
        rw [hz] at e2
        rw [ht] at e3
        have e' : y = 128 + v4N x y z t / 4096 % 64 := e
        have e2' : z = 128 + v4N x y z t / 64 % 64 := e2
        have e3' : t = 128 + v4N x y z t % 64 := e3
        exact ⟨by omega, by omega, by omega, hs⟩

theorem kept_0 (x y z t : Int) (h : x < 192 ∨ 248 ≤ x) (hx1 : x ≤ 255) (hx0 : 0 ≤ x) : refOf (firstN4 x y z t) = -1 := by
  by_cases c1 : x < 128
  · have : firstN4 x y z t = (x, 1) := if_pos c1
    rw [this]; rfl
  · have : firstN4 x y z t = (1114112 + x, 1) := by
      unfold firstN4
      rw [if_neg c1, if_neg (by omega), if_neg (by omega), if_neg]
      intro ⟨a1, a2, a3, a4, a5⟩
      have := (sizeN_inv (v4N x y z t)).2.2 a5
      unfold v4N at this
      omega
    rw [this]; rfl

theorem refFirst_any (A : Option Addr) (n c : Nat) (bs : List Int) (w : World) (hr : Rd w 1 A n (bs.map (Value.int .u8))) (hu : ∀ x ∈ bs, Byte8 x) (hn : 0 < n) (hm : n ≤ 16777216) (hc : n ≤ c) :
    Calls Tryd.prog 45 #[.slice A n c] w fun e w' => e = .returned (.int .i64 (refOf (firstN bs))) ∧ Below w.heap.size w w' := by
  have hlen : bs.length = n := by simpa using hr.len1
  obtain ⟨ad, rfl, _, hcell⟩ := hr.2 hn
  have h0 : w.cell? ad = some (.int .u8 (bs.getD 0 0)) := hcell 0 _ (by
    rw [List.getElem?_map, List.getElem?_eq_getElem (by omega), List.getD_eq_getElem?_getD, List.getElem?_eq_getElem (by omega)]; rfl)
  obtain ⟨x0, x1⟩ := byte_getD hu 0
  have l := fun i hi q => low_any (some ad) n c i bs (w.drewN q) hr hu hi hm
  unfold firstN
  by_cases c0 : bs.getD 0 0 < 192 ∨ 248 ≤ bs.getD 0 0
  · rw [kept_0 _ _ _ _ c0 x1 x0]
    exact refFirst_0 ad n c _ w hn h0 c0
  by_cases c1 : bs.getD 0 0 < 224
  · rw [← kept_2 n bs hlen _ _ rfl rfl (by omega) c1]
    exact refFirst_2 ad n c _ _ bs w hr hu hn hc h0 (by omega) c1 (l 1 (by omega))
  by_cases c2 : bs.getD 0 0 < 240
  · rw [← kept_3 n bs hlen _ _ _ rfl rfl rfl (by omega) c2]
    exact refFirst_3 ad n c _ _ _ bs w hr hu hn hc h0 (by omega) c2 (l 1 (by omega)) (l 2 (by omega))
  · rw [← kept_4 n bs hlen _ _ _ _ rfl rfl rfl rfl (by omega) (by omega)]
    exact refFirst_4 ad n c _ _ _ _ bs w hr hu hn hc h0 (by omega) (by omega) (l 1 (by omega)) (l 2 (by omega)) (l 3 (by omega))
end Go.Proofs.YtoopchpolcfdaaaDoor
