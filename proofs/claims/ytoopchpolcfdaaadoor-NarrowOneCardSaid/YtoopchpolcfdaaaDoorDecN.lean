/- Bytes as codes: what narrow.first hands back. -/
import Derived.Test.YtoopchpolcfdaaaDoorSeqN
import Derived.Test.YtoopchpolcfdaaaDoorDecW2
namespace Go.Proofs.YtoopchpolcfdaaaDoor
open Go.RowKit

def v2N (x y : Int) : Int := (x - 192) * 64 + y % 64
def v3N (x y z : Int) : Int := ((x - 224) * 64 + y % 64) * 64 + z % 64
def v4N (x y z t : Int) : Int := (((x - 240) * 64 + y % 64) * 64 + z % 64) * 64 + t % 64
/-- The code at the beginning of bytes, and how many bytes it takes. -/
def firstN4 (x y z t : Int) : Int × Nat :=
  if x < 128 then (x, 1)
  else if 192 ≤ x ∧ x < 224 ∧ (128 ≤ y ∧ y < 192) ∧ sizeN (v2N x y) = 2 then (v2N x y, 2)
  else if 224 ≤ x ∧ x < 240 ∧ (128 ≤ y ∧ y < 192) ∧ (128 ≤ z ∧ z < 192) ∧ sizeN (v3N x y z) = 3 then (v3N x y z, 3)
  else if 240 ≤ x ∧ (128 ≤ y ∧ y < 192) ∧ (128 ≤ z ∧ z < 192) ∧ (128 ≤ t ∧ t < 192) ∧ sizeN (v4N x y z t) = 4 then (v4N x y z t, 4)
  else (1114112 + x, 1)
def firstN (bs : List Int) : Int × Nat := firstN4 (bs.getD 0 0) (bs.getD 1 0) (bs.getD 2 0) (bs.getD 3 0)

theorem ret2N {a b n m : Int} (h : a = b) (h' : n = m) : Ending.returned (.tuple #[.int .i64 a, .int .i64 n]) = .returned (.tuple #[.int .i64 b, .int .i64 m]) := by rw [h, h']

/-- The first byte begins no sequence that could stand here. -/
theorem firstN_ill (ad : Addr) (n c : Nat) (x L : Int) (w : World) (hL : w.cell? ⟨2, (x / 16).toNat, none⟩ = some (.int .i64 L)) (hn : 0 < n) (hx0 : 0 ≤ x) (hx1 : x ≤ 255) (h0 : w.cell? ad = some (.int .u8 x)) (h : L = 0 ∨ (0 < L ∧ L ≤ 4 ∧ (n : Int) < L)) :
    Calls Tryd.prog 44 #[.slice (some ad) n c] w fun e w' => e = .returned (.tuple #[.int .i64 (1114112 + x), .int .i64 1]) ∧ ∃ q, w' = w.drewN q := by
  have h0' : w.cell? (ad.add 0) = some (.int .u8 x) := h0
  rcases h with rfl | ⟨h1, h2, h3⟩
  · go_enter Tryd.func44, Tryd.ntmps44
    go_wp2
    go_ret2
    exact ⟨rfl, 0, rfl⟩
  · go_enter Tryd.func44, Tryd.ntmps44
    go_wp2
    go_ret2
    exact ⟨rfl, 0, rfl⟩

/-- A whole sequence's room is there: what the sequence says decides. -/
theorem firstN_seq (ad : Addr) (n c m : Nat) (x v : Int) (ok : Bool) (w : World) (hL : w.cell? ⟨2, (x / 16).toNat, none⟩ = some (.int .i64 (m : Int))) (hm0 : 0 < m) (hmn : m ≤ n) (hm : n ≤ 16777216) (hc : n ≤ c) (hx0 : 0 ≤ x) (hx1 : x ≤ 255) (h0 : w.cell? ad = some (.int .u8 x))
    (hseq : Calls Tryd.prog 53 #[.slice (some ad) m c] w fun e w' => e = .returned (.tuple #[.int .i64 v, .bool ok]) ∧ ∃ q, w' = w.drewN q) :
    Calls Tryd.prog 44 #[.slice (some ad) n c] w fun e w' => e = .returned (.tuple #[.int .i64 (if ok = true then v else 1114112 + x), .int .i64 (if ok = true then (m : Int) else 1)]) ∧ ∃ q, w' = w.drewN q := by
  have h0' : w.cell? (ad.add 0) = some (.int .u8 x) := h0
  have HS := Lib.hid hseq
  clear hseq
  cases ok with
  | true =>
    simp only [if_true]
    go_enter Tryd.func44, Tryd.ntmps44
    go_wp2_with fail
    refine HS.out.mono ?_
    rintro e w' ⟨rfl, q, rfl⟩
    go_wp2
    go_ret2
    exact ⟨rfl, q, rfl⟩
  | false =>
    have h0q : ∀ q, (w.drewN q).cell? ad = some (.int .u8 x) := fun _ => h0
    simp only [Bool.false_eq_true, if_false]
    go_enter Tryd.func44, Tryd.ntmps44
    go_wp2_with fail
    refine HS.out.mono ?_
    rintro e w' ⟨rfl, q, rfl⟩
    go_wp2
    go_ret2
    exact ⟨rfl, q, rfl⟩

theorem lengthN_of (x : Int) (hx0 : 0 ≤ x) (hx1 : x ≤ 255) : lengthN (x / 16).toNat = if x < 128 then 1 else if x < 192 then 0 else if x < 224 then 2 else if x < 240 then 3 else 4 := by
  obtain ⟨k, hk, hk2⟩ : ∃ k : Nat, (x / 16).toNat = k ∧ k < 16 := ⟨_, rfl, by omega⟩
  rw [hk]
  match k, hk2, hk with
  | 0, _, hk | 1, _, hk | 2, _, hk | 3, _, hk | 4, _, hk | 5, _, hk | 6, _, hk | 7, _, hk => rw [if_pos (by omega)]; rfl
  | 8, _, hk | 9, _, hk | 10, _, hk | 11, _, hk => rw [if_neg (by omega), if_pos (by omega)]; rfl
  | 12, _, hk | 13, _, hk => rw [if_neg (by omega), if_neg (by omega), if_pos (by omega)]; rfl
  | 14, _, hk => rw [if_neg (by omega), if_neg (by omega), if_neg (by omega), if_pos (by omega)]; rfl
  | 15, _, hk => rw [if_neg (by omega), if_neg (by omega), if_neg (by omega), if_neg (by omega)]; rfl
  | k + 16, hk2, _ => exact absurd hk2 (by omega)

def FirstGives (w : World) (r : Int × Nat) (e : Ending) (w' : World) : Prop := e = .returned (.tuple #[.int .i64 r.1, .int .i64 (r.2 : Int)]) ∧ ∃ q, w' = w.drewN q
theorem firstGives_of {P : Program} {f : FuncId} {args : Array Value} {w : World} {a b : Int} {r : Int × Nat} (h : Calls P f args w fun e w' => e = .returned (.tuple #[.int .i64 a, .int .i64 b]) ∧ ∃ q, w' = w.drewN q) (ha : a = r.1) (hb : b = (r.2 : Int)) :
    Calls P f args w (FirstGives w r) := h.mono fun e w' ⟨he, hw⟩ => ⟨by rw [he, ha, hb], hw⟩

theorem firstN_4 (ad : Addr) (n c : Nat) (x y z t : Int) (w : World) (hs : TabN w) (hn : 0 < n) (hm : n ≤ 16777216) (hc : n ≤ c) (hx : 0 ≤ x ∧ x ≤ 255) (hy : 0 ≤ y ∧ y ≤ 255) (hz : 0 ≤ z ∧ z ≤ 255) (ht : 0 ≤ t ∧ t ≤ 255)
    (h0 : w.cell? ad = some (.int .u8 x)) (h1 : if 1 < n then w.cell? ⟨ad.block, ad.off + 1, none⟩ = some (.int .u8 y) else y = 0) (h2 : if 2 < n then w.cell? ⟨ad.block, ad.off + 2, none⟩ = some (.int .u8 z) else z = 0) (h3 : if 3 < n then w.cell? ⟨ad.block, ad.off + 3, none⟩ = some (.int .u8 t) else t = 0) :
    Calls Tryd.prog 44 #[.slice (some ad) n c] w (FirstGives w (firstN4 x y z t)) := by
  obtain ⟨hx0, hx1⟩ := hx
  have hL := hs.lengths (x / 16).toNat (by omega)
  rw [lengthN_of x hx0 hx1] at hL
  by_cases c1 : x < 128
  · rw [if_pos c1] at hL
    have hseq := seq1_yes ad c x w hs (by omega) hx0 c1 h0
    rw [sizeN_1 hx0 c1] at hseq
    refine firstGives_of (firstN_seq ad n c 1 x x (decide ((1 : Int) = 1)) w hL (by omega) (by omega) hm hc hx0 hx1 h0 hseq) ?_ ?_ <;> simp [firstN4, c1]
  rw [if_neg c1] at hL
  by_cases c2 : x < 192
  · rw [if_pos c2] at hL
    refine firstGives_of (firstN_ill ad n c x 0 w hL hn hx0 hx1 h0 (.inl rfl)) ?_ ?_ <;> (unfold firstN4; rw [if_neg c1, if_neg (by omega), if_neg (by omega), if_neg (by omega)]) <;> rfl
  rw [if_neg c2] at hL
  by_cases c3 : x < 224
  · rw [if_pos c3] at hL
    have e1 : firstN4 x y z t = if (128 ≤ y ∧ y < 192) ∧ sizeN (v2N x y) = 2 then (v2N x y, 2) else (1114112 + x, 1) := by
      unfold firstN4
      rw [if_neg c1]
      by_cases hh : (128 ≤ y ∧ y < 192) ∧ sizeN (v2N x y) = 2
      · rw [if_pos ⟨by omega, c3, hh⟩, if_pos hh]
      · rw [if_neg (fun h => hh h.2.2), if_neg (by omega), if_neg (by omega), if_neg hh]
    rw [e1]
    by_cases d1 : 1 < n
    · rw [if_pos d1] at h1
      by_cases d2 : 128 ≤ y ∧ y < 192
      · have hseq := seq2_yes ad c x y w hs (by omega) (by omega) c3 d2.1 d2.2 h0 h1
        refine firstGives_of (firstN_seq ad n c 2 x _ _ w hL (by omega) (by omega) hm hc hx0 hx1 h0 hseq) ?_ ?_ <;> simp only [decide_eq_true_eq] <;> (by_cases hz : sizeN ((x - 192) * 64 + y % 64) = 2 <;> simp [d2, hz, v2N])
      · have hseq := seq2_no1 ad c x y w hs (by omega) (by omega) c3 hy.1 hy.2 (by omega) h0 h1
        refine firstGives_of (firstN_seq ad n c 2 x _ _ w hL (by omega) (by omega) hm hc hx0 hx1 h0 hseq) ?_ ?_ <;> simp [d2]
    · rw [if_neg d1] at h1
      refine firstGives_of (firstN_ill ad n c x 2 w hL hn hx0 hx1 h0 (.inr ⟨by omega, by omega, by omega⟩)) ?_ ?_ <;> simp [h1]
  rw [if_neg c3] at hL
  by_cases c4 : x < 240
  · rw [if_pos c4] at hL
    have e1 : firstN4 x y z t = if (128 ≤ y ∧ y < 192) ∧ (128 ≤ z ∧ z < 192) ∧ sizeN (v3N x y z) = 3 then (v3N x y z, 3) else (1114112 + x, 1) := by
      unfold firstN4
      rw [if_neg c1, if_neg (by omega)]
      by_cases hh : (128 ≤ y ∧ y < 192) ∧ (128 ≤ z ∧ z < 192) ∧ sizeN (v3N x y z) = 3
      · rw [if_pos ⟨by omega, c4, hh⟩, if_pos hh]
      · rw [if_neg (fun h => hh h.2.2), if_neg (by omega), if_neg hh]
    rw [e1]
    by_cases d1 : 2 < n
    · rw [if_pos (by omega)] at h1
      rw [if_pos d1] at h2
      by_cases d2 : 128 ≤ y ∧ y < 192
      · by_cases d3 : 128 ≤ z ∧ z < 192
        · have hseq := seq3_yes ad c x y z w hs (by omega) (by omega) c4 d2.1 d2.2 d3.1 d3.2 h0 h1 h2
          refine firstGives_of (firstN_seq ad n c 3 x _ _ w hL (by omega) (by omega) hm hc hx0 hx1 h0 hseq) ?_ ?_ <;> simp only [decide_eq_true_eq] <;> (by_cases hz : sizeN (((x - 224) * 64 + y % 64) * 64 + z % 64) = 3 <;> simp [d2, d3, hz, v3N])
        · have hseq := seq3_no2 ad c x y z w hs (by omega) (by omega) c4 d2.1 d2.2 hz.1 hz.2 (by omega) h0 h1 h2
          refine firstGives_of (firstN_seq ad n c 3 x _ _ w hL (by omega) (by omega) hm hc hx0 hx1 h0 hseq) ?_ ?_ <;> simp [d3]
      · have hseq := seq3_no1 ad c x y w hs (by omega) (by omega) c4 hy.1 hy.2 (by omega) h0 h1
        refine firstGives_of (firstN_seq ad n c 3 x _ _ w hL (by omega) (by omega) hm hc hx0 hx1 h0 hseq) ?_ ?_ <;> simp [d2]
    · rw [if_neg d1] at h2
      refine firstGives_of (firstN_ill ad n c x 3 w hL hn hx0 hx1 h0 (.inr ⟨by omega, by omega, by omega⟩)) ?_ ?_ <;> simp [h2]
  rw [if_neg c4] at hL
  have e1 : firstN4 x y z t = if (128 ≤ y ∧ y < 192) ∧ (128 ≤ z ∧ z < 192) ∧ (128 ≤ t ∧ t < 192) ∧ sizeN (v4N x y z t) = 4 then (v4N x y z t, 4) else (1114112 + x, 1) := by
    unfold firstN4
    rw [if_neg c1, if_neg (by omega), if_neg (by omega)]
    by_cases hh : (128 ≤ y ∧ y < 192) ∧ (128 ≤ z ∧ z < 192) ∧ (128 ≤ t ∧ t < 192) ∧ sizeN (v4N x y z t) = 4
    · rw [if_pos ⟨by omega, hh⟩, if_pos hh]
    · rw [if_neg (fun h => hh h.2), if_neg hh]
  rw [e1]
  by_cases d1 : 3 < n
  · rw [if_pos (by omega)] at h1 h2
    rw [if_pos d1] at h3
    by_cases d2 : 128 ≤ y ∧ y < 192
    · by_cases d3 : 128 ≤ z ∧ z < 192
      · by_cases d4 : 128 ≤ t ∧ t < 192
        · have hseq := seq4_yes ad c x y z t w hs (by omega) (by omega) hx1 d2.1 d2.2 d3.1 d3.2 d4.1 d4.2 h0 h1 h2 h3
          refine firstGives_of (firstN_seq ad n c 4 x _ _ w hL (by omega) (by omega) hm hc hx0 hx1 h0 hseq) ?_ ?_ <;> simp only [decide_eq_true_eq] <;> (by_cases hz : sizeN ((((x - 240) * 64 + y % 64) * 64 + z % 64) * 64 + t % 64) = 4 <;> simp [d2, d3, d4, hz, v4N])
        · have hseq := seq4_no3 ad c x y z t w hs (by omega) (by omega) hx1 d2.1 d2.2 d3.1 d3.2 ht.1 ht.2 (by omega) h0 h1 h2 h3
          refine firstGives_of (firstN_seq ad n c 4 x _ _ w hL (by omega) (by omega) hm hc hx0 hx1 h0 hseq) ?_ ?_ <;> simp [d4]
      · have hseq := seq4_no2 ad c x y z w hs (by omega) (by omega) hx1 d2.1 d2.2 hz.1 hz.2 (by omega) h0 h1 h2
        refine firstGives_of (firstN_seq ad n c 4 x _ _ w hL (by omega) (by omega) hm hc hx0 hx1 h0 hseq) ?_ ?_ <;> simp [d3]
    · have hseq := seq4_no1 ad c x y w hs (by omega) (by omega) hx1 hy.1 hy.2 (by omega) h0 h1
      refine firstGives_of (firstN_seq ad n c 4 x _ _ w hL (by omega) (by omega) hm hc hx0 hx1 h0 hseq) ?_ ?_ <;> simp [d2]
  · rw [if_neg d1] at h3
    refine firstGives_of (firstN_ill ad n c x 4 w hL hn hx0 hx1 h0 (.inr ⟨by omega, by omega, by omega⟩)) ?_ ?_ <;> simp [h3]

def Byte8 (x : Int) : Prop := 0 ≤ x ∧ x ≤ 255
theorem byte_getD {bs : List Int} (h : ∀ x ∈ bs, Byte8 x) (i : Nat) : 0 ≤ bs.getD i 0 ∧ bs.getD i 0 ≤ 255 := by
  rw [List.getD_eq_getElem?_getD]
  cases hi : bs[i]? with
  | none => simp
  | some x => exact h x (List.mem_of_getElem? hi)

theorem firstN_any (A : Option Addr) (n c : Nat) (bs : List Int) (w : World) (hs : TabN w) (hr : Rd w 1 A n (bs.map (Value.int .u8))) (hu : ∀ x ∈ bs, Byte8 x) (hn : 0 < n) (hm : n ≤ 16777216) (hc : n ≤ c) :
    Calls Tryd.prog 44 #[.slice A n c] w (FirstGives w (firstN bs)) := by
  have hlen : bs.length = n := by simpa using hr.len1
  obtain ⟨ad, rfl, _, hcell⟩ := hr.2 hn
  have hget : ∀ i, i < n → w.cell? (ad.add i) = some (.int .u8 (bs.getD i 0)) := fun i hi => hcell i _ (by
    rw [List.getElem?_map, List.getElem?_eq_getElem (by omega), List.getD_eq_getElem?_getD, List.getElem?_eq_getElem (by omega)]; rfl)
  have hout : ∀ i, ¬ i < n → bs.getD i 0 = 0 := fun i hi => by
    rw [List.getD_eq_getElem?_getD, List.getElem?_eq_none (by omega)]; rfl
  have hif : ∀ i, (if i + 1 < n then w.cell? ⟨ad.block, ad.off + (i + 1), none⟩ = some (.int .u8 (bs.getD (i + 1) 0)) else bs.getD (i + 1) 0 = 0) := fun i => by
    by_cases h : i + 1 < n
    · rw [if_pos h]; exact hget (i + 1) h
    · rw [if_neg h]; exact hout _ h
  exact firstN_4 ad n c _ _ _ _ w hs hn hm hc (byte_getD hu 0) (byte_getD hu 1) (byte_getD hu 2) (byte_getD hu 3) (hget 0 hn) (hif 0) (hif 1) (hif 2)
end Go.Proofs.YtoopchpolcfdaaaDoor
