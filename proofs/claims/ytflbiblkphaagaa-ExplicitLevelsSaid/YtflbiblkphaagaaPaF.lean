/- para's held, First, Level, walked. -/
import Derived.Test.YtflbiblkphaagaaPaI
import Derived.Test.YtflbiblkphaagaaMem3
import Derived.Test.YtflbiblkphaagaaHp
import Derived.Test.YtflbiblkphaagaaSpBlk
import Derived.Deep.RegionWith
namespace Go.Proofs.Ytflbiblkphaagaa
open Go.RowKit

/-- The ends of what a span has of n places. -/
def hiF (s : Sp) (n : Nat) : Nat := (min (max s.2 0) (n : Int)).toNat
def loF (s : Sp) (n : Nat) : Nat := (min (max s.1 0) (hiF s n : Int)).toNat
theorem hi_le (s : Sp) (n : Nat) : hiF s n ≤ n := by unfold hiF; omega
theorem lo_le (s : Sp) (n : Nat) : loF s n ≤ hiF s n := by unfold loF; omega
theorem hi_eq (s : Sp) (n : Nat) : min (max s.2 0) (n : Int) = (hiF s n : Int) := by unfold hiF; omega
theorem lo_eq (s : Sp) (n : Nat) : min (max s.1 0) (hiF s n : Int) = (loF s n : Int) := by unfold loF; omega
theorem spanOf_eq (xs : List Int) (s : Sp) : spanOf xs s = (xs.drop (loF s xs.length)).take (hiF s xs.length - loF s xs.length) := by
  unfold spanOf
  have h1 := hi_eq s xs.length
  have h2 := lo_eq s xs.length
  have h3 := lo_le s xs.length
  by_cases h : max s.1 0 < min (max s.2 0) xs.length
  · rw [if_pos h]
    have : (max s.1 0).toNat = loF s xs.length := by omega
    rw [this]
    have : (min (max s.2 0) (xs.length : Int)).toNat = hiF s xs.length := rfl
    rw [this]
  · rw [if_neg h, show hiF s xs.length - loF s xs.length = 0 by omega, List.take_zero]
theorem Rd.sub {w : World} {A : Option Addr} {n : Nat} {xs : List Int} (hr : Rd w 1 A n (xs.map (Value.int .i64))) {lo hi : Nat} (h1 : lo ≤ hi) (h2 : hi ≤ n) {B : Option Addr} (hB : lo < hi → B = A.map (·.add lo)) : Rd w 1 B (hi - lo) (((xs.drop lo).take (hi - lo)).map (Value.int .i64)) := by
  have hlen : xs.length = n := by simpa using hr.len1
  refine ⟨by simp; omega, fun hn => ?_⟩
  obtain ⟨ad, rfl, hb, hc⟩ := hr.2 (by omega)
  rw [hB (by omega)]
  refine ⟨ad.add lo, rfl, by rw [blockAdd]; exact hb, fun j u hu => ?_⟩
  rw [addAdd]
  refine hc _ u ?_
  rw [List.getElem?_map, List.getElem?_take] at hu
  split at hu
  · rw [List.getElem?_drop] at hu
    rw [List.getElem?_map]
    exact hu
  · cases hu
def HeldAns (w w' : World) (ys : List Int) (e : Ending) : Prop := ∃ (B : Option Addr) (m k : Nat), e = .returned (.slice B m k) ∧ Rd w' 1 B m (ys.map (Value.int .i64)) ∧ Below w.heap.size w w'
set_option maxRecDepth 100000 in
set_option maxHeartbeats 1000000 in
theorem prHeld_any (A : Option Addr) (n c : Nat) (xs : List Int) (lo hi : Int) (w : World) (hr : Rd w 1 A n (xs.map (Value.int .i64))) (hn : n ≤ 1000000) (hnc : n ≤ c) (hl : Fit lo) (hh : Fit hi) :
    Calls Try.prog 61 #[.slice A n c, .agg #[.int .i64 lo, .int .i64 hi]] w fun e w' => HeldAns w w' (spanOf xs (lo, hi)) e := by
  have hlen : xs.length = n := by simpa using hr.len1
  have h1 := hi_eq (lo, hi) n
  have h2 := lo_eq (lo, hi) n
  have h3 := lo_le (lo, hi) n
  have h4 := hi_le (lo, hi) n
  have he := spanOf_eq xs (lo, hi)
  rw [hlen] at he
  obtain ⟨H, hH⟩ : ∃ H, hiF (lo, hi) n = H := ⟨_, rfl⟩
  obtain ⟨L, hL⟩ : ∃ L, loF (lo, hi) n = L := ⟨_, rfl⟩
  rw [hH, hL] at he h3
  rw [hH] at h1 h2 h4
  rw [hL] at h2
  simp only at h1 h2
  have h1' : (if (n : Int) < (if hi < 0 then 0 else hi) then (n : Int) else (if hi < 0 then 0 else hi)) = (H : Int) := by
    rw [← h1]; split <;> split <;> omega
  have h2' : (if (H : Int) < (if lo < 0 then 0 else lo) then (H : Int) else (if lo < 0 then 0 else lo)) = (L : Int) := by
    rw [← h2]; split <;> split <;> omega
  clear h1 h2
  have HE := Lib.hid he
  have s1 := SpanBlk.new_ w lo hi 78
  have hbn := below_new w (.cells #[.int .i64 lo, .int .i64 hi] 78)
  obtain ⟨c0, c1, _, _⟩ := s1
  simp only at c0 c1
  have HR := Lib.hid (hr.below hbn)
  have HB := Lib.hid hbn
  have k0 : (0 : Int) ≤ (L : Int) := by omega
  have k1 : (L : Int) ≤ (H : Int) := by omega
  have k2 : (H : Int) ≤ (c : Int) := by omega
  clear hr hbn he hH hL hl hh
  go_enter Try.func61, Try.ntmps61
  go_wp2
  all_goals first
    | (have e9 : H = L := ‹H = L›
       exact bodyPost_ret (v := .slice A 0 0) (by simp [results, go_sem]) rfl ⟨A, 0, 0, rfl, by rw [HE.out, e9, Nat.sub_self]; exact Rd.nil_, HB.out⟩)
    | exact bodyPost_ret (v := .slice (A.map fun x => x.add L) (H - L) (H - L)) (by simp [results, go_sem]) rfl ⟨_, _, _, rfl, by rw [HE.out]; exact HR.out.sub h3 h4 (fun _ => rfl), HB.out⟩
end Go.Proofs.Ytflbiblkphaagaa
