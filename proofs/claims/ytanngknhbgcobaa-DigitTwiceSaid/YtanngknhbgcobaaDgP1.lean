/- digit's moved and One, walked. -/
import Derived.Test.YtanngknhbgcobaaDgD
import Derived.Test.YtanngknhbgcobaaPpKc
namespace Go.Proofs.Ytanngknhbgcobaa
open Go.RowKit

theorem dMoved_hit {c to z : Int} {l : List Int} (h : z ≤ c ∧ c ≤ z + 9) : dMoved c to (z :: l) = c - z + to := if_pos h
theorem dMoved_miss {c to z : Int} {l : List Int} (h : ¬ (z ≤ c ∧ c ≤ z + 9)) : dMoved c to (z :: l) = dMoved c to l := if_neg h
set_option maxRecDepth 100000 in
set_option maxHeartbeats 1000000 in
theorem dgMoved_any (c to : Int) (zs : List Int) (A : Option Addr) (n d : Nat) (w : World) (hr : Rd w 1 A n (zs.map (Value.int .i64))) (hn : n ≤ 1000) (hz : ∀ z ∈ zs, 0 ≤ z ∧ z ≤ 2000) (ht : 0 ≤ to ∧ to ≤ 2000) :
    Calls Try.prog 14 #[.int .i64 c, .int .i64 to, .slice A n d] w fun e w' => e = .returned (.int .i64 (dMoved c to zs)) ∧ w = w' := by
  have hlen : zs.length = n := by simpa using hr.len1
  have HL := Lib.hid hlen
  have HZ := Lib.hid hz
  obtain ⟨t0, t1⟩ := ht
  clear hlen hz
  go_enter Try.func14, Try.ntmps14
  go_wp2
  go_loop [11] (fun i => ∃ k : Nat, k ≤ n ∧ i = .int .i64 k ∧ dMoved c to zs = dMoved c to (zs.drop k)) (fun i => n - (intOf i).toNat)
  case atStart => exact ⟨0, Nat.zero_le _, rfl, rfl⟩
  case round =>
    obtain ⟨k, hk, rfl, hno⟩ := hrel
    have HN := Lib.hid hno
    clear hno
    by_cases hlt : k < n
    · obtain ⟨z, hzk⟩ : ∃ z, zs[k]? = some z := ⟨_, List.getElem?_eq_getElem (by rw [HL.out]; exact hlt)⟩
      obtain ⟨ad, rfl, _, hc⟩ := hr.at_ hlt
      have cs : w.cell? (ad.add k) = some (.int .i64 z) := hc _ (by rw [List.getElem?_map, hzk]; rfl)
      obtain ⟨z0, z1⟩ := HZ.out z (List.mem_of_getElem? hzk)
      have HD := Lib.hid (dropCons hzk)
      clear hzk hc
      by_cases h0 : z ≤ c
      · by_cases h1 : c ≤ z + 9
        · have HR := Lib.hid (show dMoved c to zs = c - z + to by rw [HN.out, HD.out, dMoved_hit ⟨h0, h1⟩])
          go_wp2
          go_ret
          exact ⟨retI HR.out.symm, rfl⟩
        · have HR := Lib.hid (show dMoved c to zs = dMoved c to (zs.drop (k + 1)) by rw [HN.out, HD.out, dMoved_miss (fun h => h1 h.2)])
          go_wp2
          go_round
          case rel => exact ⟨k + 1, by omega, by go_num, HR.out⟩
          case measure => simp [intOf]; omega
      · have HR := Lib.hid (show dMoved c to zs = dMoved c to (zs.drop (k + 1)) by rw [HN.out, HD.out, dMoved_miss (fun h => h0 h.1)])
        go_wp2
        go_round
        case rel => exact ⟨k + 1, by omega, by go_num, HR.out⟩
        case measure => simp [intOf]; omega
    · have HF := Lib.hid (show dMoved c to zs = c by rw [HN.out, List.drop_eq_nil_of_le (by rw [HL.out]; omega)]; rfl)
      go_wp2
      go_ret
      exact ⟨retI HF.out.symm, rfl⟩
theorem dTo_rng (a e : Bool) : 0 ≤ dTo a e ∧ dTo a e ≤ 2000 := by cases a <;> cases e <;> decide
theorem dFrom_rng (a : Bool) : ∀ z ∈ dFrom a, 0 ≤ z ∧ z ≤ 2000 := by cases a <;> decide
theorem dgMoved_new (c : Int) (a e : Bool) (w : World) :
    Calls Try.prog 14 #[.int .i64 c, .int .i64 (dTo a e), .slice (some ⟨w.heap.size, 0, none⟩) (dFrom a).length (dFrom a).length] (w.alloc (.cells ((dFrom a).map (Value.int .i64)).toArray 3)) fun r w' => r = .returned (.int .i64 (dOne c a e)) ∧ w.alloc (.cells ((dFrom a).map (Value.int .i64)).toArray 3) = w' :=
  dgMoved_any c (dTo a e) (dFrom a) _ _ _ _ (rdNewI w (dFrom a) 3) (by cases a <;> decide) (dFrom_rng a) (dTo_rng a e)
set_option maxRecDepth 100000 in
set_option maxHeartbeats 1000000 in
theorem dgOne_any (c v : Int) (a e : Bool) (hv : dOne c a e = v) (w : World) : Calls Try.prog 10 #[.int .i64 c, .bool a, .bool e] w fun r w' => r = .returned (.int .i64 v) ∧ Below w.heap.size w w' := by
  have H0 := dgMoved_new c a e w
  rw [hv] at H0
  have hb := below_new w (.cells ((dFrom a).map (Value.int .i64)).toArray 3)
  have HB := Lib.hid hb
  clear hv hb
  cases a <;> cases e
  all_goals
    have H := Lib.hid H0
    clear H0
    go_enter Try.func10, Try.ntmps10
    go_wp2_with fail
    refine H.out.mono ?_
    rintro r w1 ⟨rfl, hw⟩
    subst hw
    go_wp2
    go_ret
    exact ⟨rfl, HB.out⟩
end Go.Proofs.Ytanngknhbgcobaa
