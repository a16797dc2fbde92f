/- The reference's bytes of one code, its low bits, and a slice of bytes as a string. -/
import Derived.Test.YtoopchpolcfdaaaDoorDecN
import Derived.Laws.BytesArg
namespace Go.Proofs.YtoopchpolcfdaaaDoor
open Go.RowKit

/-- A code's bytes. -/
def oneN (c : Int) : List Int :=
  if sizeN c = 0 then [] else if sizeN c = 1 then [c % 256] else if sizeN c = 2 then [192 + c / 64, 128 + c % 64]
  else if sizeN c = 3 then [224 + c / 4096, 128 + c / 64 % 64, 128 + c % 64] else [240 + c / 262144, 128 + c / 4096 % 64, 128 + c / 64 % 64, 128 + c % 64]
theorem oneN_0 {c : Int} (h : sizeN c = 0) : oneN c = [] := by simp [oneN, h]
theorem oneN_1 {c : Int} (h : sizeN c = 1) : oneN c = [c % 256] := by simp [oneN, h]
theorem oneN_2 {c : Int} (h : sizeN c = 2) : oneN c = [192 + c / 64, 128 + c % 64] := by simp [oneN, h]
theorem oneN_3 {c : Int} (h : sizeN c = 3) : oneN c = [224 + c / 4096, 128 + c / 64 % 64, 128 + c % 64] := by simp [oneN, h]
theorem oneN_4 {c : Int} (h : sizeN c = 4) : oneN c = [240 + c / 262144, 128 + c / 4096 % 64, 128 + c / 64 % 64, 128 + c % 64] := by simp [oneN, h]
theorem oneN_len (c : Int) : ((oneN c).length : Int) = sizeN c := by
  rcases partsN c with ⟨h, h'⟩ | ⟨h, h'⟩ | ⟨h, h'⟩ | ⟨h, h'⟩ | ⟨h, h', h''⟩ | ⟨h, h'⟩
  · rw [oneN_1 (sizeN_ill h h'), sizeN_ill h h']; rfl
  · rw [oneN_0 (sizeN_0 h h'), sizeN_0 h h']; rfl
  · rw [oneN_1 (sizeN_1 h h'), sizeN_1 h h']; rfl
  · rw [oneN_2 (sizeN_2 h h'), sizeN_2 h h']; rfl
  · rw [oneN_3 (sizeN_3 h h' h''), sizeN_3 h h' h'']; rfl
  · rw [oneN_4 (sizeN_4 h h'), sizeN_4 h h']; rfl

theorem low_any (A : Option Addr) (n c i : Nat) (bs : List Int) (w : World) (hr : Rd w 1 A n (bs.map (Value.int .u8))) (hu : ∀ x ∈ bs, Byte8 x) (hi : i ≤ 3) (hm : n ≤ 16777216) :
    Calls Tryd.prog 54 #[.slice A n c, .int .i64 (i : Int)] w fun e w' => e = .returned (.int .i64 (bs.getD i 0 % 64)) ∧ w' = w := by
  have hlen : bs.length = n := by simpa using hr.len1
  have hb := byte_getD hu i
  by_cases h : i < n
  · obtain ⟨ad, rfl, _, hcell⟩ := hr.2 (by omega)
    have hc : w.cell? (ad.add i) = some (.int .u8 (bs.getD i 0)) := hcell i _ (by
      rw [List.getElem?_map, List.getElem?_eq_getElem (by omega), List.getD_eq_getElem?_getD, List.getElem?_eq_getElem (by omega)]; rfl)
    clear hcell
    generalize bs.getD i 0 = y at hb hc ⊢
    obtain ⟨b0, b1⟩ := hb
    clear hlen
    go_enter Tryd.func54, Tryd.ntmps54
    go_wp2
    go_ret
    exact ⟨rfl, rfl⟩
  · have h0 : bs.getD i 0 = 0 := by rw [List.getD_eq_getElem?_getD, List.getElem?_eq_none (by omega)]; rfl
    rw [h0]
    clear hlen hb h0
    go_enter Tryd.func54, Tryd.ntmps54
    go_wp2
    go_ret
    exact ⟨rfl, rfl⟩

/-- A row of the call's own, just built, read as such. -/
theorem own_built (w : World) (cs : List Value) (t : TypeId) (hm : cs.length ≤ maxLen) : (w.alloc (.cells cs.toArray t)).ownsRow w.heap.size t 1 (.slice (some ⟨w.heap.size, 0, none⟩) cs.length cs.length) cs.length cs :=
  ⟨by simp, .inr ⟨w.heap.size, cs.length, cs.toArray, rfl, Nat.le_refl _, heap_alloc_new w _, Nat.le_refl _, hm, by simp, by simp⟩⟩

set_option maxHeartbeats 1000000 in
theorem one_any (c : Int) (w : World) :
    Calls Tryd.prog 48 #[.int .i64 c] w fun e w' => ∃ v, e = .returned v ∧ w'.ownsRow w.heap.size 5 1 v (oneN c).length ((oneN c).map (Value.int .u8)) ∧ Below w.heap.size w w' := by
  rcases partsN c with ⟨h, h'⟩ | ⟨h, h'⟩ | ⟨h, h'⟩ | ⟨h, h'⟩ | ⟨h, h', h''⟩ | ⟨h, h'⟩
  · have HS := sizeN_ill h h'
    have HO := Lib.hid (oneN_1 HS)
    go_enter Tryd.func48, Tryd.ntmps48
    go_wp2_with (go_at_call 37; refine (refSizeN_any c _).mono ?_; rintro e w' ⟨rfl, rfl⟩)
    go_ret
    exact ⟨_, rfl, by rw [HO.out]; exact own_built w [.int .u8 (c % 256)] _ (by unfold maxLen; simp), below_new _ _⟩
  · have HS := sizeN_0 h h'
    have HO := Lib.hid (oneN_0 HS)
    clear h h'
    go_enter Tryd.func48, Tryd.ntmps48
    go_wp2_with (go_at_call 37; refine (refSizeN_any c _).mono ?_; rintro e w' ⟨rfl, rfl⟩)
    go_ret
    exact ⟨_, rfl, by rw [HO.out]; exact ⟨rfl, .inl ⟨rfl, rfl⟩⟩, Below.refl _ _⟩
  · have HS := sizeN_1 h h'
    have HO := Lib.hid (oneN_1 HS)
    go_enter Tryd.func48, Tryd.ntmps48
    go_wp2_with (go_at_call 37; refine (refSizeN_any c _).mono ?_; rintro e w' ⟨rfl, rfl⟩)
    go_ret
    exact ⟨_, rfl, by rw [HO.out]; exact own_built w [.int .u8 (c % 256)] _ (by unfold maxLen; simp), below_new _ _⟩
  · have HS := sizeN_2 h h'
    have HO := Lib.hid (oneN_2 HS)
    go_enter Tryd.func48, Tryd.ntmps48
    go_wp2_with (go_at_call 37; refine (refSizeN_any c _).mono ?_; rintro e w' ⟨rfl, rfl⟩)
    go_ret
    exact ⟨_, rfl, by rw [HO.out]; exact own_built w [.int .u8 (192 + c / 64), .int .u8 (128 + c % 64)] _ (by unfold maxLen; simp), below_new _ _⟩
  · have HS := sizeN_3 h h' h''
    have HO := Lib.hid (oneN_3 HS)
    clear h''
    go_enter Tryd.func48, Tryd.ntmps48
    go_wp2_with (go_at_call 37; refine (refSizeN_any c _).mono ?_; rintro e w' ⟨rfl, rfl⟩)
    go_ret
    exact ⟨_, rfl, by rw [HO.out]; exact own_built w [.int .u8 (224 + c / 4096), .int .u8 (128 + c / 64 % 64), .int .u8 (128 + c % 64)] _ (by unfold maxLen; simp), below_new _ _⟩
  · have HS := sizeN_4 h h'
    have HO := Lib.hid (oneN_4 HS)
    go_enter Tryd.func48, Tryd.ntmps48
    go_wp2_with (go_at_call 37; refine (refSizeN_any c _).mono ?_; rintro e w' ⟨rfl, rfl⟩)
    go_ret
    exact ⟨_, rfl, by rw [HO.out]; exact own_built w [.int .u8 (240 + c / 262144), .int .u8 (128 + c / 4096 % 64), .int .u8 (128 + c / 64 % 64), .int .u8 (128 + c % 64)] _ (by unfold maxLen; simp), below_new _ _⟩

theorem conv_str {P : Program} (src dst e : TypeId) (hs : P.underlying src = some (.slice e)) (he : P.underlying e = some (.int .u8)) (hd : P.underlying dst = some .string) (A : Option Addr) (n c : Nat) (xs : List Int) (w : World) (hr : Rd w 1 A n (xs.map (Value.int .u8))) :
    (convert src dst (.slice A n c)).run P w = .ok (.string (strOfNums xs)) w := by
  rcases A with _ | ad
  · have h0 : n = 0 := by
      rcases Nat.eq_zero_or_pos n with h | h
      · exact h
      · obtain ⟨_, e, _⟩ := hr.2 h
        cases e
    subst h0
    have hx : xs = [] := List.eq_nil_of_length_eq_zero (by simpa using hr.1)
    subst hx
    exact run_convert_bytes_nil w src e hs he 0 c dst hd
  · have hl : (loadCells ad n).run P w = .ok (xs.map (Value.int .u8)).toArray w := by
      have := run_loadCells_list (P := P) w ad (xs.map (Value.int .u8)) (fun j v hj => hr.news j v hj)
      have hn := hr.len1
      rwa [hn] at this
    rw [run_convert_bytes_string w src dst e _ n c hs he hd, run_bytesToString w _ n c xs hl, foldl_push_bytes]
    simp [strOfNums, ByteArray.empty, ByteArray.emptyWithCapacity]
    rfl

theorem Rd.pre {w : World} {A : Option Addr} {n k : Nat} {xs : List Value} (h : Rd w 1 A n xs) (hk : k ≤ n) : Rd w 1 A k (xs.take k) := by
  refine ⟨by have := h.len1; simp; omega, fun h0 => ?_⟩
  obtain ⟨ad, e, hb, hc⟩ := h.2 (by omega)
  refine ⟨ad, e, hb, fun j u hu => hc j u ?_⟩
  have hj : j < k := by
    have := (List.getElem?_eq_some_iff.1 hu).1
    simp at this; omega
  rwa [List.getElem?_take_of_lt hj] at hu
end Go.Proofs.YtoopchpolcfdaaaDoor
