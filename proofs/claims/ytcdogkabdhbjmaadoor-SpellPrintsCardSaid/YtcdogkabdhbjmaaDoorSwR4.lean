/- Options as words, the reference: a text's words. -/
import Derived.Test.YtcdogkabdhbjmaaDoorSwR1
namespace Go.Proofs.YtcdogkabdhbjmaaDoor
open Go.RowKit

theorem strSlice : SliceOf Tryd.prog 37 9 1 16 := SliceOf.mk_ Tryd.underlying37 (z := .string ⟨#[]⟩) (by kernel_rfl) rfl
theorem oneStr (x : ByteArray) : ∀ u ∈ [Value.string x], u.oneCell' = true := by
  intro u hu
  rw [List.mem_singleton] at hu
  subst hu
  rfl
theorem ba_snoc (cur : List UInt8) (s : ByteArray) (k : Nat) (h : k < s.size) : (⟨cur.toArray⟩ : ByteArray) ++ s.extract k (k + 1) = ⟨(cur ++ [s[k]]).toArray⟩ := by
  apply ByteArray.ext
  rw [ByteArray.data_append]
  apply Array.ext'
  simp [ByteArray.data_extract]
  have hk : k < s.data.toList.length := by simpa using h
  rw [List.drop_eq_getElem_cons hk]
  rfl
theorem own_from {w : World} {base : Nat} {e : TypeId} {size n c : Nat} {A : Option Addr} {xs : List Value} (h : w.ownsRow base e size (.slice A n c) n xs) : ∀ ad, A = some ad → base ≤ ad.block := by
  intro ad e
  rcases h.2 with ⟨h0, _⟩ | ⟨g, cap, cur, hv, hbase, _⟩
  · injection h0 with h1
    rw [h1] at e
    cases e
  · injection hv with h1
    rw [h1] at e
    obtain rfl := Option.some.inj e
    exact hbase
/-- What is still to be split at place k. -/
def restL (s : ByteArray) (cur : List UInt8) (k : Nat) : List ByteArray := if k ≤ s.size then splitL cur (s.data.toList.drop k) else []
theorem drop_byte (s : ByteArray) (k : Nat) (h : k < s.size) : s.data.toList.drop k = s[k] :: s.data.toList.drop (k + 1) := by
  have hk : k < s.data.toList.length := by simpa using h
  rw [List.drop_eq_getElem_cons hk]
  rfl
theorem rest_letter (s : ByteArray) (cur : List UInt8) (k : Nat) (h : k < s.size) (hb : ¬ s[k].toNat = 32) : restL s cur k = restL s (cur ++ [s[k]]) (k + 1) := by
  unfold restL
  rw [if_pos (by omega), if_pos (by omega), drop_byte s k h, splitL, if_neg hb]
theorem rest_blank (s : ByteArray) (cur : List UInt8) (k : Nat) (h : k < s.size) (hb : s[k].toNat = 32) : restL s cur k = (if cur = [] then [] else [⟨cur.toArray⟩]) ++ restL s [] (k + 1) := by
  have e1 : restL s cur k = splitL cur (s.data.toList.drop k) := if_pos (by omega)
  have e2 : restL s [] (k + 1) = splitL [] (s.data.toList.drop (k + 1)) := if_pos (by omega)
  rw [e1, e2, drop_byte s k h, splitL, if_pos hb]
  split <;> rfl
theorem rest_end (s : ByteArray) (cur : List UInt8) : restL s cur s.size = (if cur = [] then [] else [⟨cur.toArray⟩]) ++ restL s [] (s.size + 1) := by
  have e1 : restL s cur s.size = splitL cur (s.data.toList.drop s.size) := if_pos (Nat.le_refl _)
  have e2 : restL s [] (s.size + 1) = [] := if_neg (by omega)
  rw [e1, e2, List.drop_eq_nil_of_le (by simp), splitL]
  split <;> rfl
/-- Where the pass stands: the words that are through, and the one that is under way. -/
def SpAt (w : World) (s : ByteArray) (k : Nat) (v : Value) (u : Value) (wr : World) : Prop := ∃ (acc : List ByteArray) (cur : List UInt8),
  wr.ownsRow w.heap.size 9 1 v acc.length (acc.map Value.string) ∧ u = .string ⟨cur.toArray⟩ ∧ acc ++ restL s cur k = wordsF s ∧ acc.length ≤ k ∧ cur.length ≤ k ∧ Below w.heap.size w wr
set_option maxRecDepth 100000 in
set_option maxHeartbeats 8000000 in
theorem refSplit_any (s : ByteArray) (hs : s.size ≤ 100000) (w : World) :
    Calls Tryd.prog 47 #[.string s] w fun e w' => ∃ A c, e = .returned (.slice A (wordsF s).length c) ∧ Rd w' 1 A (wordsF s).length ((wordsF s).map Value.string) ∧ (∀ ad, A = some ad → w.heap.size ≤ ad.block) ∧ Below w.heap.size w w' := by
  go_enter Tryd.func47, Tryd.ntmps47
  go_wp2
  go_loopw [3, 4, 5] (fun v u i wr => ∃ (k : Nat), k ≤ s.size + 1 ∧ i = .int .i64 k ∧ SpAt w s k v u wr) (fun _ _ i _ => s.size + 1 - (intOf i).toNat)
  case atStart =>
    refine ⟨0, by omega, rfl, [], [], World.ownsRow_nil _ _ _ _, rfl, ?_, Nat.le_refl _, Nat.le_refl _, Below.refl _ _⟩
    rw [words_split]
    unfold restL
    rw [if_pos (by omega)]
    rfl
  case round =>
    obtain ⟨k, hk, rfl, acc, cur, hown, rfl, hacc, hal, hcl, hb⟩ := hrel
    obtain ⟨A, c, rfl, hnc⟩ := own_form hown
    have HO := Lib.hid hown
    have HA := Lib.hid hacc
    have HB := Lib.hid hb
    have hbs := hb.size
    clear hown hacc hb
    by_cases hlt : k < s.size
    · have hlen : cur.length + (min (k + 1) s.size - k) ≤ 200000 := by omega
      by_cases hbk : s[k].toNat = 32
      · have h1 : ((s[k].toNat : Int) != 32) = false := by simp; omega
        have HN := Lib.hid (show acc ++ ((if cur = [] then [] else [⟨cur.toArray⟩]) ++ restL s [] (k + 1)) = wordsF s by rw [← rest_blank s cur k hlt hbk]; exact HA.out)
        clear hbk
        by_cases hc : cur = []
        · subst hc
          have HM := Lib.hid (show acc ++ restL s [] (k + 1) = wordsF s from HN.out)
          clear HN
          go_wp2
          go_roundw
          case rel => exact ⟨k + 1, by omega, by go_num, acc, [], HO.out, rfl, HM.out, by omega, by simp, HB.out⟩
          case measure => simp [intOf]; omega
        · have HM := Lib.hid (show acc ++ [⟨cur.toArray⟩] ++ restL s [] (k + 1) = wordsF s by
            have := HN.out
            rw [if_neg hc] at this
            rw [List.append_assoc]
            exact this)
          have hne : (!cur.isEmpty) = true := by simpa using hc
          have hne2 : cur.isEmpty = false := by simpa using hc
          clear HN hc
          go_wp2_with (at_builtin; refine wpList_app rfl _ _ _ rfl strSlice (by decide) _ acc.length _ rfl (HO.out.alloc _) ⟨wr.heap.size, 0, none⟩ 1 1 [.string ⟨cur.toArray⟩] rfl rfl (cells_new wr [_] _) (oneStr _) (by omega) (by unfold maxLen; omega) (Nat.le_trans hbs (by simp)) ?_; intro v1 w1 hown1 hg1 hat1)
          have HW := Lib.hid (show SpAt w s (k + 1) v1 (.string ⟨#[]⟩) w1 from ⟨acc ++ [⟨cur.toArray⟩], [], by simpa using hown1, rfl, HM.out, by simp; omega, by simp, below_app (HB.out.alloc hbs _) hg1 (HO.out.alloc _) (Nat.le_trans hbs (by simp))⟩)
          clear hown1 hg1 hat1
          go_wp2
          go_roundw
          case rel => exact ⟨k + 1, by omega, by go_num, HW.out⟩
          case measure => simp [intOf]; omega
      · have HN := Lib.hid (show acc ++ restL s (cur ++ [s[k]]) (k + 1) = wordsF s by rw [← rest_letter s cur k hlt hbk]; exact HA.out)
        have h1 : ((s[k].toNat : Int) != 32) = true := by simp; omega
        clear hbk
        go_wp2
        go_roundw
        case rel => exact ⟨k + 1, by omega, by go_num, acc, cur ++ [s[k]], HO.out, by rw [ba_snoc cur s k hlt], HN.out, by omega, by simp; omega, HB.out⟩
        case measure => simp [intOf]; omega
    · by_cases he : k = s.size
      · subst he
        have HN := Lib.hid (show acc ++ ((if cur = [] then [] else [⟨cur.toArray⟩]) ++ restL s [] (s.size + 1)) = wordsF s by rw [← rest_end s cur]; exact HA.out)
        by_cases hc : cur = []
        · subst hc
          have HM := Lib.hid (show acc ++ restL s [] (s.size + 1) = wordsF s from HN.out)
          clear HN
          go_wp2
          go_roundw
          case rel => exact ⟨s.size + 1, by omega, by go_num, acc, [], HO.out, rfl, HM.out, by omega, by simp, HB.out⟩
          case measure => simp [intOf]
        · have HM := Lib.hid (show acc ++ [⟨cur.toArray⟩] ++ restL s [] (s.size + 1) = wordsF s by
            have := HN.out
            rw [if_neg hc] at this
            rw [List.append_assoc]
            exact this)
          have hne : (!cur.isEmpty) = true := by simpa using hc
          have hne2 : cur.isEmpty = false := by simpa using hc
          clear HN hc
          go_wp2_with (at_builtin; refine wpList_app rfl _ _ _ rfl strSlice (by decide) _ acc.length _ rfl (HO.out.alloc _) ⟨wr.heap.size, 0, none⟩ 1 1 [.string ⟨cur.toArray⟩] rfl rfl (cells_new wr [_] _) (oneStr _) (by omega) (by unfold maxLen; omega) (Nat.le_trans hbs (by simp)) ?_; intro v1 w1 hown1 hg1 hat1)
          have HW := Lib.hid (show SpAt w s (s.size + 1) v1 (.string ⟨#[]⟩) w1 from ⟨acc ++ [⟨cur.toArray⟩], [], by simpa using hown1, rfl, HM.out, by simp; omega, by simp, below_app (HB.out.alloc hbs _) hg1 (HO.out.alloc _) (Nat.le_trans hbs (by simp))⟩)
          clear hown1 hg1 hat1
          go_wp2
          go_roundw
          case rel => exact ⟨s.size + 1, by omega, by go_num, HW.out⟩
          case measure => simp [intOf]
      · obtain rfl : k = s.size + 1 := by omega
        have HE := Lib.hid (show acc = wordsF s by
          have := HA.out
          unfold restL at this
          rw [if_neg (by omega), List.append_nil] at this
          exact this)
        go_wp2
        go_ret
        rw [← HE.out]
        exact ⟨A, c, rfl, Rd.of_own HO.out, own_from HO.out, HB.out⟩
end Go.Proofs.YtcdogkabdhbjmaaDoor
