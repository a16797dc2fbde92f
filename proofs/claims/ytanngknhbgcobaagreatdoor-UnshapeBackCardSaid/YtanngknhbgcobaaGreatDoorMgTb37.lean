/- Texts of one claim, one behind the other. -/
import Derived.Test.YtanngknhbgcobaaGreatDoorMgTb5
import Derived.Test.YtanngknhbgcobaaGreatDoorMgTb8
import Derived.Test.YtanngknhbgcobaaGreatDoorMgTb20
import Derived.Test.YtanngknhbgcobaaGreatDoorMgTb21
import Derived.Test.YtanngknhbgcobaaGreatDoorMgTb22
import Derived.Test.YtanngknhbgcobaaGreatDoorMgTb29
import Derived.Test.YtanngknhbgcobaaGreatDoorMgTb32
import Derived.Test.YtanngknhbgcobaaGreatDoorMgTb33
import Derived.Test.YtanngknhbgcobaaGreatDoorMgTb35
import Derived.Test.YtanngknhbgcobaaGreatDoorMgTb36
/- unshape's Unshape, walked whole. -/
namespace Go.Proofs.YtanngknhbgcobaaGreatDoor
open Go.RowKit

/-- Clusters and Text of cells, whatever there are. -/
theorem clus_sat (base b gc n : Nat) (S : St) (w : World) (hS : SAt w base b gc n S) (hs : Small n S) (hn : n ≤ 1000) :
    Calls Tryz.prog 31 #[.pointer (some ⟨b, 0, none⟩)] w fun e w' => ((n = 0 ∧ e = .returned (.tuple #[.slice none 0 0, .int .i64 0])) ∨ (0 < n ∧ codesS S = [] ∧ e = .returned (.tuple #[.slice none 0 0, .int .i64 8])) ∨
      (0 < n ∧ codesS S ≠ [] ∧ ∃ (u : Value) (l' : List NC) (R : List RC), e = .returned (.tuple #[u, .int .i64 0]) ∧ R.map Prod.snd = S ∧ FinIs n (codesS S).length (linksR n R []) l' ∧ w'.ownsRow w.heap.size 41 4 u l'.length (cellsC (l'.map NC.cl)))) ∧ Below w.heap.size w w' := by
  obtain ⟨R, hR, hRS⟩ := hS
  have hcl := codes_le hs
  by_cases h0 : n = 0
  · subst h0
    have hc0 := hp_cell (j := 0) hR.hb rfl
    refine (clusters_none _ w (fun W hW => all_any b (some ⟨gc, 0, none⟩) 0 0 W (cell_below hW hc0))).mono ?_
    rintro e w' ⟨rfl, hb⟩
    exact ⟨.inl ⟨rfl, rfl⟩, hb⟩
  · have hn0 : 0 < n := by omega
    have hcn : cntR R [] 0 n = (codesS S).length := by rw [cnt_all hR.len, hRS]
    have hln : lenR R = (codesS S).length := by rw [lenR_all, hRS]
    refine (clusters_cells base b gc n R _ [] w hR hn0 hn (by rw [hln]; simp only [List.length_nil]; omega)).mono ?_
    rintro e w' ⟨hA, hb⟩
    have hE := linksR_err R [] hn0 (by omega) (by rw [hcn]; omega)
    unfold FinAns at hA
    rw [hE, hcn] at hA
    by_cases hz : codesS S = []
    · rw [hz] at hA
      rcases hA with ⟨_, rfl⟩ | ⟨h, _⟩
      · exact ⟨.inr (.inl ⟨hn0, hz, rfl⟩), hb⟩
      · exact absurd h (by decide)
    · have hl0 : (codesS S).length ≠ 0 := fun h => hz (List.length_eq_zero_iff.1 h)
      rw [if_neg hl0] at hA
      rcases hA with ⟨h, _⟩ | ⟨_, _, _, _, _, _, _, v, l', rfl, hF, hown⟩
      · exact absurd rfl h
      · exact ⟨.inr (.inr ⟨hn0, hz, v, l', R, rfl, hRS, by simpa using hF, hown⟩), hb⟩
theorem text_sat (base b gc n : Nat) (S : St) (w : World) (hS : SAt w base b gc n S) (hs : Small n S) (hn0 : 0 < n) (hn : n ≤ 1000) :
    Calls Tryz.prog 17 #[.pointer (some ⟨b, 0, none⟩)] w fun e w' => ∃ v, e = .returned v ∧ w'.ownsRow w.heap.size 3 1 v (codesS S).length ((codesS S).map (Value.int .i64)) ∧ Below w.heap.size w w' := by
  obtain ⟨R, hR, hRS⟩ := hS
  have hcl := codes_le hs
  have hln : lenR R = (codesS S).length := by rw [lenR_all, hRS]
  have h := text_cells base b gc n R _ [] w hR hn0 (by omega) (by rw [hln]; simp only [List.length_nil]; omega)
  rw [told_all hR.len, hRS] at h
  exact h
theorem text_zero (base b gc : Nat) (S : St) (w : World) (hS : SAt w base b gc 0 S) :
    Calls Tryz.prog 17 #[.pointer (some ⟨b, 0, none⟩)] w fun e w' => e = .returned (.slice none 0 0) ∧ Below w.heap.size w w' := by
  obtain ⟨R, hR, hRS⟩ := hS
  have hc0 := hp_cell (j := 0) hR.hb rfl
  exact text_none _ w (fun W hW => all_any b (some ⟨gc, 0, none⟩) 0 0 W (cell_below hW hc0))
set_option maxRecDepth 100000 in
set_option maxHeartbeats 8000000 in
theorem unUnshape_any (A : Option Addr) (n c bp : Nat) (xs : List Int) (d l t g : Int) (b0 b1 b2 b3 b4 b5 b6 b7 b8 b9 : Bool) (w : World) (hK : KindsAt w) (hP : PropAt w bp) (hr : Rd w 1 A n (xs.map (Value.int .i64))) (hx : ∀ x ∈ xs, KeyI x) (hn : n ≤ 1000) :
    Calls Tryz.prog 9 #[.pointer (some ⟨bp, 0, none⟩), .slice A n c, .agg #[.int .i64 d, .int .i64 l, .int .i64 t, .int .i64 g, .bool b0, .bool b1, .bool b2, .bool b3, .bool b4, .bool b5, .bool b6, .bool b7, .bool b8, .bool b9]] w fun e w' => UnAns w w' xs ⟨d, l, t, g, b0, b1, b2, b3, b4, b5, b6, b7, b8, b9⟩ e ∧ Below w.heap.size w w' := by
  have hlen : xs.length = n := by simpa using hr.len1
  obtain ⟨o, ho⟩ : ∃ o : Opt, (⟨d, l, t, g, b0, b1, b2, b3, b4, b5, b6, b7, b8, b9⟩ : Opt) = o := ⟨_, rfl⟩
  obtain ⟨E, hE⟩ : ∃ E, o.err = E := ⟨_, rfl⟩
  have hb0 := below_new w (.cells #[.int .i64 d, .int .i64 l, .int .i64 t, .int .i64 g, .bool b0, .bool b1, .bool b2, .bool b3, .bool b4, .bool b5, .bool b6, .bool b7, .bool b8, .bool b9] 24)
  have HCH := Lib.hid (opCheck_any d l t g b0 b1 b2 b3 b4 b5 b6 b7 b8 b9 E (by rw [ho]; exact hE) _ (hK.below hb0))
  have HBE := Lib.hid (fun W => unBecomes_any d l t g b0 b1 b2 b3 b4 b5 b6 b7 b8 b9 W)
  have hO1 := heap_alloc_new w (.cells #[.int .i64 d, .int .i64 l, .int .i64 t, .int .i64 g, .bool b0, .bool b1, .bool b2, .bool b3, .bool b4, .bool b5, .bool b6, .bool b7, .bool b8, .bool b9] 24)
  have hcel := cells_new w [.int .i64 d, .int .i64 l, .int .i64 t, .int .i64 g, .bool b0, .bool b1, .bool b2, .bool b3, .bool b4, .bool b5, .bool b6, .bool b7, .bool b8, .bool b9] 24
  have HO1 := Lib.hid hO1
  have HB0 := Lib.hid hb0
  have HL := Lib.hid hlen
  have HE := Lib.hid hE
  have HP := Lib.hid hP
  have HR := Lib.hid hr
  have HX := Lib.hid hx
  have HUN := Lib.hid (show unS xs o = spacesS mkB xs l (tlS b4 b5 xs 0 (stOf (becL b1 l) xs)) by rw [← ho]; rfl)
  rw [ho]
  clear hK hP hr hx hlen hE hb0 hO1 ho hcel
  go_enter Tryz.func9, Tryz.ntmps9
  go_wp2_with fail
  refine HCH.out.mono ?_
  rintro e w2 ⟨rfl, hb2⟩
  have hz2 := below_self HB0.out hb2
  have o2 := (hb2.block _ (hp_lt HO1.out)).trans HO1.out
  have hs2 : w.heap.size < w2.heap.size := hp_lt o2
  have HZ2 := Lib.hid hz2
  have HO2 := Lib.hid o2
  clear hb2 hz2
  by_cases hE0 : E = 0
  · subst hE0
    have k0 := hp_cell (j := 0) o2 rfl
    have k1 := hp_cell (j := 1) o2 rfl
    have k2 := hp_cell (j := 2) o2 rfl
    have k3 := hp_cell (j := 3) o2 rfl
    have k4 := hp_cell (j := 4) o2 rfl
    have k5 := hp_cell (j := 5) o2 rfl
    have k6 := hp_cell (j := 6) o2 rfl
    have k7 := hp_cell (j := 7) o2 rfl
    have k8 := hp_cell (j := 8) o2 rfl
    have k9 := hp_cell (j := 9) o2 rfl
    have k10 := hp_cell (j := 10) o2 rfl
    have k11 := hp_cell (j := 11) o2 rfl
    have k12 := hp_cell (j := 12) o2 rfl
    have k13 := hp_cell (j := 13) o2 rfl
    clear o2
    go_wp2_with fail
    refine (HBE.out _).mono ?_
    intro e w3 hBec
    obtain ⟨g', lb, L, rfl, hBc, hLL, hb3⟩ := hBec
    obtain ⟨I, hI⟩ := hBc xs HX.out (by have := HL.out; omega)
    have HI := Lib.hid hI
    have HLL := Lib.hid hLL
    have HZ3 := Lib.hid (below_self HZ2.out hb3)
    have HO3 := Lib.hid ((hb3.block _ (hp_lt HO2.out)).trans HO2.out)
    have HS3 := Lib.hid hb3.size
    clear hBc hI hLL hb3 k0 k1 k2 k3 k4 k5 k6 k7 k8 k9 k10 k11 k12 k13
    go_wp2_with fail
    refine (unBegin_any g' lb _ L I A n c xs w3 HI.out (HR.out.below HZ3.out) (by omega) (fun h0 ad e => ?_) (fun x => (bec_len _ _ x).2)).mono ?_
    · subst e
      obtain ⟨ad', e', hlt, _⟩ := HR.out.2 h0
      cases e'
      have := HZ3.out.size
      exact ⟨by omega, fun hm => by have := HLL.out _ hm; omega⟩
    rintro e w4 ⟨wk, base, b, gc, rfl, hW4, hbb, hgb, hk4⟩
    have HH := Lib.hid (show w.heap.size < b ∧ w.heap.size < gc by have := HS3.out; omega)
    have HZ4 := Lib.hid (hk4.lower HZ3.out HZ3.out.size (fun x hx => by have := HLL.out x hx; omega))
    have o4 := hk4.heap HO3.out (fun hm => by have := HLL.out _ hm; omega)
    have HO4 := Lib.hid o4
    have k8 := hp_cell (j := 8) o4 rfl
    have k9 := hp_cell (j := 9) o4 rfl
    have HW4 := Lib.hid hW4
    clear hW4 hbb hgb hk4 o4 HLL HI HBE HCH
    go_wp2_with fail
    refine (unTails_any wk base b gc n c A xs b4 b5 _ w4 HW4.out (by omega)).mono ?_
    rintro e w5 ⟨rfl, hW5, hk5⟩
    have HZ5 := Lib.hid (hk5.lower HZ4.out HZ4.out.size (by have := HH.out; simp; omega))
    have o5 := hk5.heap HO4.out (by have := HH.out; simp; omega)
    have HO5 := Lib.hid o5
    have j1 := hp_cell (j := 1) o5 rfl
    have HW5 := Lib.hid hW5
    clear hW5 hk5 o5 k8 k9
    go_wp2_with fail
    refine (unSpaces_any wk base b gc n c bp A xs l _ w w5 HW5.out HP.out HZ5.out (by have := HH.out; omega) (by omega)).mono ?_
    rintro e w6 ⟨hA, hk6⟩
    have HZ6 := Lib.hid (hk6.lower HZ5.out HZ5.out.size (by have := HH.out; simp; omega))
    rw [← HUN.out] at hA
    clear hk6 j1
    rcases hA with ⟨hnone, rfl⟩ | ⟨S', hsome, rfl, hW6⟩
    · have HNO := Lib.hid hnone
      clear hnone
      go_wp2_with fail
      refine bodyPost_ret (v := .tuple #[.slice none 0 0, .slice none 0 0, .int .i64 9]) (by simp [results, go_sem]) rfl ?_
      exact ⟨.inr (.inl ⟨HE.out, HNO.out, rfl⟩), HZ6.out⟩
    · have c6 := hW6.c0
      have HSO := Lib.hid hsome
      have HW6 := Lib.hid hW6
      have hsm := unS_small hsome
      rw [HL.out] at hsm
      have HSM := Lib.hid hsm
      clear hsome hW6 hsm
      go_wp2_with fail
      refine (clus_sat base b gc n S' w6 HW6.out.sat HSM.out hn).mono ?_
      rintro e w7 ⟨hC, hb7⟩
      have HZ7 := Lib.hid (below_self HZ6.out hb7)
      have HW7 := Lib.hid (HW6.out.low hb7)
      have c7 := cell_below hb7 c6
      clear hb7 c6
      rcases hC with ⟨h0, rfl⟩ | ⟨h0, hnil, rfl⟩ | ⟨h0, hne, u, l', R, rfl, hRS, hF, hown⟩
      · have hS0 : SAt w7 base b gc 0 S' := by have := HW7.out.sat; rwa [h0] at this
        have HTX := Lib.hid (text_zero base b gc S' w7 hS0)
        have H0 := Lib.hid h0
        clear hS0 h0
        go_wp2_with fail
        refine HTX.out.mono ?_
        rintro e w8 ⟨rfl, hb8⟩
        have HZ8 := Lib.hid (below_self HZ7.out hb8)
        clear hb8
        go_wp2_with fail
        refine bodyPost_ret (v := .tuple #[.slice none 0 0, .slice none 0 0, .int .i64 0]) (by simp [results, go_sem]) rfl ?_
        exact ⟨.inr (.inr ⟨HE.out, S', HSO.out, .inl ⟨by rw [HL.out]; exact H0.out, rfl⟩⟩), HZ8.out⟩
      · have H0 := Lib.hid (And.intro h0 hnil)
        clear h0 hnil
        go_wp2_with fail
        refine bodyPost_ret (v := .tuple #[.slice none 0 0, .slice none 0 0, .int .i64 8]) (by simp [results, go_sem]) rfl ?_
        exact ⟨.inr (.inr ⟨HE.out, S', HSO.out, .inr (.inl ⟨by rw [HL.out]; exact H0.out.1, H0.out.2, rfl⟩)⟩), HZ7.out⟩
      · have H0 := Lib.hid (And.intro h0 hne)
        have HF := Lib.hid hF
        have HRS := Lib.hid hRS
        have HOU := Lib.hid (own_base hown HZ6.out.size)
        have HTX := Lib.hid (text_sat base b gc n S' w7 HW7.out.sat HSM.out h0 hn)
        clear h0 hne hF hRS hown
        go_wp2_with fail
        refine HTX.out.mono ?_
        rintro e w8 ⟨v, rfl, hown8, hb8⟩
        have HZ8 := Lib.hid (below_self HZ7.out hb8)
        have HOU8 := Lib.hid (own_below HOU.out hb8)
        have HO8 := Lib.hid (own_base hown8 HZ7.out.size)
        clear hb8 hown8
        go_wp2_with fail
        refine bodyPost_ret (v := .tuple #[v, u, .int .i64 0]) (by simp [results, go_sem]) rfl ?_
        refine ⟨.inr (.inr ⟨HE.out, S', HSO.out, .inr (.inr ⟨by rw [HL.out]; exact H0.out.1, H0.out.2, v, u, l', R, rfl, HRS.out, ?_, HO8.out, HOU8.out⟩)⟩), HZ8.out⟩
        rw [HL.out]
        exact HF.out
  · have gE : (E != 0) = true := by simp [hE0]
    have HNE := Lib.hid hE0
    clear hE0 o2
    go_wp2_with fail
    refine bodyPost_ret (v := .tuple #[.slice none 0 0, .slice none 0 0, .int .i64 E]) (by simp [results, go_sem]) rfl ?_
    exact ⟨.inl ⟨by rw [HE.out]; exact HNE.out, by rw [HE.out]⟩, HZ2.out⟩
end Go.Proofs.YtanngknhbgcobaaGreatDoor
/- naskhlaw18's awake, walked. -/
namespace Go.Proofs.YtanngknhbgcobaaGreatDoor
open Go.RowKit

def oAw : Opt := ⟨0, 2, 0, 0, false, true, false, false, false, false, false, false, false, false⟩
theorem aw_err : oAw.err = 0 := by decide
theorem aw_two : unS [65275, 32] oAw = some [(2, [1604]), (0, [1575])] := by decide +kernel
theorem aw_one : unS [65275] oAw = none := by decide +kernel
theorem aw_key : ∀ x ∈ ([65275, 32] : List Int), KeyI x := by unfold KeyI; decide
theorem aw_key1 : ∀ x ∈ ([65275] : List Int), KeyI x := by unfold KeyI; decide
theorem aw_len {R : List RC} {l' : List NC} (hR : R.map Prod.snd = [(2, [1604]), (0, [1575])]) (hF : FinIs 2 2 (linksR 2 R []) l') : l'.length = 1 := by
  have hl : R.length = 2 := by have := congrArg List.length hR; simpa using this
  match R, hl with
  | [(v0, e0, c0), (v1, e1, c1)], _ =>
    simp only [List.map_cons, List.map_nil, List.cons.injEq, Prod.mk.injEq, and_true] at hR
    obtain ⟨⟨rfl, rfl⟩, rfl, rfl⟩ := hR
    have hj : joinedTo [(v0, (2 : Int), [1604]), (v1, 0, [1575])] 2 = [(0, 2)] := rfl
    have hk : linksR 2 [(v0, (2 : Int), [1604]), (v1, 0, [1575])] [] = [((0, 2), (0, 2))] := by
      unfold linksR
      rw [hj]
      rfl
    rw [hk] at hF
    have hfit : fitB 2 2 [((0, 2), (0, 2))] = true := rfl
    have hh := finIs_holds hF hfit (x := ((0, 2), (0, 2))) (by simp)
    have ht := (hF.2 (by decide)).tiles
    obtain ⟨c, hc, hin⟩ := List.any_eq_true.1 hh
    obtain ⟨y, hy, rfl⟩ := List.mem_map.1 hc
    unfold insB at hin
    rw [Bool.and_eq_true, Bool.and_eq_true, Bool.and_eq_true] at hin
    obtain ⟨⟨⟨i1, i2⟩, _⟩, _⟩ := hin
    have i1 := of_decide_eq_true i1
    have i2 := of_decide_eq_true i2
    change (y.a : Int) ≤ 0 at i1
    change (2 : Int) ≤ (y.b : Int) at i2
    match l', ht with
    | [], ht => cases hy
    | [x], _ => rfl
    | x :: z :: l, ⟨h1, h2, h3⟩ =>
      obtain ⟨h4, h5, h6⟩ := h3
      rcases List.mem_cons.1 hy with rfl | hy
      · have := Tiles.le h6
        omega
      · have := (Tiles.from_ (show Tiles x.b (z :: l) 2 from ⟨h4, h5, h6⟩) y hy).1
        omega
/-- What Unshape answers of the two codes, and of the one. -/
def Aw2 (W W' : World) (e : Ending) : Prop := Below W.heap.size W W' ∧ ∃ v u l', e = .returned (.tuple #[v, u, .int .i64 0]) ∧ W'.ownsRow W.heap.size 3 1 v 2 (([1604, 1575] : List Int).map (Value.int .i64)) ∧ W'.ownsRow W.heap.size 41 4 u 1 l'
def Aw1 (W W' : World) (e : Ending) : Prop := Below W.heap.size W W' ∧ e = .returned (.tuple #[.slice none 0 0, .slice none 0 0, .int .i64 9])
theorem aw2_any (w W : World) (hK : KindsAt w) (hb : Below w.heap.size w W) (b : Nat) (A : Option Addr) (c : Nat) (hP : PropAt W b) (hr : Rd W 1 A 2 (([65275, 32] : List Int).map (Value.int .i64))) :
    Calls Tryz.prog 9 #[.pointer (some ⟨b, 0, none⟩), .slice A 2 c, .agg #[.int .i64 0, .int .i64 2, .int .i64 0, .int .i64 0, .bool false, .bool true, .bool false, .bool false, .bool false, .bool false, .bool false, .bool false, .bool false, .bool false]] W fun e W' => Aw2 W W' e := by
  refine (unUnshape_any A 2 c b [65275, 32] 0 2 0 0 false true false false false false false false false false W (hK.below hb) hP hr aw_key (by omega)).mono ?_
  rintro e W' ⟨h, hb'⟩
  rcases h with ⟨h, _⟩ | ⟨_, h, _⟩ | ⟨_, S, hS, h⟩
  · exact absurd aw_err h
  · have h' : unS [65275, 32] oAw = none := h
    rw [aw_two] at h'
    cases h'
  · have h' : unS [65275, 32] oAw = some S := hS
    rw [aw_two] at h'
    obtain rfl := Option.some.inj h'
    rcases h with ⟨h, _⟩ | ⟨_, h, _⟩ | ⟨_, _, v, u, l', R, rfl, hR, hF, ho1, ho2⟩
    · cases h
    · cases h
    · refine ⟨hb', v, u, cellsC (l'.map NC.cl), rfl, ho1, ?_⟩
      have := aw_len hR hF
      rw [this] at ho2
      exact ho2
theorem aw1_any (w W : World) (hK : KindsAt w) (hb : Below w.heap.size w W) (b : Nat) (A : Option Addr) (c : Nat) (hP : PropAt W b) (hr : Rd W 1 A 1 (([65275] : List Int).map (Value.int .i64))) :
    Calls Tryz.prog 9 #[.pointer (some ⟨b, 0, none⟩), .slice A 1 c, .agg #[.int .i64 0, .int .i64 2, .int .i64 0, .int .i64 0, .bool false, .bool true, .bool false, .bool false, .bool false, .bool false, .bool false, .bool false, .bool false, .bool false]] W fun e W' => Aw1 W W' e := by
  refine (unUnshape_any A 1 c b [65275] 0 2 0 0 false true false false false false false false false false W (hK.below hb) hP hr aw_key1 (by omega)).mono ?_
  rintro e W' ⟨h, hb'⟩
  rcases h with ⟨h, _⟩ | ⟨_, _, rfl⟩ | ⟨_, S, hS, _⟩
  · exact absurd aw_err h
  · exact ⟨hb', rfl⟩
  · have h' : unS [65275] oAw = some S := hS
    rw [aw_one] at h'
    cases h'
theorem rdOneA (w : World) (a : Int) (t : TypeId) : Rd (w.alloc (.cells #[.int .i64 a] t)) 1 (some ⟨w.heap.size, 0, none⟩) 1 (([a] : List Int).map (Value.int .i64)) := Rd.new_ w [.int .i64 a] t
theorem rdTwoA (w : World) (a b : Int) (t : TypeId) : Rd (w.alloc (.cells #[.int .i64 a, .int .i64 b] t)) 1 (some ⟨w.heap.size, 0, none⟩) 2 (([a, b] : List Int).map (Value.int .i64)) := Rd.new_ w [.int .i64 a, .int .i64 b] t
set_option maxRecDepth 100000 in
set_option maxHeartbeats 8000000 in
theorem awakeUn_any (w : World) (hK : KindsAt w) : Calls Tryz.prog 7 #[] w fun e w' => e = .returned (.bool true) ∧ Below w.heap.size w w' := by
  obtain ⟨W0, hW0⟩ : ∃ W0, w.alloc (.cells #[.int .i64 0, .int .i64 2, .int .i64 0, .int .i64 0, .bool false, .bool true, .bool false, .bool false, .bool false, .bool false, .bool false, .bool false, .bool false, .bool false] 24) = W0 := ⟨_, rfl⟩
  have hcel : ∀ (j : Nat) (u : Value), ([Value.int .i64 0, Value.int .i64 2, Value.int .i64 0, Value.int .i64 0, Value.bool false, Value.bool true, Value.bool false, Value.bool false, Value.bool false, Value.bool false, Value.bool false, Value.bool false, Value.bool false, Value.bool false] : List Value)[j]? = some u → W0.cell? ((⟨w.heap.size, 0, none⟩ : Addr).add j) = some u := by rw [← hW0]; exact cells_new w _ _
  have c0 : W0.cell? ⟨w.heap.size, 0, none⟩ = some (.int .i64 0) := by have := hcel 0 _ rfl; rwa [addNew] at this
  have c1 : W0.cell? ⟨w.heap.size, 1, none⟩ = some (.int .i64 2) := by have := hcel 1 _ rfl; rwa [addNew] at this
  have c2 : W0.cell? ⟨w.heap.size, 2, none⟩ = some (.int .i64 0) := by have := hcel 2 _ rfl; rwa [addNew] at this
  have c3 : W0.cell? ⟨w.heap.size, 3, none⟩ = some (.int .i64 0) := by have := hcel 3 _ rfl; rwa [addNew] at this
  have c4 : W0.cell? ⟨w.heap.size, 4, none⟩ = some (.bool false) := by have := hcel 4 _ rfl; rwa [addNew] at this
  have c5 : W0.cell? ⟨w.heap.size, 5, none⟩ = some (.bool true) := by have := hcel 5 _ rfl; rwa [addNew] at this
  have c6 : W0.cell? ⟨w.heap.size, 6, none⟩ = some (.bool false) := by have := hcel 6 _ rfl; rwa [addNew] at this
  have c7 : W0.cell? ⟨w.heap.size, 7, none⟩ = some (.bool false) := by have := hcel 7 _ rfl; rwa [addNew] at this
  have c8 : W0.cell? ⟨w.heap.size, 8, none⟩ = some (.bool false) := by have := hcel 8 _ rfl; rwa [addNew] at this
  have c9 : W0.cell? ⟨w.heap.size, 9, none⟩ = some (.bool false) := by have := hcel 9 _ rfl; rwa [addNew] at this
  have c10 : W0.cell? ⟨w.heap.size, 10, none⟩ = some (.bool false) := by have := hcel 10 _ rfl; rwa [addNew] at this
  have c11 : W0.cell? ⟨w.heap.size, 11, none⟩ = some (.bool false) := by have := hcel 11 _ rfl; rwa [addNew] at this
  have c12 : W0.cell? ⟨w.heap.size, 12, none⟩ = some (.bool false) := by have := hcel 12 _ rfl; rwa [addNew] at this
  have c13 : W0.cell? ⟨w.heap.size, 13, none⟩ = some (.bool false) := by have := hcel 13 _ rfl; rwa [addNew] at this
  have hb0 : Below w.heap.size w W0 := by rw [← hW0]; exact below_new _ _
  have HB0 := Lib.hid hb0
  have HK := Lib.hid (hK.below hb0)
  have HC := Lib.hid (show W0.cell? ⟨w.heap.size, 0, none⟩ = some (.int .i64 0) ∧ W0.cell? ⟨w.heap.size, 1, none⟩ = some (.int .i64 2) ∧ W0.cell? ⟨w.heap.size, 2, none⟩ = some (.int .i64 0) ∧ W0.cell? ⟨w.heap.size, 3, none⟩ = some (.int .i64 0) ∧ W0.cell? ⟨w.heap.size, 4, none⟩ = some (.bool false) ∧ W0.cell? ⟨w.heap.size, 5, none⟩ = some (.bool true) ∧ W0.cell? ⟨w.heap.size, 6, none⟩ = some (.bool false) ∧ W0.cell? ⟨w.heap.size, 7, none⟩ = some (.bool false) ∧ W0.cell? ⟨w.heap.size, 8, none⟩ = some (.bool false) ∧ W0.cell? ⟨w.heap.size, 9, none⟩ = some (.bool false) ∧ W0.cell? ⟨w.heap.size, 10, none⟩ = some (.bool false) ∧ W0.cell? ⟨w.heap.size, 11, none⟩ = some (.bool false) ∧ W0.cell? ⟨w.heap.size, 12, none⟩ = some (.bool false) ∧ W0.cell? ⟨w.heap.size, 13, none⟩ = some (.bool false) ∧ Below W0.heap.size W0 W0 from ⟨c0, c1, c2, c3, c4, c5, c6, c7, c8, c9, c10, c11, c12, c13, Below.refl _ _⟩)
  have HU2 := Lib.hid (fun W b A hP hr => fun (hb : Below W0.heap.size W0 W) => aw2_any W0 W HK.out hb b A 2 hP hr)
  have HW0 := Lib.hid hW0
  clear hcel hb0 hK hW0
  go_enter Tryz.func7, Tryz.ntmps7
  go_wp2_with fail
  try simp only [HW0.out]
  go_cut [2, 3, 4] (fun t l e wx => ∃ V cv U cu, t = .slice V 2 cv ∧ l = .slice U 1 cu ∧ e = .int .i64 0 ∧ Rd wx 1 V 2 (([1604, 1575] : List Int).map (Value.int .i64)) ∧ Below W0.heap.size W0 wx)
  case first =>
    go_region_held3 (fun w' => w'.cell? ⟨w.heap.size, 0, none⟩ = some (.int .i64 0) ∧ w'.cell? ⟨w.heap.size, 1, none⟩ = some (.int .i64 2) ∧ w'.cell? ⟨w.heap.size, 2, none⟩ = some (.int .i64 0) ∧ w'.cell? ⟨w.heap.size, 3, none⟩ = some (.int .i64 0) ∧ w'.cell? ⟨w.heap.size, 4, none⟩ = some (.bool false) ∧ w'.cell? ⟨w.heap.size, 5, none⟩ = some (.bool true) ∧ w'.cell? ⟨w.heap.size, 6, none⟩ = some (.bool false) ∧ w'.cell? ⟨w.heap.size, 7, none⟩ = some (.bool false) ∧ w'.cell? ⟨w.heap.size, 8, none⟩ = some (.bool false) ∧ w'.cell? ⟨w.heap.size, 9, none⟩ = some (.bool false) ∧ w'.cell? ⟨w.heap.size, 10, none⟩ = some (.bool false) ∧ w'.cell? ⟨w.heap.size, 11, none⟩ = some (.bool false) ∧ w'.cell? ⟨w.heap.size, 12, none⟩ = some (.bool false) ∧ w'.cell? ⟨w.heap.size, 13, none⟩ = some (.bool false) ∧ Below W0.heap.size W0 w')
      (first
        | exact HC.out
        | exact s14_on HC.out (Below.refl _ _).drew
        | exact s14_on (by assumption) h1
        | exact s14_on HC.out h1
        | exact s14_on (s14_on HC.out (Below.refl _ _).drew) h1
        | exact s14_on (by assumption) (below_new _ _)
        | exact s14_on HC.out (below_new _ _)
        | exact s14_on (s14_on HC.out (Below.refl _ _).drew) (below_new _ _)
        | exact s14_on (by assumption) h2
        | exact s14_on (s14_on (by assumption) (below_new _ _)) h2
        | fail)
      (first
        | (go_at_call 8; with_reducible refine (prNew_any _).mono ?_; rintro e w7 ⟨⟨b1, rfl, hP1⟩, h1⟩)
        | (go_at_call 9; refine (HU2.out _ _ _ (by first | exact hP1 | exact hP1.below (below_new _ _)) (by first | exact rdTwoA _ 65275 32 3 | exact Rd.below (w := (W0.alloc (.cells #[.int .i64 65275, .int .i64 32] 3)).drew) (rdTwoA W0 65275 32 3) h1 | exact Rd.below (w := W0.alloc (.cells #[.int .i64 65275, .int .i64 32] 3)) (rdTwoA W0 65275 32 3) h1) (by assumption : _ ∧ _ ∧ _ ∧ _ ∧ _ ∧ _ ∧ _ ∧ _ ∧ _ ∧ _ ∧ _ ∧ _ ∧ _ ∧ _ ∧ Below W0.heap.size W0 _).2.2.2.2.2.2.2.2.2.2.2.2.2.2).mono ?_; rintro e w8 ⟨h2, v8, u8, l8, rfl, hv8, hu8⟩)
        | fail)
    all_goals (
      have HB8 := Lib.hid (by assumption : _ ∧ _ ∧ _ ∧ _ ∧ _ ∧ _ ∧ _ ∧ _ ∧ _ ∧ _ ∧ _ ∧ _ ∧ _ ∧ _ ∧ Below W0.heap.size W0 w8).2.2.2.2.2.2.2.2.2.2.2.2.2.2
      have HV8 := Lib.hid hv8
      have HU8 := Lib.hid hu8
      obtain ⟨V, cv, rfl, _⟩ := own_form hv8
      obtain ⟨U, cu, rfl, _⟩ := own_form hu8
      clear hv8 hu8 h1 h2 hP1)
    · go_wp2_with fail
      go_meet
      case rel => exact ⟨V, cv, U, cu, rfl, rfl, rfl, Rd.of_own HV8.out, HB8.out⟩
    · go_wp2_with fail
      go_meet
      case rel => exact ⟨V, cv, U, cu, rfl, rfl, rfl, Rd.of_own HV8.out, HB8.out⟩
  case rest =>
    obtain ⟨V, cv, U, cu, rfl, rfl, rfl, hrd, hb⟩ := hcut
    have HRD := Lib.hid hrd
    clear c0 c1 c2 c3 c4 c5 c6 c7 c8 c9 c10 c11 c12 c13
    obtain ⟨c0, c1, c2, c3, c4, c5, c6, c7, c8, c9, c10, c11, c12, c13, _⟩ := s14_on HC.out hb
    have HBW := Lib.hid hb
    obtain ⟨W3, hW3⟩ : ∃ W3, wc = W3 := ⟨_, rfl⟩
    subst hW3
    have HC3 := Lib.hid (show wc.cell? ⟨w.heap.size, 0, none⟩ = some (.int .i64 0) ∧ wc.cell? ⟨w.heap.size, 1, none⟩ = some (.int .i64 2) ∧ wc.cell? ⟨w.heap.size, 2, none⟩ = some (.int .i64 0) ∧ wc.cell? ⟨w.heap.size, 3, none⟩ = some (.int .i64 0) ∧ wc.cell? ⟨w.heap.size, 4, none⟩ = some (.bool false) ∧ wc.cell? ⟨w.heap.size, 5, none⟩ = some (.bool true) ∧ wc.cell? ⟨w.heap.size, 6, none⟩ = some (.bool false) ∧ wc.cell? ⟨w.heap.size, 7, none⟩ = some (.bool false) ∧ wc.cell? ⟨w.heap.size, 8, none⟩ = some (.bool false) ∧ wc.cell? ⟨w.heap.size, 9, none⟩ = some (.bool false) ∧ wc.cell? ⟨w.heap.size, 10, none⟩ = some (.bool false) ∧ wc.cell? ⟨w.heap.size, 11, none⟩ = some (.bool false) ∧ wc.cell? ⟨w.heap.size, 12, none⟩ = some (.bool false) ∧ wc.cell? ⟨w.heap.size, 13, none⟩ = some (.bool false) ∧ Below wc.heap.size wc wc from ⟨c0, c1, c2, c3, c4, c5, c6, c7, c8, c9, c10, c11, c12, c13, Below.refl _ _⟩)
    have HU1 := Lib.hid (fun W b A hP hr => fun (hb : Below wc.heap.size wc W) => aw1_any wc W (HK.out.below HBW.out) hb b A 1 hP hr)
    clear hrd hb HC HU2 HW0
    go_upto_region 3 with fail
    go_cut [5, 6, 7] (fun t l e wx => e = .int .i64 9 ∧ Below wc.heap.size wc wx)
    case first =>
      go_region_held3 (fun w' => w'.cell? ⟨w.heap.size, 0, none⟩ = some (.int .i64 0) ∧ w'.cell? ⟨w.heap.size, 1, none⟩ = some (.int .i64 2) ∧ w'.cell? ⟨w.heap.size, 2, none⟩ = some (.int .i64 0) ∧ w'.cell? ⟨w.heap.size, 3, none⟩ = some (.int .i64 0) ∧ w'.cell? ⟨w.heap.size, 4, none⟩ = some (.bool false) ∧ w'.cell? ⟨w.heap.size, 5, none⟩ = some (.bool true) ∧ w'.cell? ⟨w.heap.size, 6, none⟩ = some (.bool false) ∧ w'.cell? ⟨w.heap.size, 7, none⟩ = some (.bool false) ∧ w'.cell? ⟨w.heap.size, 8, none⟩ = some (.bool false) ∧ w'.cell? ⟨w.heap.size, 9, none⟩ = some (.bool false) ∧ w'.cell? ⟨w.heap.size, 10, none⟩ = some (.bool false) ∧ w'.cell? ⟨w.heap.size, 11, none⟩ = some (.bool false) ∧ w'.cell? ⟨w.heap.size, 12, none⟩ = some (.bool false) ∧ w'.cell? ⟨w.heap.size, 13, none⟩ = some (.bool false) ∧ Below wc.heap.size wc w')
        (first
          | exact HC3.out
          | exact s14_on HC3.out (Below.refl _ _).drew
          | exact s14_on (by assumption) h1
          | exact s14_on HC3.out h1
          | exact s14_on (s14_on HC3.out (Below.refl _ _).drew) h1
          | exact s14_on (by assumption) (below_new _ _)
          | exact s14_on HC3.out (below_new _ _)
          | exact s14_on (s14_on HC3.out (Below.refl _ _).drew) (below_new _ _)
          | exact s14_on (by assumption) h2
          | exact s14_on (s14_on (by assumption) (below_new _ _)) h2
          | fail)
        (first
          | (go_at_call 8; with_reducible refine (prNew_any _).mono ?_; rintro e w7 ⟨⟨b1, rfl, hP1⟩, h1⟩)
          | (go_at_call 9; refine (HU1.out _ _ _ (by first | exact hP1 | exact hP1.below (below_new _ _)) (by first | exact rdOneA _ 65275 3 | exact Rd.below (w := (wc.alloc (.cells #[.int .i64 65275] 3)).drew) (rdOneA wc 65275 3) h1 | exact Rd.below (w := wc.alloc (.cells #[.int .i64 65275] 3)) (rdOneA wc 65275 3) h1) (by assumption : _ ∧ _ ∧ _ ∧ _ ∧ _ ∧ _ ∧ _ ∧ _ ∧ _ ∧ _ ∧ _ ∧ _ ∧ _ ∧ _ ∧ Below wc.heap.size wc _).2.2.2.2.2.2.2.2.2.2.2.2.2.2).mono ?_; rintro e w8 ⟨h2, rfl⟩)
          | fail)
      all_goals (
        have HB8 := Lib.hid (by assumption : _ ∧ _ ∧ _ ∧ _ ∧ _ ∧ _ ∧ _ ∧ _ ∧ _ ∧ _ ∧ _ ∧ _ ∧ _ ∧ _ ∧ Below wc.heap.size wc w8).2.2.2.2.2.2.2.2.2.2.2.2.2.2
        clear h1 h2 hP1)
      · go_wp2_with fail
        go_meet
        case rel => exact ⟨rfl, HB8.out⟩
      · go_wp2_with fail
        go_meet
        case rel => exact ⟨rfl, HB8.out⟩
    case rest =>
      obtain ⟨rfl, hb⟩ := hcut
      have HR := Lib.hid (HRD.out.below hb)
      have HZ := Lib.hid (below_self HB0.out (below_self HBW.out (below_self hb (below_new wc (.cells #[.int .i64 1604, .int .i64 1575] 3)))))
      have HEQ := Lib.hid (equalInt_b V (some ⟨wc.heap.size, 0, none⟩) 2 2 cv 2 [1604, 1575] [1604, 1575] (wc.alloc (.cells #[.int .i64 1604, .int .i64 1575] 3)) (HR.out.alloc _) (rdTwoA wc 1604 1575 3) (by unfold maxLen; omega) (by unfold maxLen; omega))
      rw [decide_eq_true rfl] at HEQ
      clear hb HRD HU1 HC3
      go_wp2_with (go_at_call 13; refine HEQ.out.mono ?_; rintro e w9 ⟨rfl, hb9⟩)
      go_ret
      exact ⟨rfl, below_self HZ.out hb9⟩
end Go.Proofs.YtanngknhbgcobaaGreatDoor
/- naskhlaw18.UnshapeTwice, walked. -/
namespace Go.Proofs.YtanngknhbgcobaaGreatDoor
open Go.RowKit

theorem tl_none (xs : List Int) : ∀ (k : Nat) (S : St), tlS false false xs k S = S := by
  have hb : ∀ a b, (backF a b false false).2 = false := fun a b => by
    unfold backF
    rw [if_neg (by simp), if_neg (by simp)]
  induction xs with
  | nil => intro k S; rfl
  | cons a xs ih =>
    intro k S
    cases xs with
    | nil => rfl
    | cons b xs =>
      rw [tlS, if_neg (by rw [hb]; simp)]
      exact ih (k + 1) S
theorem twice_err {o : Opt} (h : o.err = 0) (hb : o.b1 = true) : ({ o with l := 1, b2 := false, b4 := false, b5 := false } : Opt).err = 0 := by
  obtain ⟨d, l, t, g, b0, b1, b2, b3, b4, b5, b6, b7, b8, b9⟩ := o
  simp only at hb
  subst hb
  have hm := Opt.err_zero h
  unfold Opt.err at h ⊢
  rw [if_pos hm] at h
  have hod : Opt.odd ⟨d, l, t, g, b0, true, b2, b3, b4, b5, b6, b7, b8, b9⟩ = false := by
    cases ho : Opt.odd ⟨d, l, t, g, b0, true, b2, b3, b4, b5, b6, b7, b8, b9⟩ with
    | false => rfl
    | true => rw [ho] at h; simp at h
  have hm' : Opt.may ⟨d, 1, t, g, b0, true, false, b3, false, false, b6, b7, b8, b9⟩ = true := by
    unfold Opt.may at hm ⊢
    simp only [decide_eq_true_eq] at hm ⊢
    omega
  rw [if_pos hm']
  have ho' : Opt.odd ⟨d, 1, t, g, b0, true, false, b3, false, false, b6, b7, b8, b9⟩ = false := by
    unfold Opt.odd at hod ⊢
    simp only [Bool.or_eq_false_iff] at hod ⊢
    simp
    simp at hod
    exact ⟨hod.1.2, hod.2⟩
  rw [ho']
  rfl
theorem unS_all (xs : List Int) (o : Opt) (hb : o.b1 = true) (hl : o.l = 1) (h4 : o.b4 = false) (h5 : o.b5 = false) : unS xs o = some (stOf backL xs) := by
  unfold unS
  rw [hb, hl, h4, h5, tl_none]
  have : becL true 1 = backL := funext fun c => by unfold becL; rw [if_neg (by simp), if_neg (by omega)]
  rw [this]
  rfl
theorem codes_of (f : Int → List Int) (xs : List Int) : codesS (stOf f xs) = xs.flatMap f := by
  unfold codesS stOf
  rw [List.flatMap_map]
theorem back_all_again (xs : List Int) : (xs.flatMap backL).flatMap backL = xs.flatMap backL := by
  rw [List.flatMap_assoc]
  congr 1
  funext c
  have : ∀ l : List Int, (∀ d ∈ l, backL d = [d]) → l.flatMap backL = l := fun l => by
    induction l with
    | nil => intro _; rfl
    | cons d l ih =>
      intro h
      rw [List.flatMap_cons, h d (by simp), ih fun e he => h e (by simp [he])]
      rfl
  exact this _ fun d hd => back_again hd
theorem forms_fit : (allForms.all fun c => (backL c).all fun d => decide (0 ≤ d ∧ d ≤ 1114111)) = true := by decide +kernel
theorem back_key {c d : Int} (hc : KeyI c) (hd : d ∈ backL c) : KeyI d := by
  by_cases h : c ∈ allForms
  · have h1 := List.all_eq_true.1 forms_fit c h
    have h2 := List.all_eq_true.1 h1 d hd
    have h3 := of_decide_eq_true h2
    unfold KeyI
    simp [Lit.wf, IntKind.min, IntKind.max, IntKind.signed, IntKind.bits]
    omega
  · obtain ⟨e1, e2, e3, e4⟩ := part_none h
    have hb : backL c = [c] := by unfold backL partF; rw [e1, e2, e3, e4]; rfl
    rw [hb, List.mem_singleton] at hd
    subst hd
    exact hc
/-- What Unshape answers, all forms taken back. -/
def TwAns (W W' : World) (ts : List Int) (e : Ending) : Prop :=
  Below W.heap.size W W' ∧ ∃ (V : Option Addr) (cv : Nat) (u : Value), e = .returned (.tuple #[.slice V ts.length cv, u, .int .i64 0]) ∧ Rd W' 1 V ts.length (ts.map (Value.int .i64))
theorem tw_of {W W' : World} {xs : List Int} {o : Opt} {e : Ending} (h : UnAns W W' xs o e) (hw : Below W.heap.size W W') (he : o.err = 0) (hb : o.b1 = true) (hl : o.l = 1) (h4 : o.b4 = false) (h5 : o.b5 = false) : TwAns W W' (xs.flatMap backL) e := by
  have hu := unS_all xs o hb hl h4 h5
  refine ⟨hw, ?_⟩
  rcases h with ⟨h, _⟩ | ⟨_, h, _⟩ | ⟨_, S, hS, h⟩
  · exact absurd he h
  · rw [hu] at h; cases h
  · rw [hu] at hS
    obtain rfl := Option.some.inj hS
    rw [ClAns, codes_of] at h
    rcases h with ⟨h0, rfl⟩ | ⟨h0, hn, _⟩ | ⟨_, _, v, u, l', R, rfl, _, _, ho, _⟩
    · obtain rfl := List.length_eq_zero_iff.1 h0
      exact ⟨none, 0, _, rfl, Rd.nil_⟩
    · match xs, h0 with
      | c :: xs, _ =>
        rw [List.flatMap_cons, List.append_eq_nil_iff] at hn
        have := (back_len c).1
        rw [hn.1] at this
        simp at this
    · obtain ⟨V, cv, rfl, _⟩ := own_form ho
      exact ⟨V, cv, u, rfl, Rd.of_own ho⟩
set_option maxRecDepth 100000 in
set_option maxHeartbeats 8000000 in
theorem unshapeTwice_any (A : Option Addr) (n c : Nat) (xs : List Int) (d l t g : Int) (b0 b1 b2 b3 b4 b5 b6 b7 b8 b9 : Bool) (w : World) (hK : KindsAt w) (hr : Rd w 1 A n (xs.map (Value.int .i64))) (hx : ∀ x ∈ xs, KeyI x) (hn : n ≤ maxLen) :
    Calls Tryz.prog 6 #[.slice A n c, .agg #[.int .i64 d, .int .i64 l, .int .i64 t, .int .i64 g, .bool b0, .bool b1, .bool b2, .bool b3, .bool b4, .bool b5, .bool b6, .bool b7, .bool b8, .bool b9]] w fun e w' => e = .returned (.bool true) ∧ Below w.heap.size w w' := by
  have hlen : xs.length = n := by simpa using hr.len1
  unfold maxLen at hn
  obtain ⟨W0, hW0⟩ : ∃ W0, w.alloc (.cells #[.int .i64 d, .int .i64 l, .int .i64 t, .int .i64 g, .bool b0, .bool b1, .bool b2, .bool b3, .bool b4, .bool b5, .bool b6, .bool b7, .bool b8, .bool b9] 24) = W0 := ⟨_, rfl⟩
  have hO0 : OptAt W0 w.heap.size ⟨d, l, t, g, b0, b1, b2, b3, b4, b5, b6, b7, b8, b9⟩ := by rw [← hW0]; exact OptAt.new_ w ⟨d, l, t, g, b0, b1, b2, b3, b4, b5, b6, b7, b8, b9⟩ 24
  have hb0 : Below w.heap.size w W0 := by rw [← hW0]; exact below_new _ _
  obtain ⟨R, hR⟩ : ∃ R, lettersF ⟨d, l, t, g, b0, b1, b2, b3, b4, b5, b6, b7, b8, b9⟩ = R := ⟨_, rfl⟩
  have he : R.err = 0 := by rw [← hR]; exact letters_err _
  have hb1 : R.b1 = true := by rw [← hR]; exact letters_b1 _
  have hte := twice_err he hb1
  obtain ⟨r0, r1, r2, r3, r4, r5, r6, r7, r8, r9, r10, r11, r12, r13⟩ := R
  simp only at hb1 hte
  subst hb1
  have HB0 := Lib.hid hb0
  have HK0 := Lib.hid (hK.below hb0)
  have HL := Lib.hid hlen
  have HW0 := Lib.hid hW0
  have HO0 := Lib.hid hO0
  have HLT := Lib.hid (fun W => lettersO_any d l t g b0 b1 b2 b3 b4 b5 b6 b7 b8 b9 ⟨r0, r1, r2, r3, r4, true, r6, r7, r8, r9, r10, r11, r12, r13⟩ hR W)
  have HKW := Lib.hid hK
  have HRW := Lib.hid hr
  have HX := Lib.hid hx
  have HTE := Lib.hid hte
  have c0 : W0.cell? ⟨w.heap.size, 0, none⟩ = some (.int .i64 d) := hO0.1 0 _ rfl
  have c1 : W0.cell? ⟨w.heap.size, 1, none⟩ = some (.int .i64 l) := hO0.1 1 _ rfl
  have c2 : W0.cell? ⟨w.heap.size, 2, none⟩ = some (.int .i64 t) := hO0.1 2 _ rfl
  have c3 : W0.cell? ⟨w.heap.size, 3, none⟩ = some (.int .i64 g) := hO0.1 3 _ rfl
  have c4 : W0.cell? ⟨w.heap.size, 4, none⟩ = some (.bool b0) := hO0.1 4 _ rfl
  have c5 : W0.cell? ⟨w.heap.size, 5, none⟩ = some (.bool b1) := hO0.1 5 _ rfl
  have c6 : W0.cell? ⟨w.heap.size, 6, none⟩ = some (.bool b2) := hO0.1 6 _ rfl
  have c7 : W0.cell? ⟨w.heap.size, 7, none⟩ = some (.bool b3) := hO0.1 7 _ rfl
  have c8 : W0.cell? ⟨w.heap.size, 8, none⟩ = some (.bool b4) := hO0.1 8 _ rfl
  have c9 : W0.cell? ⟨w.heap.size, 9, none⟩ = some (.bool b5) := hO0.1 9 _ rfl
  have c10 : W0.cell? ⟨w.heap.size, 10, none⟩ = some (.bool b6) := hO0.1 10 _ rfl
  have c11 : W0.cell? ⟨w.heap.size, 11, none⟩ = some (.bool b7) := hO0.1 11 _ rfl
  have c12 : W0.cell? ⟨w.heap.size, 12, none⟩ = some (.bool b8) := hO0.1 12 _ rfl
  have c13 : W0.cell? ⟨w.heap.size, 13, none⟩ = some (.bool b9) := hO0.1 13 _ rfl
  clear hO0 hb0 hK hr hx hW0 hR he hlen hte
  go_enter Tryz.func6, Tryz.ntmps6
  go_wp2_with fail
  try simp only [HW0.out]
  refine (HLT.out _).mono ?_
  rintro e w3 ⟨rfl, hb3⟩
  have hO3 := HO0.out.below hb3
  have hB3 := below_self HB0.out hb3
  clear hb3 c0 c1 c2 c3 c4 c5 c6 c7 c8 c9 c10 c11 c12 c13
  obtain ⟨B, hB⟩ : ∃ B, w.heap.size = B := ⟨_, rfl⟩
  have HBE := Lib.hid hB
  have HO3 := Lib.hid hO3
  have HB3 := Lib.hid hB3
  simp only [Opt.val, Opt.cells]
  have c0 : w3.cell? ⟨w.heap.size, 0, none⟩ = some (.int .i64 d) := HO3.out.1 0 _ rfl
  have c1 : w3.cell? ⟨w.heap.size, 1, none⟩ = some (.int .i64 l) := HO3.out.1 1 _ rfl
  have c2 : w3.cell? ⟨w.heap.size, 2, none⟩ = some (.int .i64 t) := HO3.out.1 2 _ rfl
  have c3 : w3.cell? ⟨w.heap.size, 3, none⟩ = some (.int .i64 g) := HO3.out.1 3 _ rfl
  have c4 : w3.cell? ⟨w.heap.size, 4, none⟩ = some (.bool b0) := HO3.out.1 4 _ rfl
  have c5 : w3.cell? ⟨w.heap.size, 5, none⟩ = some (.bool b1) := HO3.out.1 5 _ rfl
  have c6 : w3.cell? ⟨w.heap.size, 6, none⟩ = some (.bool b2) := HO3.out.1 6 _ rfl
  have c7 : w3.cell? ⟨w.heap.size, 7, none⟩ = some (.bool b3) := HO3.out.1 7 _ rfl
  have c8 : w3.cell? ⟨w.heap.size, 8, none⟩ = some (.bool b4) := HO3.out.1 8 _ rfl
  have c9 : w3.cell? ⟨w.heap.size, 9, none⟩ = some (.bool b5) := HO3.out.1 9 _ rfl
  have c10 : w3.cell? ⟨w.heap.size, 10, none⟩ = some (.bool b6) := HO3.out.1 10 _ rfl
  have c11 : w3.cell? ⟨w.heap.size, 11, none⟩ = some (.bool b7) := HO3.out.1 11 _ rfl
  have c12 : w3.cell? ⟨w.heap.size, 12, none⟩ = some (.bool b8) := HO3.out.1 12 _ rfl
  have c13 : w3.cell? ⟨w.heap.size, 13, none⟩ = some (.bool b9) := HO3.out.1 13 _ rfl
  have f0 := HO3.out.2 0
  have f1 := HO3.out.2 1
  have f2 := HO3.out.2 2
  have f3 := HO3.out.2 3
  have f4 := HO3.out.2 4
  have f5 := HO3.out.2 5
  have f6 := HO3.out.2 6
  have f7 := HO3.out.2 7
  have f8 := HO3.out.2 8
  have f9 := HO3.out.2 9
  have f10 := HO3.out.2 10
  have f11 := HO3.out.2 11
  have f12 := HO3.out.2 12
  have f13 := HO3.out.2 13
  try simp only [hB]
  simp only [hB] at c0 c1 c2 c3 c4 c5 c6 c7 c8 c9 c10 c11 c12 c13 f0 f1 f2 f3 f4 f5 f6 f7 f8 f9 f10 f11 f12 f13
  clear hB hO3 hB3
  go_upto_region 2 with fail
  obtain ⟨W4, hW4⟩ : ∃ W4, stored w3 B ⟨r0, r1, r2, r3, r4, true, r6, r7, r8, r9, r10, r11, r12, r13⟩ = W4 := ⟨_, rfl⟩
  have HO4 := Lib.hid (show OptAt W4 B ⟨r0, r1, r2, r3, r4, true, r6, r7, r8, r9, r10, r11, r12, r13⟩ by rw [← hW4, ← HBE.out]; exact HO3.out.stored _)
  have HK4 := Lib.hid (show Kept w3 W4 [B] by rw [← hW4]; exact kept_stored _ _ _)
  unfold stored at hW4
  simp only at hW4
  rw [hW4]
  clear c0 c1 c2 c3 c4 c5 c6 c7 c8 c9 c10 c11 c12 c13 f0 f1 f2 f3 f4 f5 f6 f7 f8 f9 f10 f11 f12 f13 hW4
  have c1 : W4.cell? ⟨B, 1, none⟩ = some (.int .i64 r1) := HO4.out.1 1 _ rfl
  have f1 := HO4.out.2 1
  have c6 : W4.cell? ⟨B, 6, none⟩ = some (.bool r6) := HO4.out.1 6 _ rfl
  have f6 := HO4.out.2 6
  have c8 : W4.cell? ⟨B, 8, none⟩ = some (.bool r8) := HO4.out.1 8 _ rfl
  have f8 := HO4.out.2 8
  have c9 : W4.cell? ⟨B, 9, none⟩ = some (.bool r9) := HO4.out.1 9 _ rfl
  have f9 := HO4.out.2 9
  go_upto_region 3 with fail
  obtain ⟨W5, hW5⟩ : ∃ W5, (((W4.setCell ⟨B, 1, none⟩ (.int .i64 1)).setCell ⟨B, 6, none⟩ (.bool false)).setCell ⟨B, 8, none⟩ (.bool false)).setCell ⟨B, 9, none⟩ (.bool false) = W5 := ⟨_, rfl⟩
  have HO5 := Lib.hid (show OptAt W5 B ⟨r0, 1, r2, r3, r4, true, false, r7, false, false, r10, r11, r12, r13⟩ by rw [← hW5]; exact (((HO4.out.set1 1).setF2 false).setF4 false).setF5 false)
  have HK5 := Lib.hid (show Kept w3 W5 [B] by rw [← hW5]; exact (((HK4.out.set (.inl (by simp)) _ _).set (.inl (by simp)) _ _).set (.inl (by simp)) _ _).set (.inl (by simp)) _ _)
  rw [hW5]
  clear c1 f1 c6 f6 c8 f8 c9 f9 hW5
  have HB5 := Lib.hid (show Below w.heap.size w W5 from HK5.out.lower HB3.out HB3.out.size (by rw [HBE.out]; simp))
  have c0 : W5.cell? ⟨B, 0, none⟩ = some (.int .i64 r0) := HO5.out.1 0 _ rfl
  have c1 : W5.cell? ⟨B, 1, none⟩ = some (.int .i64 1) := HO5.out.1 1 _ rfl
  have c2 : W5.cell? ⟨B, 2, none⟩ = some (.int .i64 r2) := HO5.out.1 2 _ rfl
  have c3 : W5.cell? ⟨B, 3, none⟩ = some (.int .i64 r3) := HO5.out.1 3 _ rfl
  have c4 : W5.cell? ⟨B, 4, none⟩ = some (.bool r4) := HO5.out.1 4 _ rfl
  have c5 : W5.cell? ⟨B, 5, none⟩ = some (.bool true) := HO5.out.1 5 _ rfl
  have c6 : W5.cell? ⟨B, 6, none⟩ = some (.bool false) := HO5.out.1 6 _ rfl
  have c7 : W5.cell? ⟨B, 7, none⟩ = some (.bool r7) := HO5.out.1 7 _ rfl
  have c8 : W5.cell? ⟨B, 8, none⟩ = some (.bool false) := HO5.out.1 8 _ rfl
  have c9 : W5.cell? ⟨B, 9, none⟩ = some (.bool false) := HO5.out.1 9 _ rfl
  have c10 : W5.cell? ⟨B, 10, none⟩ = some (.bool r10) := HO5.out.1 10 _ rfl
  have c11 : W5.cell? ⟨B, 11, none⟩ = some (.bool r11) := HO5.out.1 11 _ rfl
  have c12 : W5.cell? ⟨B, 12, none⟩ = some (.bool r12) := HO5.out.1 12 _ rfl
  have c13 : W5.cell? ⟨B, 13, none⟩ = some (.bool r13) := HO5.out.1 13 _ rfl
  by_cases hs : n ≤ 60
  · go_wp2_with fail
    refine (prNew_any _).mono ?_
    rintro e w6 ⟨⟨bp, rfl, hP⟩, hb6⟩
    have HP := Lib.hid hP
    have HO6 := Lib.hid (HO5.out.below hb6)
    have HB6 := Lib.hid (below_self HB5.out hb6)
    have HU := Lib.hid (fun W (hb : Below w6.heap.size w6 W) A n c ys (hr : Rd W 1 A n (ys.map (Value.int .i64))) (hx : ∀ x ∈ ys, KeyI x) (hn : n ≤ 1000) =>
      (unUnshape_any A n c bp ys r0 1 r2 r3 r4 true false r7 false false r10 r11 r12 r13 W ((HKW.out.below HB6.out).below hb) (hP.below hb) hr hx hn).mono fun e W' h => tw_of h.1 h.2 HTE.out rfl rfl rfl rfl)
    clear hP hb6 c0 c1 c2 c3 c4 c5 c6 c7 c8 c9 c10 c11 c12 c13
    have c0 : w6.cell? ⟨B, 0, none⟩ = some (.int .i64 r0) := HO6.out.1 0 _ rfl
    have c1 : w6.cell? ⟨B, 1, none⟩ = some (.int .i64 1) := HO6.out.1 1 _ rfl
    have c2 : w6.cell? ⟨B, 2, none⟩ = some (.int .i64 r2) := HO6.out.1 2 _ rfl
    have c3 : w6.cell? ⟨B, 3, none⟩ = some (.int .i64 r3) := HO6.out.1 3 _ rfl
    have c4 : w6.cell? ⟨B, 4, none⟩ = some (.bool r4) := HO6.out.1 4 _ rfl
    have c5 : w6.cell? ⟨B, 5, none⟩ = some (.bool true) := HO6.out.1 5 _ rfl
    have c6 : w6.cell? ⟨B, 6, none⟩ = some (.bool false) := HO6.out.1 6 _ rfl
    have c7 : w6.cell? ⟨B, 7, none⟩ = some (.bool r7) := HO6.out.1 7 _ rfl
    have c8 : w6.cell? ⟨B, 8, none⟩ = some (.bool false) := HO6.out.1 8 _ rfl
    have c9 : w6.cell? ⟨B, 9, none⟩ = some (.bool false) := HO6.out.1 9 _ rfl
    have c10 : w6.cell? ⟨B, 10, none⟩ = some (.bool r10) := HO6.out.1 10 _ rfl
    have c11 : w6.cell? ⟨B, 11, none⟩ = some (.bool r11) := HO6.out.1 11 _ rfl
    have c12 : w6.cell? ⟨B, 12, none⟩ = some (.bool r12) := HO6.out.1 12 _ rfl
    have c13 : w6.cell? ⟨B, 13, none⟩ = some (.bool r13) := HO6.out.1 13 _ rfl
    obtain ⟨ts, hts⟩ : ∃ ts, xs.flatMap backL = ts := ⟨_, rfl⟩
    have hagain : ts.flatMap backL = ts := by rw [← hts]; exact back_all_again xs
    have htk : ∀ x ∈ ts, KeyI x := fun x hm => by
      rw [← hts, List.mem_flatMap] at hm
      obtain ⟨c, hc, hd⟩ := hm
      exact back_key (HX.out c hc) hd
    have htp : ∀ x ∈ ts, preF x = true → x = 65139 := fun x hm hp => by
      rw [← hts, List.mem_flatMap] at hm
      obtain ⟨c, _, hd⟩ := hm
      exact back_pre hd hp
    have htl : ts.length ≤ 1000 := by
      have h1 := codes_le (Small.of backL xs fun c => (back_len c).2)
      rw [codes_of, hts, HL.out] at h1
      omega
    have hu1 := HU.out w6 (Below.refl _ _) A n c xs (HRW.out.below HB6.out) HX.out (by omega)
    rw [hts] at hu1
    have HU1 := Lib.hid hu1
    have HTP := Lib.hid htp
    have HTL := Lib.hid htl
    have HTK := Lib.hid htk
    have HAG := Lib.hid hagain
    clear hu1 htp htl htk hagain hts
    go_wp2_with fail
    refine HU1.out.mono ?_
    rintro e w7 ⟨hb7, V, cv, u7, rfl, hrd7⟩
    have HO7 := Lib.hid (HO6.out.below hb7)
    have HB7 := Lib.hid (below_self HB6.out hb7)
    have hu2 := HU.out w7 hb7 V ts.length cv ts hrd7 HTK.out HTL.out
    rw [HAG.out] at hu2
    have HU2 := Lib.hid hu2
    have HR7 := Lib.hid hrd7
    clear hu2 hb7 hrd7 c0 c1 c2 c3 c4 c5 c6 c7 c8 c9 c10 c11 c12 c13
    have c0 : w7.cell? ⟨B, 0, none⟩ = some (.int .i64 r0) := HO7.out.1 0 _ rfl
    have c1 : w7.cell? ⟨B, 1, none⟩ = some (.int .i64 1) := HO7.out.1 1 _ rfl
    have c2 : w7.cell? ⟨B, 2, none⟩ = some (.int .i64 r2) := HO7.out.1 2 _ rfl
    have c3 : w7.cell? ⟨B, 3, none⟩ = some (.int .i64 r3) := HO7.out.1 3 _ rfl
    have c4 : w7.cell? ⟨B, 4, none⟩ = some (.bool r4) := HO7.out.1 4 _ rfl
    have c5 : w7.cell? ⟨B, 5, none⟩ = some (.bool true) := HO7.out.1 5 _ rfl
    have c6 : w7.cell? ⟨B, 6, none⟩ = some (.bool false) := HO7.out.1 6 _ rfl
    have c7 : w7.cell? ⟨B, 7, none⟩ = some (.bool r7) := HO7.out.1 7 _ rfl
    have c8 : w7.cell? ⟨B, 8, none⟩ = some (.bool false) := HO7.out.1 8 _ rfl
    have c9 : w7.cell? ⟨B, 9, none⟩ = some (.bool false) := HO7.out.1 9 _ rfl
    have c10 : w7.cell? ⟨B, 10, none⟩ = some (.bool r10) := HO7.out.1 10 _ rfl
    have c11 : w7.cell? ⟨B, 11, none⟩ = some (.bool r11) := HO7.out.1 11 _ rfl
    have c12 : w7.cell? ⟨B, 12, none⟩ = some (.bool r12) := HO7.out.1 12 _ rfl
    have c13 : w7.cell? ⟨B, 13, none⟩ = some (.bool r13) := HO7.out.1 13 _ rfl
    go_wp2_with fail
    refine HU2.out.mono ?_
    rintro e w8 ⟨hb8, V2, cv2, u8, rfl, hrd8⟩
    have HB8 := Lib.hid (below_self HB7.out hb8)
    have HR8 := Lib.hid (HR7.out.below hb8)
    have HS8 := Lib.hid hrd8
    have htl := HTL.out
    clear hb8 hrd8 c0 c1 c2 c3 c4 c5 c6 c7 c8 c9 c10 c11 c12 c13
    go_wp2_with fail
    go_loopw [43] (fun i wr => ∃ k : Nat, k ≤ ts.length ∧ i = .int .i64 (k : Int) ∧ Below w8.heap.size w8 wr) (fun i _ => ts.length - (intOf i).toNat)
    case atStart => exact ⟨0, Nat.zero_le _, rfl, Below.refl _ _⟩
    case round =>
      obtain ⟨k, hk, rfl, hb⟩ := hrel
      have HBR := Lib.hid hb
      by_cases hlt : k < ts.length
      · obtain ⟨x, hxk⟩ : ∃ x, ts[k]? = some x := ⟨_, List.getElem?_eq_getElem hlt⟩
        obtain ⟨ad, rfl, _, hc⟩ := (HR8.out.below hb).at_ hlt
        have cx : wr.cell? (ad.add k) = some (.int .i64 x) := hc _ (by rw [List.getElem?_map, hxk]; rfl)
        obtain ⟨v, hv⟩ : ∃ v, preF x = v := ⟨_, rfl⟩
        have HF := Lib.hid (fmPresented_any x v hv wr)
        have hp := HTP.out x (List.mem_of_getElem? hxk)
        clear hxk hc hb
        cases v with
        | true =>
          obtain rfl : x = 65139 := hp hv
          clear hv hp
          go_wp2_with (go_at_call 24; refine HF.out.mono ?_; rintro e w9 ⟨rfl, hb9⟩)
          go_roundw
          case rel => exact ⟨k + 1, by omega, by go_num, below_self HBR.out hb9⟩
          case measure => simp [intOf]; omega
        | false =>
          clear hv hp
          go_wp2_with (go_at_call 24; refine HF.out.mono ?_; rintro e w9 ⟨rfl, hb9⟩)
          go_roundw
          case rel => exact ⟨k + 1, by omega, by go_num, below_self HBR.out hb9⟩
          case measure => simp [intOf]; omega
      · have HEQ := Lib.hid (equalInt_b V V2 ts.length ts.length cv cv2 ts ts wr (HR8.out.below hb) (HS8.out.below hb) (by unfold maxLen; omega) (by unfold maxLen; omega))
        rw [decide_eq_true rfl] at HEQ
        have HAW := Lib.hid (fun W (h : Below wr.heap.size wr W) => awakeUn_any W ((HKW.out.below (below_self HB8.out HBR.out)).below h))
        clear hb
        go_wp2_with (first
          | (go_at_call 13; refine HEQ.out.mono ?_; rintro e w9 ⟨rfl, hb9⟩)
          | (go_at_call 7; refine (HAW.out _ hb9).mono ?_; rintro e w10 ⟨rfl, hb10⟩)
          | fail)
        go_ret
        exact ⟨rfl, below_self HB8.out (below_self HBR.out (below_self hb9 hb10))⟩
  · clear c0 c1 c2 c3 c4 c5 c6 c7 c8 c9 c10 c11 c12 c13
    have HAW := Lib.hid (awakeUn_any W5 (HKW.out.below HB5.out))
    go_wp2_with fail
    refine HAW.out.mono ?_
    rintro e w6 ⟨rfl, hb6⟩
    have HB7 := Lib.hid (below_self HB5.out hb6)
    clear hb6
    go_wp2
    go_ret
    exact ⟨rfl, HB7.out⟩
end Go.Proofs.YtanngknhbgcobaaGreatDoor
/- unshape.Back and naskhlaw18.UnshapeBack, walked. -/
namespace Go.Proofs.YtanngknhbgcobaaGreatDoor
open Go.RowKit

theorem told_one {R : List RC} {i : Nat} {r : RC} (h : R[i]? = some r) : toldR R [] i (i + 1) = r.2.2 := by
  unfold toldR partR codesR
  rw [show i + 1 - i = 1 by omega, dropCons h]
  simp
theorem text_any (base b gc n : Nat) (S : St) (w : World) (hS : SAt w base b gc n S) (hs : Small n S) (hn : n ≤ 1000) :
    Calls Tryz.prog 17 #[.pointer (some ⟨b, 0, none⟩)] w fun e w' => (∃ V cv, e = .returned (.slice V (codesS S).length cv) ∧ Rd w' 1 V (codesS S).length ((codesS S).map (Value.int .i64))) ∧ Below w.heap.size w w' := by
  by_cases h0 : n = 0
  · subst h0
    have hz : codesS S = [] := by
      have := hs.1
      rw [List.length_eq_zero_iff.1 this]; rfl
    refine (text_zero base b gc S w hS).mono ?_
    rintro e w' ⟨rfl, hb⟩
    rw [hz]
    exact ⟨⟨none, 0, rfl, Rd.nil_⟩, hb⟩
  · refine (text_sat base b gc n S w hS hs (by omega) hn).mono ?_
    rintro e w' ⟨v, rfl, hown, hb⟩
    obtain ⟨V, cv, rfl, _⟩ := own_form hown
    exact ⟨⟨V, cv, rfl, Rd.of_own hown⟩, hb⟩
theorem at_any (base b gc n i : Nat) (S : St) (s : Int × List Int) (w : World) (hS : SAt w base b gc n S) (hs : Small n S) (hi : S[i]? = some s) (hn : n ≤ 1000) :
    Calls Tryz.prog 20 #[.pointer (some ⟨b, 0, none⟩), .int .i64 (i : Int)] w fun e w' => (∃ V cv, e = .returned (.slice V s.2.length cv) ∧ Rd w' 1 V s.2.length (s.2.map (Value.int .i64))) ∧ Below w.heap.size w w' := by
  have hil := (List.getElem?_eq_some_iff.1 hi).1
  rw [hs.1] at hil
  obtain ⟨R, hR, hRS⟩ := hS
  obtain ⟨r, hri⟩ : ∃ r, R[i]? = some r := ⟨_, List.getElem?_eq_getElem (by rw [hR.len]; exact hil)⟩
  have hrs : r.2 = s := by
    rw [← hRS, List.getElem?_map, hri] at hi
    exact Option.some.inj hi
  have hcl := codes_le hs
  have hln : lenR R = (codesS S).length := by rw [lenR_all, hRS]
  refine (at_cells base b gc n i R _ [] w hR hil (by omega) (by rw [hln]; simp only [List.length_nil]; omega)).mono ?_
  rintro e w' ⟨v, rfl, hown, hb⟩
  rw [told_one hri, hrs] at hown
  obtain ⟨V, cv, rfl, _⟩ := own_form hown
  exact ⟨⟨V, cv, rfl, Rd.of_own hown⟩, hb⟩
set_option maxRecDepth 100000 in
set_option maxHeartbeats 2000000 in
theorem unBack_any (A : Option Addr) (n c : Nat) (xs : List Int) (w : World) (hr : Rd w 1 A n (xs.map (Value.int .i64))) (hx : ∀ x ∈ xs, KeyI x) (hn : n ≤ 1000) :
    Calls Tryz.prog 15 #[.slice A n c] w fun e w' => (∃ base b gc, e = .returned (.tuple #[.pointer (some ⟨b, 0, none⟩), .int .i64 0]) ∧ SAt w' base b gc n (stOf backL xs)) ∧ Below w.heap.size w w' := by
  have hlen : xs.length = n := by simpa using hr.len1
  have HL := Lib.hid hlen
  have HR := Lib.hid hr
  have HX := Lib.hid hx
  clear hlen hr hx
  go_enter Tryz.func15, Tryz.ntmps15
  go_wp2_with fail
  refine (unParts_any _).mono ?_
  rintro e w1 ⟨rfl, hP, hb1⟩
  have HI := Lib.hid (becomer_parts hP (by omega) backL (fun _ => rfl) xs HX.out (by rw [HL.out]; omega))
  have HB1 := Lib.hid hb1
  clear hP hb1
  go_wp2_with fail
  refine (unBegin_any _ _ _ _ _ A n c xs w1 HI.out (HR.out.below HB1.out) (by omega) (fun h0 ad e => ?_) (fun x => (back_len x).2)).mono ?_
  · subst e
    obtain ⟨ad', e', hlt, _⟩ := HR.out.2 h0
    cases e'
    have := HB1.out.size
    exact ⟨by omega, by simp; omega⟩
  rintro e w4 ⟨wk, base, b, gc, rfl, hW4, hbb, hgb, hk4⟩
  have HW4 := Lib.hid hW4
  have c4 := hW4.c0
  have HB4 := Lib.hid (hk4.lower HB1.out HB1.out.size (by simp))
  clear hW4 hbb hgb hk4 HI
  go_wp2_with fail
  refine bodyPost_ret (v := .tuple #[.pointer (some ⟨b, 0, none⟩), .int .i64 0]) (by simp [results, go_sem]) rfl ?_
  exact ⟨⟨base, b, gc, rfl, HW4.out.sat⟩, HB4.out⟩
set_option maxRecDepth 100000 in
set_option maxHeartbeats 8000000 in
theorem unshapeBack_any (A : Option Addr) (n c : Nat) (xs : List Int) (w : World) (hK : KindsAt w) (hr : Rd w 1 A n (xs.map (Value.int .i64))) (hx : ∀ x ∈ xs, KeyI x) (hn : n ≤ maxLen) :
    Calls Tryz.prog 4 #[.slice A n c] w fun e w' => e = .returned (.bool true) ∧ Below w.heap.size w w' := by
  have hlen : xs.length = n := by simpa using hr.len1
  unfold maxLen at hn
  by_cases hs : n ≤ 200
  · have hsm : Small n (stOf backL xs) := by rw [← hlen]; exact Small.of backL xs fun x => (back_len x).2
    obtain ⟨ts, hts⟩ : ∃ ts, xs.flatMap backL = ts := ⟨_, rfl⟩
    have hcs : codesS (stOf backL xs) = ts := by rw [← hts]; unfold codesS stOf; rw [List.flatMap_map]
    have hfl : (xs.map backL).flatten = ts := by rw [← hts, List.flatMap_def]
    have htl : ts.length ≤ 1000 := by have := codes_le hsm; rw [hcs] at this; omega
    have htp : ∀ x ∈ ts, preF x = true → x = 65139 := fun x hm hp => by
      rw [← hts, List.mem_flatMap] at hm
      obtain ⟨c, _, hd⟩ := hm
      exact back_pre hd hp
    have HL := Lib.hid hlen
    have HR := Lib.hid hr
    have HK := Lib.hid hK
    have HU := Lib.hid (unBack_any A n c xs w hr hx (by omega))
    have HTP := Lib.hid htp
    have HSM := Lib.hid hsm
    have HCS := Lib.hid hcs
    have HFL := Lib.hid hfl
    clear hlen hr hx hK htp hsm hcs hfl hts
    go_enter Tryz.func4, Tryz.ntmps4
    go_wp2_with fail
    refine HU.out.mono ?_
    rintro e w1 ⟨⟨base, b, gc, rfl, hS⟩, hb1⟩
    have HS1 := Lib.hid hS
    have HB1 := Lib.hid hb1
    have HRF := Lib.hid (rfBack_any A n c xs w1 (HR.out.below hb1) (by omega))
    clear hS hb1 HU
    go_wp2_with fail
    refine HRF.out.mono ?_
    rintro e w2 ⟨⟨base2, b2, gl2, Q2, rfl, hC2⟩, hb2⟩
    have HC2 := Lib.hid hC2
    have HS2 := Lib.hid (HS1.out.low hb2)
    have HB2 := Lib.hid (below_self HB1.out hb2)
    have hT := text_any base b gc n _ w2 HS2.out HSM.out (by omega)
    rw [HCS.out] at hT
    have HT2 := Lib.hid hT
    clear hC2 hb2 hT HRF HS1 HB1
    go_wp2_with fail
    refine HT2.out.mono ?_
    rintro e w3 ⟨⟨V, cv, rfl, hV⟩, hb3⟩
    have HV := Lib.hid hV
    have HC3 := Lib.hid (HC2.out.low hb3)
    have HS3 := Lib.hid (HS2.out.low hb3)
    have HB3 := Lib.hid (below_self HB2.out hb3)
    have hT := rcText_any base2 b2 gl2 n Q2 _ _ w3 HC3.out (by omega) (by rw [HFL.out]; omega)
    rw [HFL.out] at hT
    have HT3 := Lib.hid hT
    clear hV hb3 hT HT2 HC2 HS2 HB2
    go_wp2_with fail
    refine HT3.out.mono ?_
    rintro e w4 ⟨⟨v4, rfl, hown4⟩, hb4⟩
    obtain ⟨V4, cv4, rfl, _⟩ := own_form hown4
    have HEQ := Lib.hid (equalInt_b V V4 ts.length ts.length cv cv4 ts ts w4 (HV.out.below hb4) (Rd.of_own hown4) (by unfold maxLen; omega) (by unfold maxLen; omega))
    rw [decide_eq_true rfl] at HEQ
    have HC4 := Lib.hid (HC3.out.low hb4)
    have HS4 := Lib.hid (HS3.out.low hb4)
    have HB4 := Lib.hid (below_self HB3.out hb4)
    clear hown4 hb4 HT3 HC3 HS3 HB3 HV
    go_wp2_with fail
    refine HEQ.out.mono ?_
    rintro e w5 ⟨rfl, hb5⟩
    have HC5 := Lib.hid (HC4.out.low hb5)
    have HS5 := Lib.hid (HS4.out.low hb5)
    have HB5 := Lib.hid (below_self HB4.out hb5)
    have hT := text_any base b gc n _ w5 HS5.out HSM.out (by omega)
    rw [HCS.out] at hT
    have HT5 := Lib.hid hT
    clear hb5 hT HEQ HC4 HS4 HB4
    go_wp2_with fail
    refine HT5.out.mono ?_
    rintro e w6 ⟨⟨V6, cv6, rfl, hV6⟩, hb6⟩
    have HV6 := Lib.hid hV6
    have HC6 := Lib.hid (HC5.out.low hb6)
    have HS6 := Lib.hid (HS5.out.low hb6)
    have HB6 := Lib.hid (below_self HB5.out hb6)
    clear hV6 hb6 HT5 HC5 HS5 HB5
    go_wp2_with fail
    go_loopw [42] (fun i wr => ∃ k : Nat, k ≤ ts.length ∧ i = .int .i64 (k : Int) ∧ Below w6.heap.size w6 wr) (fun i _ => ts.length - (intOf i).toNat)
    case atStart => exact ⟨0, Nat.zero_le _, rfl, Below.refl _ _⟩
    case round =>
      obtain ⟨k, hk, rfl, hb⟩ := hrel
      have HBR := Lib.hid hb
      by_cases hlt : k < ts.length
      · obtain ⟨x, hxk⟩ : ∃ x, ts[k]? = some x := ⟨_, List.getElem?_eq_getElem hlt⟩
        obtain ⟨ad, rfl, _, hc⟩ := (HV6.out.below hb).at_ hlt
        have cx : wr.cell? (ad.add k) = some (.int .i64 x) := hc _ (by rw [List.getElem?_map, hxk]; rfl)
        obtain ⟨v, hv⟩ : ∃ v, preF x = v := ⟨_, rfl⟩
        have HF := Lib.hid (refPresented_any x v hv wr)
        have hp := HTP.out x (List.mem_of_getElem? hxk)
        clear hxk hc hb
        cases v with
        | true =>
          obtain rfl : x = 65139 := hp hv
          clear hv hp
          go_wp2_with (go_at_call 19; refine HF.out.mono ?_; rintro e w9 ⟨rfl, hb9⟩)
          go_roundw
          case rel => exact ⟨k + 1, by omega, by go_num, below_self HBR.out hb9⟩
          case measure => simp [intOf]; omega
        | false =>
          clear hv hp
          go_wp2_with (go_at_call 19; refine HF.out.mono ?_; rintro e w9 ⟨rfl, hb9⟩)
          go_roundw
          case rel => exact ⟨k + 1, by omega, by go_num, below_self HBR.out hb9⟩
          case measure => simp [intOf]; omega
      · have HS7 := Lib.hid (HS6.out.low hb)
        have HC7 := Lib.hid (HC6.out.low hb)
        have HB7 := Lib.hid (below_self HB6.out hb)
        obtain ⟨w7, hw7⟩ : ∃ w7, wr = w7 := ⟨_, rfl⟩
        subst hw7
        clear hb HBR HS6 HC6 HV6
        go_wp2_with fail
        go_loopw [55] (fun i wt => ∃ j : Nat, j ≤ n ∧ i = .int .i64 (j : Int) ∧ Below wr.heap.size wr wt) (fun i _ => n - (intOf i).toNat)
        case atStart => exact ⟨0, Nat.zero_le _, rfl, Below.refl _ _⟩
        case round =>
          obtain ⟨j, hj, rfl, hb⟩ := hrel
          have HBR := Lib.hid hb
          have HS8 := Lib.hid (HS7.out.low hb)
          have HC8 := Lib.hid (HC7.out.low hb)
          have HB8 := Lib.hid (below_self HB7.out hb)
          clear hb
          by_cases hjn : j < n
          · obtain ⟨x, hxk⟩ : ∃ x, xs[j]? = some x := ⟨_, List.getElem?_eq_getElem (by rw [HL.out]; exact hjn)⟩
            have HA := Lib.hid (fun W (h : Below wr.heap.size wr W) => at_any base b gc n j _ (0, backL x) W (HS8.out.low h) HSM.out (by unfold stOf; rw [List.getElem?_map, hxk]; rfl) (by omega))
            have HA2 := Lib.hid (fun W (h : Below wr.heap.size wr W) => rcAt_any base2 b2 gl2 n j Q2 _ _ (backL x) W (HC8.out.low h) (by rw [List.getElem?_map, hxk]; rfl))
            have HBL := Lib.hid (back_len x).2
            simp only at HA
            clear hxk
            go_wp2_with fail
            refine (HA.out _ (Below.refl _ _)).mono ?_
            rintro e w9 ⟨⟨V9, cv9, rfl, hV9⟩, hb9⟩
            have HV9 := Lib.hid hV9
            have HB9 := Lib.hid hb9
            clear hV9 hb9
            go_wp2_with fail
            refine (HA2.out _ HB9.out).mono ?_
            rintro e w10 ⟨⟨V10, cv10, rfl, hV10⟩, hb10⟩
            have HEQ := Lib.hid (equalInt_b V9 V10 (backL x).length (backL x).length cv9 cv10 (backL x) (backL x) w10 (HV9.out.below hb10) hV10 (by have := HBL.out; unfold maxLen; omega) (by have := HBL.out; unfold maxLen; omega))
            rw [decide_eq_true rfl] at HEQ
            have HB10 := Lib.hid (below_self HB9.out hb10)
            clear hV10 hb10
            go_wp2_with fail
            refine HEQ.out.mono ?_
            rintro e w11 ⟨rfl, hb11⟩
            have HB11 := Lib.hid (below_self HBR.out (below_self HB10.out hb11))
            clear hb11
            go_wp2_with fail
            go_roundw
            case rel => exact ⟨j + 1, by omega, by go_num, HB11.out⟩
            case measure => simp [intOf]; omega
          · have HAW := Lib.hid (awakeUn_any wr (HK.out.below HB8.out))
            go_wp2_with fail
            refine HAW.out.mono ?_
            rintro e w9 ⟨rfl, hb9⟩
            have HB9 := Lib.hid (below_self HB8.out hb9)
            clear hb9
            go_wp2
            go_ret
            exact ⟨rfl, HB9.out⟩
  · have HAW := Lib.hid (awakeUn_any w hK)
    clear hr hx hlen hK
    go_enter Tryz.func4, Tryz.ntmps4
    go_wp2_with fail
    refine HAW.out.mono ?_
    rintro e w5 ⟨rfl, hb5⟩
    go_wp2
    go_ret
    exact ⟨rfl, hb5⟩
end Go.Proofs.YtanngknhbgcobaaGreatDoor
