/- Texts of one claim, one behind the other. -/
import Derived.Test.YtanngknhbgcobaaGreatDoorMgMp5
import Derived.Test.YtanngknhbgcobaaGreatDoorMgMp19
import Derived.Test.YtanngknhbgcobaaGreatDoorMgMp20
import Derived.Test.YtanngknhbgcobaaGreatDoorMgMp21
import Derived.Test.YtanngknhbgcobaaGreatDoorMgMp29
import Derived.Test.YtanngknhbgcobaaGreatDoorMgMp30
import Derived.Test.YtanngknhbgcobaaGreatDoorMgMp32
import Derived.Test.YtanngknhbgcobaaGreatDoorMgMp33
/- unshape's Unshape, walked whole. -/
namespace Go.Proofs.YtanngknhbgcobaaGreatDoor
open Go.RowKit

/-- Clusters and Text of cells, whatever there are. -/
theorem clus_sat (base b gc n : Nat) (S : St) (w : World) (hS : SAt w base b gc n S) (hs : Small n S) (hn : n ≤ 1000) :
    Calls Tryz.prog 31 #[.pointer (some ⟨b, 0, none⟩)] w fun e w' => ((n = 0 ∧ e = .returned (.tuple #[.slice none 0 0, .int .i64 0])) ∨ (0 < n ∧ codesS S = [] ∧ e = .returned (.tuple #[.slice none 0 0, .int .i64 8])) ∨
      (0 < n ∧ codesS S ≠ [] ∧ ∃ (u : Value) (l' : List NC) (R : List RC), e = .returned (.tuple #[u, .int .i64 0]) ∧ R.map Prod.snd = S ∧ FinIs n (codesS S).length (linksR n R []) l' ∧ w'.ownsRow w.heap.size 41 4 u l'.length (cellsC (l'.map NC.cl)))) ∧ Below w.heap.size w w' := by
  obtain ⟨R, hR, hRS⟩ := hS
  have hcl := codes_le hs
  by_cases h0 : n = 0
  · subst h0
    have hc0 := hp_cell (j := 0) hR.hb rfl
    refine (clusters_none _ w (fun W hW => all_any b (some ⟨gc, 0, none⟩) 0 0 W (cell_below hW hc0))).mono ?_
    rintro e w' ⟨rfl, hb⟩
    exact ⟨.inl ⟨rfl, rfl⟩, hb⟩
  · have hn0 : 0 < n := by omega
    have hcn : cntR R [] 0 n = (codesS S).length := by rw [cnt_all hR.len, hRS]
    have hln : lenR R = (codesS S).length := by rw [lenR_all, hRS]
    refine (clusters_cells base b gc n R _ [] w hR hn0 hn (by rw [hln]; simp only [List.length_nil]; omega)).mono ?_
    rintro e w' ⟨hA, hb⟩
    have hE := linksR_err R [] hn0 (by omega) (by rw [hcn]; omega)
    unfold FinAns at hA
    rw [hE, hcn] at hA
    by_cases hz : codesS S = []
    · rw [hz] at hA
      rcases hA with ⟨_, rfl⟩ | ⟨h, _⟩
      · exact ⟨.inr (.inl ⟨hn0, hz, rfl⟩), hb⟩
      · exact absurd h (by decide)
    · have hl0 : (codesS S).length ≠ 0 := fun h => hz (List.length_eq_zero_iff.1 h)
      rw [if_neg hl0] at hA
      rcases hA with ⟨h, _⟩ | ⟨_, _, _, _, _, _, _, v, l', rfl, hF, hown⟩
      · exact absurd rfl h
      · exact ⟨.inr (.inr ⟨hn0, hz, v, l', R, rfl, hRS, by simpa using hF, hown⟩), hb⟩
theorem text_sat (base b gc n : Nat) (S : St) (w : World) (hS : SAt w base b gc n S) (hs : Small n S) (hn0 : 0 < n) (hn : n ≤ 1000) :
    Calls Tryz.prog 17 #[.pointer (some ⟨b, 0, none⟩)] w fun e w' => ∃ v, e = .returned v ∧ w'.ownsRow w.heap.size 3 1 v (codesS S).length ((codesS S).map (Value.int .i64)) ∧ Below w.heap.size w w' := by
  obtain ⟨R, hR, hRS⟩ := hS
  have hcl := codes_le hs
  have hln : lenR R = (codesS S).length := by rw [lenR_all, hRS]
  have h := text_cells base b gc n R _ [] w hR hn0 (by omega) (by rw [hln]; simp only [List.length_nil]; omega)
  rw [told_all hR.len, hRS] at h
  exact h
theorem text_zero (base b gc : Nat) (S : St) (w : World) (hS : SAt w base b gc 0 S) :
    Calls Tryz.prog 17 #[.pointer (some ⟨b, 0, none⟩)] w fun e w' => e = .returned (.slice none 0 0) ∧ Below w.heap.size w w' := by
  obtain ⟨R, hR, hRS⟩ := hS
  have hc0 := hp_cell (j := 0) hR.hb rfl
  exact text_none _ w (fun W hW => all_any b (some ⟨gc, 0, none⟩) 0 0 W (cell_below hW hc0))
set_option maxRecDepth 100000 in
set_option maxHeartbeats 8000000 in
theorem unUnshape_any (A : Option Addr) (n c bp : Nat) (xs : List Int) (d l t g : Int) (b0 b1 b2 b3 b4 b5 b6 b7 b8 b9 : Bool) (w : World) (hK : KindsAt w) (hP : PropAt w bp) (hr : Rd w 1 A n (xs.map (Value.int .i64))) (hx : ∀ x ∈ xs, KeyI x) (hn : n ≤ 1000) :
    Calls Tryz.prog 9 #[.pointer (some ⟨bp, 0, none⟩), .slice A n c, .agg #[.int .i64 d, .int .i64 l, .int .i64 t, .int .i64 g, .bool b0, .bool b1, .bool b2, .bool b3, .bool b4, .bool b5, .bool b6, .bool b7, .bool b8, .bool b9]] w fun e w' => UnAns w w' xs ⟨d, l, t, g, b0, b1, b2, b3, b4, b5, b6, b7, b8, b9⟩ e ∧ Below w.heap.size w w' := by
  have hlen : xs.length = n := by simpa using hr.len1
  obtain ⟨o, ho⟩ : ∃ o : Opt, (⟨d, l, t, g, b0, b1, b2, b3, b4, b5, b6, b7, b8, b9⟩ : Opt) = o := ⟨_, rfl⟩
  obtain ⟨E, hE⟩ : ∃ E, o.err = E := ⟨_, rfl⟩
  have hb0 := below_new w (.cells #[.int .i64 d, .int .i64 l, .int .i64 t, .int .i64 g, .bool b0, .bool b1, .bool b2, .bool b3, .bool b4, .bool b5, .bool b6, .bool b7, .bool b8, .bool b9] 24)
  have HCH := Lib.hid (opCheck_any d l t g b0 b1 b2 b3 b4 b5 b6 b7 b8 b9 E (by rw [ho]; exact hE) _ (hK.below hb0))
  have HBE := Lib.hid (fun W => unBecomes_any d l t g b0 b1 b2 b3 b4 b5 b6 b7 b8 b9 W)
  have hO1 := heap_alloc_new w (.cells #[.int .i64 d, .int .i64 l, .int .i64 t, .int .i64 g, .bool b0, .bool b1, .bool b2, .bool b3, .bool b4, .bool b5, .bool b6, .bool b7, .bool b8, .bool b9] 24)
  have hcel := cells_new w [.int .i64 d, .int .i64 l, .int .i64 t, .int .i64 g, .bool b0, .bool b1, .bool b2, .bool b3, .bool b4, .bool b5, .bool b6, .bool b7, .bool b8, .bool b9] 24
  have HO1 := Lib.hid hO1
  have HB0 := Lib.hid hb0
  have HL := Lib.hid hlen
  have HE := Lib.hid hE
  have HP := Lib.hid hP
  have HR := Lib.hid hr
  have HX := Lib.hid hx
  have HUN := Lib.hid (show unS xs o = spacesS mkB xs l (tlS b4 b5 xs 0 (stOf (becL b1 l) xs)) by rw [← ho]; rfl)
  rw [ho]
  clear hK hP hr hx hlen hE hb0 hO1 ho hcel
  go_enter Tryz.func9, Tryz.ntmps9
  go_wp2_with fail
  refine HCH.out.mono ?_
  rintro e w2 ⟨rfl, hb2⟩
  have hz2 := below_self HB0.out hb2
  have o2 := (hb2.block _ (hp_lt HO1.out)).trans HO1.out
  have hs2 : w.heap.size < w2.heap.size := hp_lt o2
  have HZ2 := Lib.hid hz2
  have HO2 := Lib.hid o2
  clear hb2 hz2
  by_cases hE0 : E = 0
  · subst hE0
    have k0 := hp_cell (j := 0) o2 rfl
    have k1 := hp_cell (j := 1) o2 rfl
    have k2 := hp_cell (j := 2) o2 rfl
    have k3 := hp_cell (j := 3) o2 rfl
    have k4 := hp_cell (j := 4) o2 rfl
    have k5 := hp_cell (j := 5) o2 rfl
    have k6 := hp_cell (j := 6) o2 rfl
    have k7 := hp_cell (j := 7) o2 rfl
    have k8 := hp_cell (j := 8) o2 rfl
    have k9 := hp_cell (j := 9) o2 rfl
    have k10 := hp_cell (j := 10) o2 rfl
    have k11 := hp_cell (j := 11) o2 rfl
    have k12 := hp_cell (j := 12) o2 rfl
    have k13 := hp_cell (j := 13) o2 rfl
    clear o2
    go_wp2_with fail
    refine (HBE.out _).mono ?_
    intro e w3 hBec
    obtain ⟨g', lb, L, rfl, hBc, hLL, hb3⟩ := hBec
    obtain ⟨I, hI⟩ := hBc xs HX.out (by have := HL.out; omega)
    have HI := Lib.hid hI
    have HLL := Lib.hid hLL
    have HZ3 := Lib.hid (below_self HZ2.out hb3)
    have HO3 := Lib.hid ((hb3.block _ (hp_lt HO2.out)).trans HO2.out)
    have HS3 := Lib.hid hb3.size
    clear hBc hI hLL hb3 k0 k1 k2 k3 k4 k5 k6 k7 k8 k9 k10 k11 k12 k13
    go_wp2_with fail
    refine (unBegin_any g' lb _ L I A n c xs w3 HI.out (HR.out.below HZ3.out) (by omega) (fun h0 ad e => ?_) (fun x => (bec_len _ _ x).2)).mono ?_
    · subst e
      obtain ⟨ad', e', hlt, _⟩ := HR.out.2 h0
      cases e'
      have := HZ3.out.size
      exact ⟨by omega, fun hm => by have := HLL.out _ hm; omega⟩
    rintro e w4 ⟨wk, base, b, gc, rfl, hW4, hbb, hgb, hk4⟩
    have HH := Lib.hid (show w.heap.size < b ∧ w.heap.size < gc by have := HS3.out; omega)
    have HZ4 := Lib.hid (hk4.lower HZ3.out HZ3.out.size (fun x hx => by have := HLL.out x hx; omega))
    have o4 := hk4.heap HO3.out (fun hm => by have := HLL.out _ hm; omega)
    have HO4 := Lib.hid o4
    have k8 := hp_cell (j := 8) o4 rfl
    have k9 := hp_cell (j := 9) o4 rfl
    have HW4 := Lib.hid hW4
    clear hW4 hbb hgb hk4 o4 HLL HI HBE HCH
    go_wp2_with fail
    refine (unTails_any wk base b gc n c A xs b4 b5 _ w4 HW4.out (by omega)).mono ?_
    rintro e w5 ⟨rfl, hW5, hk5⟩
    have HZ5 := Lib.hid (hk5.lower HZ4.out HZ4.out.size (by have := HH.out; simp; omega))
    have o5 := hk5.heap HO4.out (by have := HH.out; simp; omega)
    have HO5 := Lib.hid o5
    have j1 := hp_cell (j := 1) o5 rfl
    have HW5 := Lib.hid hW5
    clear hW5 hk5 o5 k8 k9
    go_wp2_with fail
    refine (unSpaces_any wk base b gc n c bp A xs l _ w w5 HW5.out HP.out HZ5.out (by have := HH.out; omega) (by omega)).mono ?_
    rintro e w6 ⟨hA, hk6⟩
    have HZ6 := Lib.hid (hk6.lower HZ5.out HZ5.out.size (by have := HH.out; simp; omega))
    rw [← HUN.out] at hA
    clear hk6 j1
    rcases hA with ⟨hnone, rfl⟩ | ⟨S', hsome, rfl, hW6⟩
    · have HNO := Lib.hid hnone
      clear hnone
      go_wp2_with fail
      refine bodyPost_ret (v := .tuple #[.slice none 0 0, .slice none 0 0, .int .i64 9]) (by simp [results, go_sem]) rfl ?_
      exact ⟨.inr (.inl ⟨HE.out, HNO.out, rfl⟩), HZ6.out⟩
    · have c6 := hW6.c0
      have HSO := Lib.hid hsome
      have HW6 := Lib.hid hW6
      have hsm := unS_small hsome
      rw [HL.out] at hsm
      have HSM := Lib.hid hsm
      clear hsome hW6 hsm
      go_wp2_with fail
      refine (clus_sat base b gc n S' w6 HW6.out.sat HSM.out hn).mono ?_
      rintro e w7 ⟨hC, hb7⟩
      have HZ7 := Lib.hid (below_self HZ6.out hb7)
      have HW7 := Lib.hid (HW6.out.low hb7)
      have c7 := cell_below hb7 c6
      clear hb7 c6
      rcases hC with ⟨h0, rfl⟩ | ⟨h0, hnil, rfl⟩ | ⟨h0, hne, u, l', R, rfl, hRS, hF, hown⟩
      · have hS0 : SAt w7 base b gc 0 S' := by have := HW7.out.sat; rwa [h0] at this
        have HTX := Lib.hid (text_zero base b gc S' w7 hS0)
        have H0 := Lib.hid h0
        clear hS0 h0
        go_wp2_with fail
        refine HTX.out.mono ?_
        rintro e w8 ⟨rfl, hb8⟩
        have HZ8 := Lib.hid (below_self HZ7.out hb8)
        clear hb8
        go_wp2_with fail
        refine bodyPost_ret (v := .tuple #[.slice none 0 0, .slice none 0 0, .int .i64 0]) (by simp [results, go_sem]) rfl ?_
        exact ⟨.inr (.inr ⟨HE.out, S', HSO.out, .inl ⟨by rw [HL.out]; exact H0.out, rfl⟩⟩), HZ8.out⟩
      · have H0 := Lib.hid (And.intro h0 hnil)
        clear h0 hnil
        go_wp2_with fail
        refine bodyPost_ret (v := .tuple #[.slice none 0 0, .slice none 0 0, .int .i64 8]) (by simp [results, go_sem]) rfl ?_
        exact ⟨.inr (.inr ⟨HE.out, S', HSO.out, .inr (.inl ⟨by rw [HL.out]; exact H0.out.1, H0.out.2, rfl⟩)⟩), HZ7.out⟩
      · have H0 := Lib.hid (And.intro h0 hne)
        have HF := Lib.hid hF
        have HRS := Lib.hid hRS
        have HOU := Lib.hid (own_base hown HZ6.out.size)
        have HTX := Lib.hid (text_sat base b gc n S' w7 HW7.out.sat HSM.out h0 hn)
        clear h0 hne hF hRS hown
        go_wp2_with fail
        refine HTX.out.mono ?_
        rintro e w8 ⟨v, rfl, hown8, hb8⟩
        have HZ8 := Lib.hid (below_self HZ7.out hb8)
        have HOU8 := Lib.hid (own_below HOU.out hb8)
        have HO8 := Lib.hid (own_base hown8 HZ7.out.size)
        clear hb8 hown8
        go_wp2_with fail
        refine bodyPost_ret (v := .tuple #[v, u, .int .i64 0]) (by simp [results, go_sem]) rfl ?_
        refine ⟨.inr (.inr ⟨HE.out, S', HSO.out, .inr (.inr ⟨by rw [HL.out]; exact H0.out.1, H0.out.2, v, u, l', R, rfl, HRS.out, ?_, HO8.out, HOU8.out⟩)⟩), HZ8.out⟩
        rw [HL.out]
        exact HF.out
  · have gE : (E != 0) = true := by simp [hE0]
    have HNE := Lib.hid hE0
    clear hE0 o2
    go_wp2_with fail
    refine bodyPost_ret (v := .tuple #[.slice none 0 0, .slice none 0 0, .int .i64 E]) (by simp [results, go_sem]) rfl ?_
    exact ⟨.inl ⟨by rw [HE.out]; exact HNE.out, by rw [HE.out]⟩, HZ2.out⟩
end Go.Proofs.YtanngknhbgcobaaGreatDoor
/- naskhlaw18's awake, walked. -/
namespace Go.Proofs.YtanngknhbgcobaaGreatDoor
open Go.RowKit

def oAw : Opt := ⟨0, 2, 0, 0, false, true, false, false, false, false, false, false, false, false⟩
theorem aw_err : oAw.err = 0 := by decide
theorem aw_two : unS [65275, 32] oAw = some [(2, [1604]), (0, [1575])] := by decide +kernel
theorem aw_one : unS [65275] oAw = none := by decide +kernel
theorem aw_key : ∀ x ∈ ([65275, 32] : List Int), KeyI x := by unfold KeyI; decide
theorem aw_key1 : ∀ x ∈ ([65275] : List Int), KeyI x := by unfold KeyI; decide
theorem aw_len {R : List RC} {l' : List NC} (hR : R.map Prod.snd = [(2, [1604]), (0, [1575])]) (hF : FinIs 2 2 (linksR 2 R []) l') : l'.length = 1 := by
  have hl : R.length = 2 := by have := congrArg List.length hR; simpa using this
  match R, hl with
  | [(v0, e0, c0), (v1, e1, c1)], _ =>
    simp only [List.map_cons, List.map_nil, List.cons.injEq, Prod.mk.injEq, and_true] at hR
    obtain ⟨⟨rfl, rfl⟩, rfl, rfl⟩ := hR
    have hj : joinedTo [(v0, (2 : Int), [1604]), (v1, 0, [1575])] 2 = [(0, 2)] := rfl
    have hk : linksR 2 [(v0, (2 : Int), [1604]), (v1, 0, [1575])] [] = [((0, 2), (0, 2))] := by
      unfold linksR
      rw [hj]
      rfl
    rw [hk] at hF
    have hfit : fitB 2 2 [((0, 2), (0, 2))] = true := rfl
    have hh := finIs_holds hF hfit (x := ((0, 2), (0, 2))) (by simp)
    have ht := (hF.2 (by decide)).tiles
    obtain ⟨c, hc, hin⟩ := List.any_eq_true.1 hh
    obtain ⟨y, hy, rfl⟩ := List.mem_map.1 hc
    unfold insB at hin
    rw [Bool.and_eq_true, Bool.and_eq_true, Bool.and_eq_true] at hin
    obtain ⟨⟨⟨i1, i2⟩, _⟩, _⟩ := hin
    have i1 := of_decide_eq_true i1
    have i2 := of_decide_eq_true i2
    change (y.a : Int) ≤ 0 at i1
    change (2 : Int) ≤ (y.b : Int) at i2
    match l', ht with
    | [], ht => cases hy
    | [x], _ => rfl
    | x :: z :: l, ⟨h1, h2, h3⟩ =>
      obtain ⟨h4, h5, h6⟩ := h3
      rcases List.mem_cons.1 hy with rfl | hy
      · have := Tiles.le h6
        omega
      · have := (Tiles.from_ (show Tiles x.b (z :: l) 2 from ⟨h4, h5, h6⟩) y hy).1
        omega
/-- What Unshape answers of the two codes, and of the one. -/
def Aw2 (W W' : World) (e : Ending) : Prop := Below W.heap.size W W' ∧ ∃ v u l', e = .returned (.tuple #[v, u, .int .i64 0]) ∧ W'.ownsRow W.heap.size 3 1 v 2 (([1604, 1575] : List Int).map (Value.int .i64)) ∧ W'.ownsRow W.heap.size 41 4 u 1 l'
def Aw1 (W W' : World) (e : Ending) : Prop := Below W.heap.size W W' ∧ e = .returned (.tuple #[.slice none 0 0, .slice none 0 0, .int .i64 9])
theorem aw2_any (w W : World) (hK : KindsAt w) (hb : Below w.heap.size w W) (b : Nat) (A : Option Addr) (c : Nat) (hP : PropAt W b) (hr : Rd W 1 A 2 (([65275, 32] : List Int).map (Value.int .i64))) :
    Calls Tryz.prog 9 #[.pointer (some ⟨b, 0, none⟩), .slice A 2 c, .agg #[.int .i64 0, .int .i64 2, .int .i64 0, .int .i64 0, .bool false, .bool true, .bool false, .bool false, .bool false, .bool false, .bool false, .bool false, .bool false, .bool false]] W fun e W' => Aw2 W W' e := by
  refine (unUnshape_any A 2 c b [65275, 32] 0 2 0 0 false true false false false false false false false false W (hK.below hb) hP hr aw_key (by omega)).mono ?_
  rintro e W' ⟨h, hb'⟩
  rcases h with ⟨h, _⟩ | ⟨_, h, _⟩ | ⟨_, S, hS, h⟩
  · exact absurd aw_err h
  · have h' : unS [65275, 32] oAw = none := h
    rw [aw_two] at h'
    cases h'
  · have h' : unS [65275, 32] oAw = some S := hS
    rw [aw_two] at h'
    obtain rfl := Option.some.inj h'
    rcases h with ⟨h, _⟩ | ⟨_, h, _⟩ | ⟨_, _, v, u, l', R, rfl, hR, hF, ho1, ho2⟩
    · cases h
    · cases h
    · refine ⟨hb', v, u, cellsC (l'.map NC.cl), rfl, ho1, ?_⟩
      have := aw_len hR hF
      rw [this] at ho2
      exact ho2
theorem aw1_any (w W : World) (hK : KindsAt w) (hb : Below w.heap.size w W) (b : Nat) (A : Option Addr) (c : Nat) (hP : PropAt W b) (hr : Rd W 1 A 1 (([65275] : List Int).map (Value.int .i64))) :
    Calls Tryz.prog 9 #[.pointer (some ⟨b, 0, none⟩), .slice A 1 c, .agg #[.int .i64 0, .int .i64 2, .int .i64 0, .int .i64 0, .bool false, .bool true, .bool false, .bool false, .bool false, .bool false, .bool false, .bool false, .bool false, .bool false]] W fun e W' => Aw1 W W' e := by
  refine (unUnshape_any A 1 c b [65275] 0 2 0 0 false true false false false false false false false false W (hK.below hb) hP hr aw_key1 (by omega)).mono ?_
  rintro e W' ⟨h, hb'⟩
  rcases h with ⟨h, _⟩ | ⟨_, _, rfl⟩ | ⟨_, S, hS, _⟩
  · exact absurd aw_err h
  · exact ⟨hb', rfl⟩
  · have h' : unS [65275] oAw = some S := hS
    rw [aw_one] at h'
    cases h'
theorem rdOneA (w : World) (a : Int) (t : TypeId) : Rd (w.alloc (.cells #[.int .i64 a] t)) 1 (some ⟨w.heap.size, 0, none⟩) 1 (([a] : List Int).map (Value.int .i64)) := Rd.new_ w [.int .i64 a] t
theorem rdTwoA (w : World) (a b : Int) (t : TypeId) : Rd (w.alloc (.cells #[.int .i64 a, .int .i64 b] t)) 1 (some ⟨w.heap.size, 0, none⟩) 2 (([a, b] : List Int).map (Value.int .i64)) := Rd.new_ w [.int .i64 a, .int .i64 b] t
set_option maxRecDepth 100000 in
set_option maxHeartbeats 8000000 in
theorem awakeUn_any (w : World) (hK : KindsAt w) : Calls Tryz.prog 7 #[] w fun e w' => e = .returned (.bool true) ∧ Below w.heap.size w w' := by
  obtain ⟨W0, hW0⟩ : ∃ W0, w.alloc (.cells #[.int .i64 0, .int .i64 2, .int .i64 0, .int .i64 0, .bool false, .bool true, .bool false, .bool false, .bool false, .bool false, .bool false, .bool false, .bool false, .bool false] 24) = W0 := ⟨_, rfl⟩
  have hcel : ∀ (j : Nat) (u : Value), ([Value.int .i64 0, Value.int .i64 2, Value.int .i64 0, Value.int .i64 0, Value.bool false, Value.bool true, Value.bool false, Value.bool false, Value.bool false, Value.bool false, Value.bool false, Value.bool false, Value.bool false, Value.bool false] : List Value)[j]? = some u → W0.cell? ((⟨w.heap.size, 0, none⟩ : Addr).add j) = some u := by rw [← hW0]; exact cells_new w _ _
  have c0 : W0.cell? ⟨w.heap.size, 0, none⟩ = some (.int .i64 0) := by have := hcel 0 _ rfl; rwa [addNew] at this
  have c1 : W0.cell? ⟨w.heap.size, 1, none⟩ = some (.int .i64 2) := by have := hcel 1 _ rfl; rwa [addNew] at this
  have c2 : W0.cell? ⟨w.heap.size, 2, none⟩ = some (.int .i64 0) := by have := hcel 2 _ rfl; rwa [addNew] at this
  have c3 : W0.cell? ⟨w.heap.size, 3, none⟩ = some (.int .i64 0) := by have := hcel 3 _ rfl; rwa [addNew] at this
  have c4 : W0.cell? ⟨w.heap.size, 4, none⟩ = some (.bool false) := by have := hcel 4 _ rfl; rwa [addNew] at this
  have c5 : W0.cell? ⟨w.heap.size, 5, none⟩ = some (.bool true) := by have := hcel 5 _ rfl; rwa [addNew] at this
  have c6 : W0.cell? ⟨w.heap.size, 6, none⟩ = some (.bool false) := by have := hcel 6 _ rfl; rwa [addNew] at this
  have c7 : W0.cell? ⟨w.heap.size, 7, none⟩ = some (.bool false) := by have := hcel 7 _ rfl; rwa [addNew] at this
  have c8 : W0.cell? ⟨w.heap.size, 8, none⟩ = some (.bool false) := by have := hcel 8 _ rfl; rwa [addNew] at this
  have c9 : W0.cell? ⟨w.heap.size, 9, none⟩ = some (.bool false) := by have := hcel 9 _ rfl; rwa [addNew] at this
  have c10 : W0.cell? ⟨w.heap.size, 10, none⟩ = some (.bool false) := by have := hcel 10 _ rfl; rwa [addNew] at this
  have c11 : W0.cell? ⟨w.heap.size, 11, none⟩ = some (.bool false) := by have := hcel 11 _ rfl; rwa [addNew] at this
  have c12 : W0.cell? ⟨w.heap.size, 12, none⟩ = some (.bool false) := by have := hcel 12 _ rfl; rwa [addNew] at this
  have c13 : W0.cell? ⟨w.heap.size, 13, none⟩ = some (.bool false) := by have := hcel 13 _ rfl; rwa [addNew] at this
  have hb0 : Below w.heap.size w W0 := by rw [← hW0]; exact below_new _ _
  have HB0 := Lib.hid hb0
  have HK := Lib.hid (hK.below hb0)
  have HC := Lib.hid (show W0.cell? ⟨w.heap.size, 0, none⟩ = some (.int .i64 0) ∧ W0.cell? ⟨w.heap.size, 1, none⟩ = some (.int .i64 2) ∧ W0.cell? ⟨w.heap.size, 2, none⟩ = some (.int .i64 0) ∧ W0.cell? ⟨w.heap.size, 3, none⟩ = some (.int .i64 0) ∧ W0.cell? ⟨w.heap.size, 4, none⟩ = some (.bool false) ∧ W0.cell? ⟨w.heap.size, 5, none⟩ = some (.bool true) ∧ W0.cell? ⟨w.heap.size, 6, none⟩ = some (.bool false) ∧ W0.cell? ⟨w.heap.size, 7, none⟩ = some (.bool false) ∧ W0.cell? ⟨w.heap.size, 8, none⟩ = some (.bool false) ∧ W0.cell? ⟨w.heap.size, 9, none⟩ = some (.bool false) ∧ W0.cell? ⟨w.heap.size, 10, none⟩ = some (.bool false) ∧ W0.cell? ⟨w.heap.size, 11, none⟩ = some (.bool false) ∧ W0.cell? ⟨w.heap.size, 12, none⟩ = some (.bool false) ∧ W0.cell? ⟨w.heap.size, 13, none⟩ = some (.bool false) ∧ Below W0.heap.size W0 W0 from ⟨c0, c1, c2, c3, c4, c5, c6, c7, c8, c9, c10, c11, c12, c13, Below.refl _ _⟩)
  have HU2 := Lib.hid (fun W b A hP hr => fun (hb : Below W0.heap.size W0 W) => aw2_any W0 W HK.out hb b A 2 hP hr)
  have HW0 := Lib.hid hW0
  clear hcel hb0 hK hW0
  go_enter Tryz.func7, Tryz.ntmps7
  go_wp2_with fail
  try simp only [HW0.out]
  go_cut [2, 3, 4] (fun t l e wx => ∃ V cv U cu, t = .slice V 2 cv ∧ l = .slice U 1 cu ∧ e = .int .i64 0 ∧ Rd wx 1 V 2 (([1604, 1575] : List Int).map (Value.int .i64)) ∧ Below W0.heap.size W0 wx)
  case first =>
    go_region_held3 (fun w' => w'.cell? ⟨w.heap.size, 0, none⟩ = some (.int .i64 0) ∧ w'.cell? ⟨w.heap.size, 1, none⟩ = some (.int .i64 2) ∧ w'.cell? ⟨w.heap.size, 2, none⟩ = some (.int .i64 0) ∧ w'.cell? ⟨w.heap.size, 3, none⟩ = some (.int .i64 0) ∧ w'.cell? ⟨w.heap.size, 4, none⟩ = some (.bool false) ∧ w'.cell? ⟨w.heap.size, 5, none⟩ = some (.bool true) ∧ w'.cell? ⟨w.heap.size, 6, none⟩ = some (.bool false) ∧ w'.cell? ⟨w.heap.size, 7, none⟩ = some (.bool false) ∧ w'.cell? ⟨w.heap.size, 8, none⟩ = some (.bool false) ∧ w'.cell? ⟨w.heap.size, 9, none⟩ = some (.bool false) ∧ w'.cell? ⟨w.heap.size, 10, none⟩ = some (.bool false) ∧ w'.cell? ⟨w.heap.size, 11, none⟩ = some (.bool false) ∧ w'.cell? ⟨w.heap.size, 12, none⟩ = some (.bool false) ∧ w'.cell? ⟨w.heap.size, 13, none⟩ = some (.bool false) ∧ Below W0.heap.size W0 w')
      (first
        | exact HC.out
        | exact s14_on HC.out (Below.refl _ _).drew
        | exact s14_on (by assumption) h1
        | exact s14_on HC.out h1
        | exact s14_on (s14_on HC.out (Below.refl _ _).drew) h1
        | exact s14_on (by assumption) (below_new _ _)
        | exact s14_on HC.out (below_new _ _)
        | exact s14_on (s14_on HC.out (Below.refl _ _).drew) (below_new _ _)
        | exact s14_on (by assumption) h2
        | exact s14_on (s14_on (by assumption) (below_new _ _)) h2
        | fail)
      (first
        | (go_at_call 8; with_reducible refine (prNew_any _).mono ?_; rintro e w7 ⟨⟨b1, rfl, hP1⟩, h1⟩)
        | (go_at_call 9; refine (HU2.out _ _ _ (by first | exact hP1 | exact hP1.below (below_new _ _)) (by first | exact rdTwoA _ 65275 32 3 | exact Rd.below (w := (W0.alloc (.cells #[.int .i64 65275, .int .i64 32] 3)).drew) (rdTwoA W0 65275 32 3) h1 | exact Rd.below (w := W0.alloc (.cells #[.int .i64 65275, .int .i64 32] 3)) (rdTwoA W0 65275 32 3) h1) (by assumption : _ ∧ _ ∧ _ ∧ _ ∧ _ ∧ _ ∧ _ ∧ _ ∧ _ ∧ _ ∧ _ ∧ _ ∧ _ ∧ _ ∧ Below W0.heap.size W0 _).2.2.2.2.2.2.2.2.2.2.2.2.2.2).mono ?_; rintro e w8 ⟨h2, v8, u8, l8, rfl, hv8, hu8⟩)
        | fail)
    all_goals (
      have HB8 := Lib.hid (by assumption : _ ∧ _ ∧ _ ∧ _ ∧ _ ∧ _ ∧ _ ∧ _ ∧ _ ∧ _ ∧ _ ∧ _ ∧ _ ∧ _ ∧ Below W0.heap.size W0 w8).2.2.2.2.2.2.2.2.2.2.2.2.2.2
      have HV8 := Lib.hid hv8
      have HU8 := Lib.hid hu8
      obtain ⟨V, cv, rfl, _⟩ := own_form hv8
      obtain ⟨U, cu, rfl, _⟩ := own_form hu8
      clear hv8 hu8 h1 h2 hP1)
    · go_wp2_with fail
      go_meet
      case rel => exact ⟨V, cv, U, cu, rfl, rfl, rfl, Rd.of_own HV8.out, HB8.out⟩
    · go_wp2_with fail
      go_meet
      case rel => exact ⟨V, cv, U, cu, rfl, rfl, rfl, Rd.of_own HV8.out, HB8.out⟩
  case rest =>
    obtain ⟨V, cv, U, cu, rfl, rfl, rfl, hrd, hb⟩ := hcut
    have HRD := Lib.hid hrd
    clear c0 c1 c2 c3 c4 c5 c6 c7 c8 c9 c10 c11 c12 c13
    obtain ⟨c0, c1, c2, c3, c4, c5, c6, c7, c8, c9, c10, c11, c12, c13, _⟩ := s14_on HC.out hb
    have HBW := Lib.hid hb
    obtain ⟨W3, hW3⟩ : ∃ W3, wc = W3 := ⟨_, rfl⟩
    subst hW3
    have HC3 := Lib.hid (show wc.cell? ⟨w.heap.size, 0, none⟩ = some (.int .i64 0) ∧ wc.cell? ⟨w.heap.size, 1, none⟩ = some (.int .i64 2) ∧ wc.cell? ⟨w.heap.size, 2, none⟩ = some (.int .i64 0) ∧ wc.cell? ⟨w.heap.size, 3, none⟩ = some (.int .i64 0) ∧ wc.cell? ⟨w.heap.size, 4, none⟩ = some (.bool false) ∧ wc.cell? ⟨w.heap.size, 5, none⟩ = some (.bool true) ∧ wc.cell? ⟨w.heap.size, 6, none⟩ = some (.bool false) ∧ wc.cell? ⟨w.heap.size, 7, none⟩ = some (.bool false) ∧ wc.cell? ⟨w.heap.size, 8, none⟩ = some (.bool false) ∧ wc.cell? ⟨w.heap.size, 9, none⟩ = some (.bool false) ∧ wc.cell? ⟨w.heap.size, 10, none⟩ = some (.bool false) ∧ wc.cell? ⟨w.heap.size, 11, none⟩ = some (.bool false) ∧ wc.cell? ⟨w.heap.size, 12, none⟩ = some (.bool false) ∧ wc.cell? ⟨w.heap.size, 13, none⟩ = some (.bool false) ∧ Below wc.heap.size wc wc from ⟨c0, c1, c2, c3, c4, c5, c6, c7, c8, c9, c10, c11, c12, c13, Below.refl _ _⟩)
    have HU1 := Lib.hid (fun W b A hP hr => fun (hb : Below wc.heap.size wc W) => aw1_any wc W (HK.out.below HBW.out) hb b A 1 hP hr)
    clear hrd hb HC HU2 HW0
    go_upto_region 3 with fail
    go_cut [5, 6, 7] (fun t l e wx => e = .int .i64 9 ∧ Below wc.heap.size wc wx)
    case first =>
      go_region_held3 (fun w' => w'.cell? ⟨w.heap.size, 0, none⟩ = some (.int .i64 0) ∧ w'.cell? ⟨w.heap.size, 1, none⟩ = some (.int .i64 2) ∧ w'.cell? ⟨w.heap.size, 2, none⟩ = some (.int .i64 0) ∧ w'.cell? ⟨w.heap.size, 3, none⟩ = some (.int .i64 0) ∧ w'.cell? ⟨w.heap.size, 4, none⟩ = some (.bool false) ∧ w'.cell? ⟨w.heap.size, 5, none⟩ = some (.bool true) ∧ w'.cell? ⟨w.heap.size, 6, none⟩ = some (.bool false) ∧ w'.cell? ⟨w.heap.size, 7, none⟩ = some (.bool false) ∧ w'.cell? ⟨w.heap.size, 8, none⟩ = some (.bool false) ∧ w'.cell? ⟨w.heap.size, 9, none⟩ = some (.bool false) ∧ w'.cell? ⟨w.heap.size, 10, none⟩ = some (.bool false) ∧ w'.cell? ⟨w.heap.size, 11, none⟩ = some (.bool false) ∧ w'.cell? ⟨w.heap.size, 12, none⟩ = some (.bool false) ∧ w'.cell? ⟨w.heap.size, 13, none⟩ = some (.bool false) ∧ Below wc.heap.size wc w')
        (first
          | exact HC3.out
          | exact s14_on HC3.out (Below.refl _ _).drew
          | exact s14_on (by assumption) h1
          | exact s14_on HC3.out h1
          | exact s14_on (s14_on HC3.out (Below.refl _ _).drew) h1
          | exact s14_on (by assumption) (below_new _ _)
          | exact s14_on HC3.out (below_new _ _)
          | exact s14_on (s14_on HC3.out (Below.refl _ _).drew) (below_new _ _)
          | exact s14_on (by assumption) h2
          | exact s14_on (s14_on (by assumption) (below_new _ _)) h2
          | fail)
        (first
          | (go_at_call 8; with_reducible refine (prNew_any _).mono ?_; rintro e w7 ⟨⟨b1, rfl, hP1⟩, h1⟩)
          | (go_at_call 9; refine (HU1.out _ _ _ (by first | exact hP1 | exact hP1.below (below_new _ _)) (by first | exact rdOneA _ 65275 3 | exact Rd.below (w := (wc.alloc (.cells #[.int .i64 65275] 3)).drew) (rdOneA wc 65275 3) h1 | exact Rd.below (w := wc.alloc (.cells #[.int .i64 65275] 3)) (rdOneA wc 65275 3) h1) (by assumption : _ ∧ _ ∧ _ ∧ _ ∧ _ ∧ _ ∧ _ ∧ _ ∧ _ ∧ _ ∧ _ ∧ _ ∧ _ ∧ _ ∧ Below wc.heap.size wc _).2.2.2.2.2.2.2.2.2.2.2.2.2.2).mono ?_; rintro e w8 ⟨h2, rfl⟩)
          | fail)
      all_goals (
        have HB8 := Lib.hid (by assumption : _ ∧ _ ∧ _ ∧ _ ∧ _ ∧ _ ∧ _ ∧ _ ∧ _ ∧ _ ∧ _ ∧ _ ∧ _ ∧ _ ∧ Below wc.heap.size wc w8).2.2.2.2.2.2.2.2.2.2.2.2.2.2
        clear h1 h2 hP1)
      · go_wp2_with fail
        go_meet
        case rel => exact ⟨rfl, HB8.out⟩
      · go_wp2_with fail
        go_meet
        case rel => exact ⟨rfl, HB8.out⟩
    case rest =>
      obtain ⟨rfl, hb⟩ := hcut
      have HR := Lib.hid (HRD.out.below hb)
      have HZ := Lib.hid (below_self HB0.out (below_self HBW.out (below_self hb (below_new wc (.cells #[.int .i64 1604, .int .i64 1575] 3)))))
      have HEQ := Lib.hid (equalInt_b V (some ⟨wc.heap.size, 0, none⟩) 2 2 cv 2 [1604, 1575] [1604, 1575] (wc.alloc (.cells #[.int .i64 1604, .int .i64 1575] 3)) (HR.out.alloc _) (rdTwoA wc 1604 1575 3) (by unfold maxLen; omega) (by unfold maxLen; omega))
      rw [decide_eq_true rfl] at HEQ
      clear hb HRD HU1 HC3
      go_wp2_with (go_at_call 13; refine HEQ.out.mono ?_; rintro e w9 ⟨rfl, hb9⟩)
      go_ret
      exact ⟨rfl, below_self HZ.out hb9⟩
end Go.Proofs.YtanngknhbgcobaaGreatDoor
/- naskhlaw18.UnshapeMap, walked. -/
namespace Go.Proofs.YtanngknhbgcobaaGreatDoor
open Go.RowKit

theorem map_ok {n : Nat} {S : St} {R : List RC} {l' : List NC} (h0 : 0 < n) (hn : n ≤ 1000) (hR : R.map Prod.snd = S) (hs : Small n S) (hF : FinIs n (codesS S).length (linksR n R []) l') : checkC (l'.map NC.cl) (n : Int) ((codesS S).length : Nat) = true := by
  have hl : R.length = n := by have := hs.1; rw [← hR, List.length_map] at this; exact this
  have hc : cntR R [] 0 n = (codesS S).length := by rw [cnt_all hl, hR]
  have hle := codes_le hs
  have hfit := linksR_fit R [] h0 (by omega) (by rw [hc]; omega)
  have hcov := (linksR_ok R [] h0).cov
  rw [hc] at hfit hcov
  exact finIs_check hF hfit hcov
/-- What Unshape answers, as a map. -/
def MpAns (W W' : World) (n : Nat) (e : Ending) : Prop :=
  Below W.heap.size W W' ∧ ∃ (V : Option Addr) (nv cv : Nat) (U : Option Addr) (nu cu : Nat) (er : Int), e = .returned (.tuple #[.slice V nv cv, .slice U nu cu, .int .i64 er]) ∧ (((er = 9 ∨ er = 8) ∧ nv = 0) ∨ (er = 0 ∧ nu ≤ 1000000 ∧ ∃ cls, Rd W' 4 U nu (cellsC cls) ∧ checkC cls (n : Int) (nv : Nat) = true))
theorem mp_of {W W' : World} {xs : List Int} {o : Opt} {e : Ending} (h : UnAns W W' xs o e) (hb : Below W.heap.size W W') (he : o.err = 0) (hn : xs.length ≤ 1000) : MpAns W W' xs.length e := by
  refine ⟨hb, ?_⟩
  rcases h with ⟨h, _⟩ | ⟨_, _, rfl⟩ | ⟨_, S, hS, h⟩
  · exact absurd he h
  · exact ⟨none, 0, 0, none, 0, 0, 9, rfl, .inl ⟨.inl rfl, rfl⟩⟩
  · have hsm := unS_small hS
    rcases h with ⟨h0, rfl⟩ | ⟨_, _, rfl⟩ | ⟨h0, hne, v, u, l', R, rfl, hR, hF, ho1, ho2⟩
    · refine ⟨none, 0, 0, none, 0, 0, 0, rfl, .inr ⟨rfl, by omega, [], Rd.nil_, ?_⟩⟩
      rw [h0]; rfl
    · exact ⟨none, 0, 0, none, 0, 0, 8, rfl, .inl ⟨.inr rfl, rfl⟩⟩
    · have hck := map_ok h0 hn hR hsm hF
      have hlen : l'.length ≤ 1000000 := by
        have := tiles_len (hF.2 (by omega)).tiles
        omega
      obtain ⟨V, cv, rfl, _⟩ := own_form ho1
      obtain ⟨U, cu, rfl, _⟩ := own_form ho2
      exact ⟨V, _, cv, U, _, cu, 0, rfl, .inr ⟨rfl, hlen, _, Rd.of_own ho2, hck⟩⟩
set_option maxRecDepth 100000 in
set_option maxHeartbeats 8000000 in
theorem unshapeMap_any (A : Option Addr) (n c : Nat) (xs : List Int) (d l t g : Int) (b0 b1 b2 b3 b4 b5 b6 b7 b8 b9 : Bool) (w : World) (hK : KindsAt w) (hr : Rd w 1 A n (xs.map (Value.int .i64))) (hx : ∀ x ∈ xs, KeyI x) (hn : n ≤ maxLen) :
    Calls Tryz.prog 5 #[.slice A n c, .agg #[.int .i64 d, .int .i64 l, .int .i64 t, .int .i64 g, .bool b0, .bool b1, .bool b2, .bool b3, .bool b4, .bool b5, .bool b6, .bool b7, .bool b8, .bool b9]] w fun e w' => e = .returned (.bool true) ∧ Below w.heap.size w w' := by
  have hlen : xs.length = n := by simpa using hr.len1
  unfold maxLen at hn
  obtain ⟨W0, hW0⟩ : ∃ W0, w.alloc (.cells #[.int .i64 d, .int .i64 l, .int .i64 t, .int .i64 g, .bool b0, .bool b1, .bool b2, .bool b3, .bool b4, .bool b5, .bool b6, .bool b7, .bool b8, .bool b9] 24) = W0 := ⟨_, rfl⟩
  have hcel : ∀ (j : Nat) (u : Value), ([Value.int .i64 d, Value.int .i64 l, Value.int .i64 t, Value.int .i64 g, Value.bool b0, Value.bool b1, Value.bool b2, Value.bool b3, Value.bool b4, Value.bool b5, Value.bool b6, Value.bool b7, Value.bool b8, Value.bool b9] : List Value)[j]? = some u → W0.cell? ((⟨w.heap.size, 0, none⟩ : Addr).add j) = some u := by rw [← hW0]; exact cells_new w _ _
  have c0 : W0.cell? ⟨w.heap.size, 0, none⟩ = some (.int .i64 d) := by have := hcel 0 _ rfl; rwa [addNew] at this
  have c1 : W0.cell? ⟨w.heap.size, 1, none⟩ = some (.int .i64 l) := by have := hcel 1 _ rfl; rwa [addNew] at this
  have c2 : W0.cell? ⟨w.heap.size, 2, none⟩ = some (.int .i64 t) := by have := hcel 2 _ rfl; rwa [addNew] at this
  have c3 : W0.cell? ⟨w.heap.size, 3, none⟩ = some (.int .i64 g) := by have := hcel 3 _ rfl; rwa [addNew] at this
  have c4 : W0.cell? ⟨w.heap.size, 4, none⟩ = some (.bool b0) := by have := hcel 4 _ rfl; rwa [addNew] at this
  have c5 : W0.cell? ⟨w.heap.size, 5, none⟩ = some (.bool b1) := by have := hcel 5 _ rfl; rwa [addNew] at this
  have c6 : W0.cell? ⟨w.heap.size, 6, none⟩ = some (.bool b2) := by have := hcel 6 _ rfl; rwa [addNew] at this
  have c7 : W0.cell? ⟨w.heap.size, 7, none⟩ = some (.bool b3) := by have := hcel 7 _ rfl; rwa [addNew] at this
  have c8 : W0.cell? ⟨w.heap.size, 8, none⟩ = some (.bool b4) := by have := hcel 8 _ rfl; rwa [addNew] at this
  have c9 : W0.cell? ⟨w.heap.size, 9, none⟩ = some (.bool b5) := by have := hcel 9 _ rfl; rwa [addNew] at this
  have c10 : W0.cell? ⟨w.heap.size, 10, none⟩ = some (.bool b6) := by have := hcel 10 _ rfl; rwa [addNew] at this
  have c11 : W0.cell? ⟨w.heap.size, 11, none⟩ = some (.bool b7) := by have := hcel 11 _ rfl; rwa [addNew] at this
  have c12 : W0.cell? ⟨w.heap.size, 12, none⟩ = some (.bool b8) := by have := hcel 12 _ rfl; rwa [addNew] at this
  have c13 : W0.cell? ⟨w.heap.size, 13, none⟩ = some (.bool b9) := by have := hcel 13 _ rfl; rwa [addNew] at this
  have hb0 : Below w.heap.size w W0 := by rw [← hW0]; exact below_new _ _
  have HB0 := Lib.hid hb0
  have HK0 := Lib.hid (hK.below hb0)
  have HL := Lib.hid hlen
  have HW0 := Lib.hid hW0
  by_cases hs : n ≤ 60
  · obtain ⟨R, hR⟩ : ∃ R, lettersF ⟨d, l, t, g, b0, b1, b2, b3, b4, b5, b6, b7, b8, b9⟩ = R := ⟨_, rfl⟩
    have he : R.err = 0 := by rw [← hR]; exact letters_err _
    obtain ⟨r0, r1, r2, r3, r4, r5, r6, r7, r8, r9, r10, r11, r12, r13⟩ := R
    have HC := Lib.hid (show W0.cell? ⟨w.heap.size, 0, none⟩ = some (.int .i64 d) ∧ W0.cell? ⟨w.heap.size, 1, none⟩ = some (.int .i64 l) ∧ W0.cell? ⟨w.heap.size, 2, none⟩ = some (.int .i64 t) ∧ W0.cell? ⟨w.heap.size, 3, none⟩ = some (.int .i64 g) ∧ W0.cell? ⟨w.heap.size, 4, none⟩ = some (.bool b0) ∧ W0.cell? ⟨w.heap.size, 5, none⟩ = some (.bool b1) ∧ W0.cell? ⟨w.heap.size, 6, none⟩ = some (.bool b2) ∧ W0.cell? ⟨w.heap.size, 7, none⟩ = some (.bool b3) ∧ W0.cell? ⟨w.heap.size, 8, none⟩ = some (.bool b4) ∧ W0.cell? ⟨w.heap.size, 9, none⟩ = some (.bool b5) ∧ W0.cell? ⟨w.heap.size, 10, none⟩ = some (.bool b6) ∧ W0.cell? ⟨w.heap.size, 11, none⟩ = some (.bool b7) ∧ W0.cell? ⟨w.heap.size, 12, none⟩ = some (.bool b8) ∧ W0.cell? ⟨w.heap.size, 13, none⟩ = some (.bool b9) ∧ Below W0.heap.size W0 W0 from ⟨c0, c1, c2, c3, c4, c5, c6, c7, c8, c9, c10, c11, c12, c13, Below.refl _ _⟩)
    have HLT := Lib.hid (fun W => lettersO_any d l t g b0 b1 b2 b3 b4 b5 b6 b7 b8 b9 ⟨r0, r1, r2, r3, r4, r5, r6, r7, r8, r9, r10, r11, r12, r13⟩ hR W)
    have HU := Lib.hid (fun W b (hP : PropAt W b) (hb : Below W0.heap.size W0 W) => (unUnshape_any A n c b xs r0 r1 r2 r3 r4 r5 r6 r7 r8 r9 r10 r11 r12 r13 W ((hK.below hb0).below hb) hP ((hr.below hb0).below hb) hx (by omega)).mono fun e W' h => (by have := mp_of h.1 h.2 he (by rw [hlen]; omega); rwa [hlen] at this : MpAns W W' n e))
    clear hcel hb0 hK hr hx hW0 hR he hlen
    go_enter Tryz.func5, Tryz.ntmps5
    go_upto_region 3 with fail
    try simp only [HW0.out]
    go_cut [5, 6, 7] (fun t l e wx => ∃ (V : Option Addr) (nv cv : Nat) (U : Option Addr) (nu cu : Nat) (er : Int), t = .slice V nv cv ∧ l = .slice U nu cu ∧ e = .int .i64 er ∧ (((er = 9 ∨ er = 8) ∧ nv = 0) ∨ (er = 0 ∧ nu ≤ 1000000 ∧ ∃ cls, Rd wx 4 U nu (cellsC cls) ∧ checkC cls (n : Int) (nv : Nat) = true)) ∧ Below W0.heap.size W0 wx)
    case first =>
      go_region_held3 (fun w' => w'.cell? ⟨w.heap.size, 0, none⟩ = some (.int .i64 d) ∧ w'.cell? ⟨w.heap.size, 1, none⟩ = some (.int .i64 l) ∧ w'.cell? ⟨w.heap.size, 2, none⟩ = some (.int .i64 t) ∧ w'.cell? ⟨w.heap.size, 3, none⟩ = some (.int .i64 g) ∧ w'.cell? ⟨w.heap.size, 4, none⟩ = some (.bool b0) ∧ w'.cell? ⟨w.heap.size, 5, none⟩ = some (.bool b1) ∧ w'.cell? ⟨w.heap.size, 6, none⟩ = some (.bool b2) ∧ w'.cell? ⟨w.heap.size, 7, none⟩ = some (.bool b3) ∧ w'.cell? ⟨w.heap.size, 8, none⟩ = some (.bool b4) ∧ w'.cell? ⟨w.heap.size, 9, none⟩ = some (.bool b5) ∧ w'.cell? ⟨w.heap.size, 10, none⟩ = some (.bool b6) ∧ w'.cell? ⟨w.heap.size, 11, none⟩ = some (.bool b7) ∧ w'.cell? ⟨w.heap.size, 12, none⟩ = some (.bool b8) ∧ w'.cell? ⟨w.heap.size, 13, none⟩ = some (.bool b9) ∧ Below W0.heap.size W0 w')
        (first
          | exact HC.out
          | exact s14_on HC.out (Below.refl _ _).drew
          | exact s14_on (by assumption) hN
          | exact s14_on HC.out hN
          | exact s14_on (s14_on HC.out (Below.refl _ _).drew) hN
          | exact s14_on (by assumption) hT
          | exact s14_on HC.out hT
          | exact s14_on (s14_on HC.out (Below.refl _ _).drew) hT
          | exact s14_on (by assumption) hU8
          | fail)
        (first
          | (go_at_call 8; with_reducible refine (prNew_any _).mono ?_; rintro e w7 ⟨⟨bp, rfl, hP1⟩, hN⟩)
          | (go_at_call 22; with_reducible refine (HLT.out _).mono ?_; rintro e w7 ⟨rfl, hT⟩)
          | (go_at_call 9; refine (HU.out _ _ (by first | exact hP1 | exact hP1.below hT) (by assumption : _ ∧ _ ∧ _ ∧ _ ∧ _ ∧ _ ∧ _ ∧ _ ∧ _ ∧ _ ∧ _ ∧ _ ∧ _ ∧ _ ∧ Below W0.heap.size W0 _).2.2.2.2.2.2.2.2.2.2.2.2.2.2).mono ?_; rintro e w8 ⟨hU8, V, nv, cv, U, nu, cu, er, rfl, hres⟩)
          | fail)
      all_goals (
        have HB8 := Lib.hid (by assumption : _ ∧ _ ∧ _ ∧ _ ∧ _ ∧ _ ∧ _ ∧ _ ∧ _ ∧ _ ∧ _ ∧ _ ∧ _ ∧ _ ∧ Below W0.heap.size W0 w8).2.2.2.2.2.2.2.2.2.2.2.2.2.2
        have HRS := Lib.hid hres
        clear hN hT hU8 hP1 hres)
      · go_wp2_with fail
        go_meet
        case rel => exact ⟨V, nv, cv, U, nu, cu, er, rfl, rfl, rfl, HRS.out, HB8.out⟩
    case rest =>
      obtain ⟨V, nv, cv, U, nu, cu, er, rfl, rfl, rfl, hres, hb⟩ := hcut
      have HB := Lib.hid (below_self HB0.out hb)
      have HAW := Lib.hid (fun W (h : Below wc.heap.size wc W) => awakeUn_any W ((HK0.out.below hb).below h))
      clear hb c0 c1 c2 c3 c4 c5 c6 c7 c8 c9 c10 c11 c12 c13
      rcases hres with ⟨rfl | rfl, rfl⟩ | ⟨rfl, hnu, cls, hrd, hck⟩
      · go_wp2_with (go_at_call 7; refine (HAW.out _ (Below.refl _ _)).mono ?_; rintro e w9 ⟨rfl, hb9⟩)
        go_ret
        exact ⟨rfl, below_self HB.out hb9⟩
      · go_wp2_with (go_at_call 7; refine (HAW.out _ (Below.refl _ _)).mono ?_; rintro e w9 ⟨rfl, hb9⟩)
        go_ret
        exact ⟨rfl, below_self HB.out hb9⟩
      · have HCH := Lib.hid (prCheckC_any U nu cu cls (n : Int) (nv : Int) wc hrd hnu)
        rw [hck] at HCH
        clear hrd hck
        go_wp2_with (first
          | (go_at_call 23; refine HCH.out.mono ?_; rintro e w8 ⟨rfl, hb8⟩)
          | (go_at_call 7; refine (HAW.out _ hb8).mono ?_; rintro e w9 ⟨rfl, hb9⟩)
          | fail)
        go_ret
        exact ⟨rfl, below_self HB.out (below_self hb8 hb9)⟩
  · clear hr hcel c0 c1 c2 c3 c4 c5 c6 c7 c8 c9 c10 c11 c12 c13 hW0
    have HAW := Lib.hid (awakeUn_any W0 HK0.out)
    go_enter Tryz.func5, Tryz.ntmps5
    go_wp2_with fail
    try simp only [HW0.out]
    refine HAW.out.mono ?_
    rintro e w5 ⟨rfl, hb5⟩
    have HB5 := Lib.hid (below_self HB0.out hb5)
    clear hb5
    go_wp2
    go_ret
    exact ⟨rfl, HB5.out⟩
end Go.Proofs.YtanngknhbgcobaaGreatDoor
