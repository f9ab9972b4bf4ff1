import Derived.Test.YthaickihoagnmaaGreatDoorQB9
import Derived.RangeFuncBox
namespace Go.Proofs.YthaickihoagnmaaGreatDoor
set_option linter.unusedVariables false
set_option linter.unusedSimpArgs false
open Go.RowKit Go.Maps
theorem l12Made_any (a : Option Addr) (c : Nat) (xs : List Int) (k x : Int) (hx : I64 x) (hf : famL xs = true) (w : World) (h : Ints w a xs.length (fun j => xs.getD j 0)) :
    Calls Tryz.prog 120 #[.slice a xs.length c, .agg #[.int .i64 k, .int .i64 x]] w (MadeEnd (mdS xs k x) (chB xs k x) w) := by
  by_cases h0 : k = 0
  · subst h0; exact l12Made_put a c xs x hx hf w h
  by_cases h1 : k = 1
  · subst h1; exact l12Made_take a c xs x hx hf w h
  by_cases h2 : k = 2 ∧ x = 0
  · obtain ⟨rfl, rfl⟩ := h2; exact l12Made_points a c xs hf w h
  by_cases h3 : k = 3 ∧ x = 0
  · obtain ⟨rfl, rfl⟩ := h3; exact l12Made_sums a c xs hf w h
  exact l12Made_none a c xs k x hx h0 h1 h2 h3 hf w h
theorem own_blk (a : Option Addr) (n m c d : Nat) : (Value.slice a n c).ownBlock = (Value.slice a m d).ownBlock := by cases a <;> rfl
theorem FamsO.cut {w : World} {B m c : Nat} {a : Option Addr} {y : Fr} {rs : List Fr} (hm : m = rs.length) (h : FamsO w B (.slice a (m + 1) c) (rs ++ [y])) : FamsO w B (.slice a m c) rs := by
  subst hm
  have hw := h.own
  have hlen : (rs ++ [y]).length = rs.length + 1 := by simp
  rw [hlen] at hw
  have hd := h.dis
  rw [List.map_append, List.nodup_append] at hd
  refine ⟨?_, fun r hr => h.row r (List.mem_append.2 (.inl hr)), hd.1, fun r hr => by rw [own_blk a _ (rs.length + 1) c c]; exact h.apart r (List.mem_append.2 (.inl hr))⟩
  refine ⟨by rw [List.length_map, Nat.mul_one], ?_⟩
  rcases hw.2 with ⟨h1, _⟩ | ⟨g, cap, cur, hv, hB, hg, hc, hmx, hs, ht⟩
  · cases h1
  · injection hv with e1 e2 e3
    subst e1; subst e3
    refine .inr ⟨g, c, cur, rfl, hB, hg, by omega, hmx, hs, ?_⟩
    rw [Nat.mul_one] at ht ⊢
    have : cur.toList.take rs.length = (cur.toList.take (rs.length + 1)).take rs.length := by rw [List.take_take, Nat.min_eq_left (by omega)]
    rw [this, ht, List.map_append, List.take_append_of_le_length (by rw [List.length_map]; exact Nat.le_refl _), List.take_of_length_le (by rw [List.length_map]; exact Nat.le_refl _)]
def GivesP (xs : List Int) (L : List (List Int)) (w w' : World) (v1 v2 : Value) : Prop :=
  ∃ rs, DeskG w' w.heap.size v1 v2 xs rs ∧ rs.map Fr.xs = L ∧ Below w.heap.size w w' ∧ (L.length < 8 → FamsO w' w.heap.size v2 rs)
theorem GivesP.gives {xs : List Int} {L : List (List Int)} {w w' : World} {v1 v2 : Value} (h : GivesP xs L w w' v1 v2) : GivesD xs L w w' v1 v2 := by
  obtain ⟨rs, h1, h2, h3, _⟩ := h
  exact ⟨rs, h1, h2, h3⟩
def DoneP (ok : Bool) (xs : List Int) (L : List (List Int)) (w : World) (e : Ending) (w' : World) : Prop := ∃ v1 v2, e = .returned (.tuple #[.agg #[v1, v2], .bool ok]) ∧ GivesP xs L w w' v1 v2
theorem noDesk_givesP {w w' : World} (hb : Below w.heap.size w w') : GivesP [] [] w w' (.slice none 0 0) (.slice none 0 0) :=
  ⟨[], ⟨OwnX.nil _ _ _, Fams.none _ _ _, fun g hg => by simp [Value.ownBlock] at hg⟩, rfl, hb, fun _ => FamsO.nil _ _⟩
theorem givesP_of {w w8 : World} {R B : Nat} {v1 v2 : Value} {xs : List Int} {L : List (List Int)} {rs : List Fr} (hb : Below w.heap.size w w8) (hR : R = w.heap.size + 1 + 1) (hB : w.heap.size + 3 ≤ B) (hd : DeskG w8 B v1 v2 xs rs) (hrs : rs.map Fr.xs = L) (ho : L.length < 8 → FamsO w8 B v2 rs) :
    GivesP xs L w ((w8.setCell ⟨R, 0, none⟩ v1).setCell ⟨R, 1, none⟩ v2) v1 v2 :=
  ⟨rs, ((hd.put (p := ⟨R, 0, none⟩) (show R < B by omega)).put (p := ⟨R, 1, none⟩) (show R < B by omega)).base (by omega), hrs,
    (hb.setCell (p := ⟨R, 0, none⟩) (show w.heap.size ≤ R by omega) _).setCell (p := ⟨R, 1, none⟩) (show w.heap.size ≤ R by omega) _,
    fun hl => (((ho hl).put (p := ⟨R, 0, none⟩) (show R < B by omega)).put (p := ⟨R, 1, none⟩) (show R < B by omega)).base (by omega)⟩
set_option maxRecDepth 100000 in
set_option maxHeartbeats 3200000 in
theorem specDeskDo_no (d : Value) (xs : List Int) (L : List (List Int)) (k x : Int) (hx : I64 x) (hdk : deskB xs L = false) (w : World) (h : DeskR w d xs L) :
    Calls Tryz.prog 67 #[d, .agg #[.int .i64 k, .int .i64 x]] w (DoneP false [] [] w) := by
  have hdd := h
  obtain ⟨a, c, b, c2, rfl, _⟩ := h.parts
  have hst := start3 w (.slice a xs.length c) (.slice b L.length c2) k x
  have hdr := hdd.kept hst.bel
  obtain ⟨w3, hw3⟩ : ∃ w3, ((w.alloc (.cells #[.slice a xs.length c, .slice b L.length c2] 31)).alloc (.cells #[.int .i64 k, .int .i64 x] 39)).alloc (.cells #[.slice none 0 0, .slice none 0 0] 31) = w3 := ⟨_, rfl⟩
  rw [hw3] at hst hdr
  have HST := Lib.hid hst; have HDR := Lib.hid hdr; have HDK := Lib.hid hdk
  have hd0 := hst.d.cell.1; have hd1 := hst.d.cell.2
  clear h hdd hst hdr hx hdk
  go_enter Tryz.func67, Tryz.ntmps67
  go_wp2_with fail
  refine (specDeskOk_any _ xs L _ HDR.out).mono ?_
  rintro e w4 ⟨rfl, hb4⟩
  rw [HDK.out]
  have hR := HST.out.r.kept hb4 HST.out.r.lt
  have hx0 := hR.cell.1; have hx1 := hR.cell.2; have hx2 := hR.frozen 0; have hx3 := hR.frozen 1
  have HR := Lib.hid hR; have HB := Lib.hid (below_onto HST.out.bel hb4)
  clear hb4 hR hd0 hd1
  go_wp2_with fail
  refine bodyPost_ret (results_desk rfl _ _ (w.heap.size + 1 + 1) ((HR.out.set0 (.slice none 0 0)).set1 (.slice none 0 0)) rfl rfl (by kernel_rfl)) rfl ?_
  exact ⟨_, _, rfl, noDesk_givesP ((HB.out.setCell (p := ⟨w.heap.size + 1 + 1, 0, none⟩) (show w.heap.size ≤ w.heap.size + 1 + 1 by omega) _).setCell (p := ⟨w.heap.size + 1 + 1, 1, none⟩) (show w.heap.size ≤ w.heap.size + 1 + 1 by omega) _)⟩
structure CpP (w : World) (X Y : Value) (k x : Int) (xs : List Int) (L : List (List Int)) (O : Nat) (B : Nat) (v1 v2 : Value) (rs : List Fr) (w6 : World) : Prop where
  d : Blk2 w6 w.heap.size 31 X Y
  e : Blk2 w6 (w.heap.size + 1) 39 (.int .i64 k) (.int .i64 x)
  r : Blk2 w6 (w.heap.size + 1 + 1) 31 (.slice none 0 0) (.slice none 0 0)
  o : Blk2 w6 O 31 v1 v2
  now : OwnX w6 B 3 v1 xs
  own : FamsO w6 B v2 rs
  sep : ∀ g, v1.ownBlock = some g → ¬ FB v2 rs g
  low1 : ∀ g, v1.ownBlock = some g → g < O
  low2 : ∀ g, FB v2 rs g → g < O
  lo : w.heap.size + 3 ≤ B
  bo : B ≤ O
  xs : rs.map Fr.xs = L
  bel : Below w.heap.size w w6
theorem CpP.kept {w w6 w7 : World} {X Y v1 v2 : Value} {k x : Int} {xs : List Int} {L : List (List Int)} {O B : Nat} {rs : List Fr} (h : CpP w X Y k x xs L O B v1 v2 rs w6) (hb : Below w6.heap.size w6 w7) : CpP w X Y k x xs L O B v1 v2 rs w7 :=
  ⟨h.d.kept hb h.d.lt, h.e.kept hb h.e.lt, h.r.kept hb h.r.lt, h.o.kept hb h.o.lt, h.now.kept hb, h.own.kept hb, h.sep, h.low1, h.low2, h.lo, h.bo, h.xs, below_onto h.bel hb⟩
theorem cpP_of {w w3 w4 w5 : World} {X Y v1 v2 : Value} {k x : Int} {xs : List Int} {L : List (List Int)} (hst : Start3 w X Y k x w3) (hb4 : Below w3.heap.size w3 w4) (hg : GivesO xs L w4 w5 v1 v2) :
    ∃ rs, CpP w X Y k x xs L w5.heap.size w4.heap.size v1 v2 rs (w5.alloc (.cells #[v1, v2] 31)) := by
  obtain ⟨rs, h1, h2, h3, h4, h5⟩ := hg
  have hb := below_onto hb4 h5
  have hal := alloc_below w5 (.cells #[v1, v2] 31)
  have hb6 := below_onto hb hal
  have hs := hst.size
  have hs4 := hb4.size
  exact ⟨rs, hst.d.kept hb6 hst.d.lt, hst.e.kept hb6 hst.e.lt, hst.r.kept hb6 hst.r.lt, Blk2.new _ _ _ _, h1.kept hal, h2.kept hal, h3, fun g hg => (h1.lt hg).2, fun g hg => (h2.fams.ltB g hg).2, by omega, h5.size, h4, below_onto hst.bel hb6⟩
theorem CpP.same {w w7 : World} {X Y v1 v2 : Value} {k x : Int} {xs : List Int} {L : List (List Int)} {O B : Nat} {rs : List Fr} (h : CpP w X Y k x xs L O B v1 v2 rs w7) :
    GivesP xs L w ((w7.setCell ⟨w.heap.size + 1 + 1, 0, none⟩ v1).setCell ⟨w.heap.size + 1 + 1, 1, none⟩ v2) v1 v2 :=
  givesP_of h.bel rfl h.lo ⟨h.now, h.own.fams, h.sep⟩ h.xs (fun _ => h.own)
theorem CpP.back {w w6 : World} {X Y v1 v2 : Value} {k x : Int} {xs : List Int} {L : List (List Int)} {O B m c : Nat} {a : Option Addr} {rs : List Fr} {y : Fr} (h : CpP w X Y k x xs L O B v1 (.slice a (m + 1) c) (rs ++ [y]) w6) (hm : m = rs.length) :
    GivesP y.xs (rs.map Fr.xs) w ((((w6.setCell ⟨O, 0, none⟩ y.v).setCell ⟨O, 1, none⟩ (.slice a m c)).setCell ⟨w.heap.size + 1 + 1, 0, none⟩ y.v).setCell ⟨w.heap.size + 1 + 1, 1, none⟩ (.slice a m c)) y.v (.slice a m c) := by
  have hcut := h.own.cut hm
  have hy : y ∈ rs ++ [y] := by simp
  have hlo := h.lo; have hbo := h.bo
  have hne : ∀ g, FB (.slice a m c) rs g → g ≠ O := fun g hg e => by
    have : FB (.slice a (m + 1) c) (rs ++ [y]) g := by
      rcases hg with hg | ⟨r, hr, e⟩
      · exact .inl (by rw [own_blk a _ m c c]; exact hg)
      · exact .inr ⟨r, List.mem_append.2 (.inl hr), e⟩
    have := h.low2 g this
    omega
  have hyo : y.g ≠ O := by have := h.low2 y.g (.inr ⟨y, hy, rfl⟩); omega
  have key : ∀ q, q ≠ O → ((w6.setCell ⟨O, 0, none⟩ y.v).setCell ⟨O, 1, none⟩ (.slice a m c)).heap[q]? = w6.heap[q]? := fun q hq => (set_blk (show q ≠ O from hq)).trans (set_blk (show q ≠ O from hq))
  have hcut' : FamsO ((w6.setCell ⟨O, 0, none⟩ y.v).setCell ⟨O, 1, none⟩ (.slice a m c)) B (.slice a m c) rs := hcut.same (fun g hg => key g (hne g hg))
  have hrow' : OwnX ((w6.setCell ⟨O, 0, none⟩ y.v).setCell ⟨O, 1, none⟩ (.slice a m c)) B 3 y.v y.xs := (h.own.row y hy).blk (key _ hyo)
  refine givesP_of ((h.bel.setCell (p := ⟨O, 0, none⟩) (show w.heap.size ≤ O by omega) _).setCell (p := ⟨O, 1, none⟩) (show w.heap.size ≤ O by omega) _) rfl h.lo ⟨hrow', hcut'.fams, fun g hg hf => ?_⟩ rfl (fun _ => hcut')
  rw [Fr.block] at hg
  injection hg with hg
  subst hg
  rcases hf with hf | ⟨r, hr, e⟩
  · rw [own_blk a m (m + 1) c c] at hf; exact h.own.apart y hy hf
  · have hd := h.own.dis
    rw [List.map_append, List.nodup_append] at hd
    exact hd.2.2 r.g (List.mem_map.2 ⟨r, hr, rfl⟩) y.g (by simp) e
end Go.Proofs.YthaickihoagnmaaGreatDoor
namespace Go.Proofs.YthaickihoagnmaaGreatDoor
set_option linter.unusedVariables false
set_option linter.unusedSimpArgs false
open Go.RowKit Go.Maps
theorem CpP.change {w w7 w8 W : World} {X Y v1 v2 vm v' : Value} {k x : Int} {xs ys : List Int} {L L' : List (List Int)} {O B S6 : Nat} {rs rs' : List Fr} (h : CpP w X Y k x xs L O B v1 v2 rs w7) (hO : O < S6) (hm : OwnX w7 S6 3 vm ys) (hu : Upon (fun q => v2.ownBlock = some q) w7 w8)
    (hf : Fams w8 B v' rs') (hFB : ∀ g, FB v' rs' g → g < O ∨ w7.heap.size ≤ g) (hkey : ∀ q, q ≠ O → W.heap[q]? = w8.heap[q]?) (hsz : w8.heap.size ≤ W.heap.size) (hb : Below w.heap.size w W) (hrs : rs'.map Fr.xs = L') (ho : L'.length < 8 → FamsO w8 B v' rs') :
    GivesP ys L' w ((W.setCell ⟨w.heap.size + 1 + 1, 0, none⟩ vm).setCell ⟨w.heap.size + 1 + 1, 1, none⟩ v') vm v' := by
  have hlo := h.lo; have hbo := h.bo
  have hOl := h.o.lt
  have hne : ∀ g, FB v' rs' g → g ≠ O := fun g hg => by have := hFB g hg; omega
  have hmw : OwnX W B 3 vm ys := (hm.other (fun g hg hBg hgl => (hkey g (by omega)).trans (hu.block g hgl (fun e => by have := h.low2 g (.inl e); omega)))).base (by omega)
  refine givesP_of hb rfl h.lo ⟨hmw, hf.same hsz (fun g hg => hkey g (hne g hg)), fun g hg hq => ?_⟩ hrs (fun hl => (ho hl).same (fun g hg => hkey g (hne g hg)))
  have h1 := hm.lt hg
  have h2 := hFB g hq
  omega
theorem dk_other {xs : List Int} {L : List (List Int)} {k x : Int} (hdk : deskB xs L = true) (hB : ¬ (k = 4 ∧ x = 0 ∧ L ≠ [])) :
    dkB xs L k x = chB xs k x ∧ (dkX xs L k x = if chB xs k x then mdS xs k x else xs) ∧ (dkL xs L k x = if chB xs k x then (L ++ [xs]).drop (L.length - 7) else L) := by
  by_cases hk4 : k = 4
  · subst hk4
    have hc : chB xs 4 x = false := by
      have : mdL xs 4 x = [] := rfl
      exact chB_fam (by rw [this]; exact famL_nil)
    have hb : dkB xs L 4 x = false := by
      by_cases hx : x = 0
      · subst hx
        rw [dkB_back hdk]
        exact decide_eq_false (fun h => hB ⟨rfl, rfl, h⟩)
      · exact dkB_text (by
          cases hd : dOk 4 x with
          | false => rfl
          | true => have := dOk_iff.1 hd; omega)
    rw [hc, hb]
    exact ⟨rfl, (dk_no hb hdk).1, (dk_no hb hdk).2⟩
  · have hb := dkB_ch (x := x) hdk hk4
    refine ⟨hb, ?_, ?_⟩
    · cases hc : chB xs k x with
      | false => rw [hc] at hb; exact (dk_no hb hdk).1
      | true => rw [if_pos rfl, ms_md (chB_iff.1 hc).1]; exact (dk_ch hdk hk4 hc).1
    · cases hc : chB xs k x with
      | false => rw [hc] at hb; exact (dk_no hb hdk).2
      | true => exact (dk_ch hdk hk4 hc).2
set_option maxRecDepth 100000 in
set_option maxHeartbeats 3200000 in
theorem specDeskDo_back (d : Value) (xs : List Int) (L : List (List Int)) (hdk : deskB xs L = true) (hne : L ≠ []) (w : World) (h : DeskR w d xs L) :
    Calls Tryz.prog 67 #[d, .agg #[.int .i64 4, .int .i64 0]] w (DoneP true (L.getLastD []) L.dropLast w) := by
  obtain ⟨m, hm⟩ : ∃ m, L.length = m + 1 := by
    cases L with
    | nil => exact absurd rfl hne
    | cons l L => exact ⟨L.length, rfl⟩
  obtain ⟨y0, hy0⟩ : ∃ y0, L.getLastD [] = y0 := ⟨_, rfl⟩
  obtain ⟨M, hM⟩ : ∃ M, L.dropLast = M := ⟨_, rfl⟩
  rw [hy0, hM]
  have HLM := Lib.hid (show L = M ++ [y0] by
    rw [← hM, ← hy0, List.getLastD_eq_getLast?, List.getLast?_eq_some_getLast hne]
    exact (List.dropLast_concat_getLast hne).symm)
  have HM := Lib.hid hm
  clear hy0 hM hne hm
  have hdd := h
  obtain ⟨a, c, b, c2, rfl, hi, hnst⟩ := h.parts
  obtain ⟨hf, h8, hL⟩ := deskB_iff.1 hdk
  have hlen := famL_len hf
  obtain ⟨n, hnn⟩ : ∃ n, L.length = n := ⟨_, rfl⟩
  have HNN := Lib.hid hnn
  have hst := start3 w (.slice a xs.length c) (.slice b L.length c2) 4 0
  have hnm : n = m + 1 := by rw [← hnn, HM.out]
  rw [hnn] at hst h8
  have hdr := hdd.kept hst.bel
  rw [hnn] at hdr ⊢
  have hi3 := hi.below hst.bel (Nat.le_refl _)
  obtain ⟨w3, hw3⟩ : ∃ w3, ((w.alloc (.cells #[.slice a xs.length c, .slice b n c2] 31)).alloc (.cells #[.int .i64 (4), .int .i64 (0)] 39)).alloc (.cells #[.slice none 0 0, .slice none 0 0] 31) = w3 := ⟨_, rfl⟩
  rw [hw3] at hst hdr hi3
  have HST := Lib.hid hst; have HDR := Lib.hid hdr; have HDK := Lib.hid hdk; have HI := Lib.hid hi3; have HF := Lib.hid hf
  have hd0 := hst.d.cell.1; have hd1 := hst.d.cell.2
  clear h hdd hst hdr hdk hi hnst hL hi3 hf hnn
  have heq := fun W => eqDeedV_val 4 0 4 0 true rfl W
  have hgt : decide ((0 : Int) < (n : Int)) = true := decide_eq_true (by omega)
  have hgt2 : decide (0 < n) = true := decide_eq_true (by omega)
  have hn1 : (n : Int) - 1 = (m : Int) := by omega
  have hm0 : (0 : Int) ≤ (m : Int) := by omega
  have hmn : (m : Int) < (n : Int) := by omega
  have HNM := Lib.hid hnm
  clear hnm
  go_enter Tryz.func67, Tryz.ntmps67
  go_wp2_with fail
  clear hw3
  refine (specDeskOk_any _ xs L _ HDR.out).mono ?_
  rintro e w4 ⟨rfl, hb4⟩
  rw [HDK.out]
  have HB4 := Lib.hid hb4
  have hD := HST.out.d.kept hb4 HST.out.d.lt
  have he0 := hD.cell.1; have he1 := hD.cell.2
  clear hb4 hD hd0 hd1
  go_wp2_with fail
  refine (l12Copy_any _ xs L HDK.out _ (HDR.out.kept HB4.out)).mono ?_
  rintro e w5 ⟨v1, v2, rfl, hg⟩
  obtain ⟨rs, hcp⟩ := cpP_of HST.out HB4.out hg
  have HGB := Lib.hid hg.desk.below
  obtain ⟨p1, e1, rfl⟩ := hcp.now.slice
  obtain ⟨p2, e2, hv2⟩ := hcp.own.fams.seq.slice
  have hrl : rs.length = n := by rw [← HNN.out, ← hcp.xs, List.length_map]
  rw [List.length_map, hrl] at hv2
  subst hv2
  have HRL := Lib.hid hrl
  obtain ⟨O, hO⟩ : ∃ O, w5.heap.size = O := ⟨_, rfl⟩
  obtain ⟨B, hB⟩ : ∃ B, w4.heap.size = B := ⟨_, rfl⟩
  obtain ⟨w6, hw6⟩ : ∃ w6, w5.alloc (.cells #[.slice p1 xs.length e1, .slice p2 n e2] 31) = w6 := ⟨_, rfl⟩
  rw [hO, hB, hw6] at hcp
  have HC := Lib.hid hcp
  have hc0 := hcp.d.cell.1; have hc1 := hcp.d.cell.2; have hk0 := hcp.e.cell.1; have hk1 := hcp.e.cell.2
  clear he0 he1 hrl hB hg hcp
  obtain ⟨rs', y, hrs⟩ : ∃ rs' y, rs = rs' ++ [y] := by
    rcases List.eq_nil_or_concat rs with e | ⟨rs', y, e⟩
    · have := HRL.out; rw [e] at this; have := HNM.out; simp at *; omega
    · exact ⟨rs', y, by rw [e, List.concat_eq_append]⟩
  subst hrs
  have hrm : m = rs'.length := by have h1 := HRL.out; have h2 := HNM.out; rw [List.length_append, List.length_singleton] at h1; omega
  have hxs := HC.out.xs
  rw [HLM.out, List.map_append] at hxs
  obtain ⟨hx1, hx2⟩ := List.append_inj' hxs rfl
  have hy : y.xs = y0 := by simpa using hx2
  have HX1 := Lib.hid hx1; have HRM := Lib.hid hrm
  obtain ⟨gy, cy, xy⟩ := y
  have hy' : xy = y0 := hy
  subst hy'
  have hp2 : ∃ g2, p2 = some ⟨g2, 0, none⟩ := by
    rcases HC.out.own.own.2 with ⟨h1, _⟩ | ⟨g, cap, cur, hv, _⟩
    · exact absurd h1 (by intro e; injection e with e1 e2 e3; have := HNM.out; omega)
    · injection hv with e1 e2 e3; exact ⟨g, e1⟩
  obtain ⟨g2, rfl⟩ := hp2
  have hcell : w6.cell? ⟨g2, m, none⟩ = some (.slice (some ⟨gy, 0, none⟩) xy.length cy) := by
    have := fams_cells (by simp) HC.out.own.fams m (.slice (some ⟨gy, 0, none⟩) xy.length cy) (by rw [List.map_append, List.getElem?_append_right (by rw [List.length_map, hrm]; exact Nat.le_refl _), List.length_map, hrm, Nat.sub_self]; rfl)
    rwa [Nat.zero_add] at this
  have ho0 := HC.out.o.cell.1; have ho1 := HC.out.o.cell.2; have hf0 := HC.out.o.frozen 0; have hf1 := HC.out.o.frozen 1
  have hR := HC.out.r
  have hr0 := hR.cell.1; have hr1 := hR.cell.2; have hr2 := hR.frozen 0; have hr3 := hR.frozen 1
  have hne1 : ¬ g2 = O := by have := HC.out.low2 g2 (.inl rfl); omega
  have hne2 : ¬ O = w.heap.size + 1 + 1 := by have h1 := HC.out.lo; have h2 := HC.out.bo; omega
  have hne3 : ¬ w.heap.size + 1 + 1 = O := fun e => hne2 e.symm
  have hcap : m ≤ n ∧ n ≤ e2 := by
    obtain ⟨q1, q2, _⟩ := HC.out.own.cap (by have := HNM.out; omega)
    have := HNM.out; omega
  have hcut := fun W => run_cut g2 0 n e2 m hcap.1 hcap.2 W
  have HR := Lib.hid hR
  have HCC : Hid (CpP w (.slice a xs.length c) (.slice b (m + 1) c2) 4 0 xs L O B (.slice p1 xs.length e1) (.slice (some ⟨g2, 0, none⟩) (m + 1) e2) (rs' ++ [⟨gy, cy, xy⟩]) w6) := Lib.hid (by
    have := HC.out
    rw [HNM.out] at this
    exact this)
  have HG := Lib.hid (HCC.out.back (v2 := undef) hrm)
  rw [hx1] at HG
  clear hR hrm hxs hx1 hx2 hy hcap
  go_wp2_with fail
  refine bodyPost_ret (results_desk rfl _ _ (w.heap.size + 1 + 1) ((((HR.out.other hne3 0 (.slice (some ⟨gy, 0, none⟩) xy.length cy)).other hne3 1 (.slice (some ⟨g2, 0, none⟩) m e2)).set0 (.slice (some ⟨gy, 0, none⟩) xy.length cy)).set1 (.slice (some ⟨g2, 0, none⟩) m e2)) rfl rfl (by kernel_rfl)) rfl ?_
  exact ⟨_, _, rfl, HG.out⟩
set_option maxRecDepth 100000 in
set_option maxHeartbeats 3200000 in
theorem specDeskDo_yes (d : Value) (xs : List Int) (L : List (List Int)) (k x : Int) (hx : I64 x) (hdk : deskB xs L = true) (hne : ¬ (k = 4 ∧ x = 0)) (hcb : chB xs (k) (x) = true) (w : World) (h : DeskR w d xs L) :
    Calls Tryz.prog 67 #[d, .agg #[.int .i64 k, .int .i64 x]] w (DoneP (chB xs (k) (x)) (if chB xs (k) (x) then mdS xs (k) (x) else xs) (if chB xs (k) (x) then (L ++ [xs]).drop (L.length - 7) else L) w) := by
  have e1 : ∀ A : List Int, (if chB xs (k) (x) = true then A else xs) = A := fun A => by rw [hcb]; rfl
  have e2 : ∀ A : List (List Int), (if chB xs (k) (x) = true then A else L) = A := fun A => by rw [hcb]; rfl
  rw [e1, e2, hcb]
  have HCB := Lib.hid hcb
  obtain ⟨ys, hys⟩ : ∃ ys, mdS xs (k) (x) = ys := ⟨_, rfl⟩
  rw [hys]
  have HYS := Lib.hid hys
  clear hcb e1 e2 hys
  have hdd := h
  obtain ⟨a, c, b, c2, rfl, hi, hnst⟩ := h.parts
  obtain ⟨hf, h8, hL⟩ := deskB_iff.1 hdk
  have hlen := famL_len hf
  obtain ⟨n, hnn⟩ : ∃ n, L.length = n := ⟨_, rfl⟩
  have HNN := Lib.hid hnn
  have hst := start3 w (.slice a xs.length c) (.slice b L.length c2) k x
  rw [hnn] at hst h8
  have hdr := hdd.kept hst.bel
  rw [hnn] at hdr ⊢
  have hi3 := hi.below hst.bel (Nat.le_refl _)
  obtain ⟨w3, hw3⟩ : ∃ w3, ((w.alloc (.cells #[.slice a xs.length c, .slice b n c2] 31)).alloc (.cells #[.int .i64 (k), .int .i64 (x)] 39)).alloc (.cells #[.slice none 0 0, .slice none 0 0] 31) = w3 := ⟨_, rfl⟩
  rw [hw3] at hst hdr hi3
  have HST := Lib.hid hst; have HDR := Lib.hid hdr; have HDK := Lib.hid hdk; have HI := Lib.hid hi3; have HF := Lib.hid hf
  have hd0 := hst.d.cell.1; have hd1 := hst.d.cell.2
  clear h hdd hst hdr hdk hi hnst hL hi3 hf hnn
  have heq := fun W => eqDeedV_val k x 4 0 false (by rw [Bool.and_eq_false_iff]; simp; omega) W
  clear hne
  go_enter Tryz.func67, Tryz.ntmps67
  go_wp2_with fail
  clear hw3
  refine (specDeskOk_any _ xs L _ HDR.out).mono ?_
  rintro e w4 ⟨rfl, hb4⟩
  rw [HDK.out]
  have HB4 := Lib.hid hb4
  have hD := HST.out.d.kept hb4 HST.out.d.lt
  have he0 := hD.cell.1; have he1 := hD.cell.2
  clear hb4 hD hd0 hd1
  go_wp2_with fail
  refine (l12Copy_any _ xs L HDK.out _ (HDR.out.kept HB4.out)).mono ?_
  rintro e w5 ⟨v1, v2, rfl, hg⟩
  obtain ⟨rs, hcp⟩ := cpP_of HST.out HB4.out hg
  have HGB := Lib.hid hg.desk.below
  obtain ⟨p1, e1, rfl⟩ := hcp.now.slice
  obtain ⟨p2, e2, hv2⟩ := hcp.own.fams.seq.slice
  have hrl : rs.length = n := by rw [← HNN.out, ← hcp.xs, List.length_map]
  rw [List.length_map, hrl] at hv2
  subst hv2
  have HRL := Lib.hid hrl
  obtain ⟨O, hO⟩ : ∃ O, w5.heap.size = O := ⟨_, rfl⟩
  obtain ⟨B, hB⟩ : ∃ B, w4.heap.size = B := ⟨_, rfl⟩
  obtain ⟨w6, hw6⟩ : ∃ w6, w5.alloc (.cells #[.slice p1 xs.length e1, .slice p2 n e2] 31) = w6 := ⟨_, rfl⟩
  rw [hO, hB, hw6] at hcp
  have HC := Lib.hid hcp
  have hc0 := hcp.d.cell.1; have hc1 := hcp.d.cell.2; have hk0 := hcp.e.cell.1; have hk1 := hcp.e.cell.2
  clear he0 he1 hrl hB hg hcp
  have HW6 := Lib.hid (show Below w3.heap.size w3 w6 from by rw [← hw6]; exact (below_onto HB4.out HGB.out).alloc (by have := (below_onto HB4.out HGB.out).size; omega) _)
  go_wp2_with fail
  clear hw6 hO
  refine (l12Made_any a c xs (k) (x) hx HF.out _ (HI.out.below HW6.out (Nat.le_refl _))).mono ?_
  rintro e w7 ⟨gm, cm, rfl, hom, hb7⟩
  have HC7 := Lib.hid (HC.out.kept hb7)
  have HO6 := Lib.hid HC.out.o.lt
  have HOM := Lib.hid hom
  have ho0 := HC7.out.o.cell.1; have ho1 := HC7.out.o.cell.2; have hf0 := HC7.out.o.frozen 0; have hf1 := HC7.out.o.frozen 1
  have hR := HC7.out.r
  have hr0 := hR.cell.1; have hr1 := hR.cell.2; have hr2 := hR.frozen 0; have hr3 := hR.frozen 1
  have HR := Lib.hid hR
  clear hom hb7 hR hc0 hc1 hk0 hk1
  rw [HYS.out] at HOM ⊢
  rw [HCB.out]
  have hne2 : ¬ O = w.heap.size + 1 + 1 := by have h1 := HC.out.lo; have h2 := HC.out.bo; omega
  have hne3 : ¬ w.heap.size + 1 + 1 = O := fun e => hne2 e.symm
  obtain ⟨g1, c1, hv1, _⟩ := HC7.out.now.shape hlen.1
  injection hv1 with h1 h2 h3
  subst h1; subst h3; clear h2
  have HA1 := Lib.hid (fun r (hr : r ∈ rs) (e : r.g = g1) => HC7.out.sep g1 rfl (.inr ⟨r, hr, e⟩))
  have HA2 : Hid ((Value.slice p2 n e2).ownBlock ≠ some g1) := Lib.hid (fun e => HC7.out.sep g1 rfl (.inl e))
  have HA3 := Lib.hid (show B ≤ w7.heap.size from by have h1 := HC7.out.o.lt; have h2 := HC7.out.bo; omega)
  have HA4 := Lib.hid (show rs.length ≤ 1000 by rw [HRL.out]; omega)
  go_wp2_with (at_builtin; refine append_fr rfl (.tmp 52) (.tmp 55) rfl B (.slice p2 n e2) rs ⟨g1, e1, xs⟩ w7 rfl rfl HC7.out.own HA4.out HC7.out.now HA1.out HA2.out HA3.out ?_)
  intro g9 c9 w8 ho9 hb9 hu9 hat9
  rw [HRL.out] at ho9 ⊢
  have HO9 := Lib.hid ho9; have HU9 := Lib.hid hu9
  have HAT := Lib.hid (show ∀ q, FB (.slice (some ⟨g9, 0, none⟩) (n + 1) c9) (rs ++ [⟨g1, e1, xs⟩]) q → q < O ∨ w7.heap.size ≤ q from fun q hq => by
    rcases hq with hq | ⟨r, hr, e⟩
    · injection hq with hq
      have hq : g9 = q := hq
      rcases hat9 with h | h
      · have := HC7.out.low2 g9 (.inl h); omega
      · omega
    · rcases List.mem_append.1 hr with hr | hr
      · have := HC7.out.low2 r.g (.inr ⟨r, hr, rfl⟩); omega
      · rw [List.mem_singleton] at hr
        subst hr
        have e : g1 = q := e
        have := HC7.out.low1 g1 rfl; omega)
  have hO8 : Blk2 w8 O 31 (.slice (some ⟨g1, 0, none⟩) xs.length e1) (.slice p2 n e2) := (hu9.block O HC7.out.o.lt (fun e => by have := HC7.out.low2 O (.inl e); omega)).trans HC7.out.o
  have hR8 : Blk2 w8 (w.heap.size + 1 + 1) 31 (.slice none 0 0) (.slice none 0 0) := (hu9.block _ HC7.out.r.lt (fun e => by have h1 := (HC7.out.own.fams.ltB _ (.inl e)).1; have h2 := HC7.out.lo; omega)).trans HC7.out.r
  have hs0 := hO8.cell.1; have hs1 := hO8.cell.2; have ht0 := hO8.frozen 0; have ht1 := hO8.frozen 1
  have hu0 := hR8.cell.1; have hu1 := hR8.cell.2; have hu2 := hR8.frozen 0; have hu3 := hR8.frozen 1
  have HR8 := Lib.hid hR8
  have HB8 := Lib.hid (show Below w.heap.size w w8 from HC7.out.bel.trans (hb9.mono (by have := HC7.out.lo; omega)))
  obtain ⟨q1, hcp2, hcp3⟩ := ho9.cap (by omega)
  have HW8 := Lib.hid (show w8.heap.size = w8.heap.size from rfl)
  have HXS := Lib.hid HC7.out.xs
  have HLO := Lib.hid (show w.heap.size ≤ O from by have h1 := HC.out.lo; have h2 := HC.out.bo; omega)
  clear ho9 hb9 hu9 hat9 hO8 hR8 q1 ho0 ho1 hf0 hf1 hr0 hr1 hr2 hr3 HR
  by_cases hn8 : n = 8
  · have hg8 : decide ((8 : Int) < (n : Int) + 1) = true := decide_eq_true (by omega)
    have hg8n : (8 : Int) < (n : Int) + 1 := by omega
    have hsl := fun W => run_from1 g9 n c9 hcp2 (by omega) W
    have HG : Hid (GivesP ys ((L ++ [xs]).drop (n - 7)) w (((((w8.setCell ⟨O, 1, none⟩ (.slice (some ⟨g9, 0, none⟩) (n + 1) c9)).setCell ⟨O, 1, none⟩ (.slice (some ⟨g9, 1, none⟩) n (c9 - 1))).setCell ⟨O, 0, none⟩ (.slice gm ys.length cm)).setCell ⟨w.heap.size + 1 + 1, 0, none⟩ (.slice gm ys.length cm)).setCell ⟨w.heap.size + 1 + 1, 1, none⟩ (.slice (some ⟨g9, 1, none⟩) n (c9 - 1))) (.slice gm ys.length cm) (.slice (some ⟨g9, 1, none⟩) n (c9 - 1))) := Lib.hid (by
      have h9 := HO9.out
      have hl := HRL.out
      have hat := HAT.out
      have hxs := HXS.out
      cases rs with
      | nil => exact absurd hl (by rw [hn8]; simp)
      | cons r rs' =>
        have ht := h9.tail
        refine HC7.out.change HO6.out HOM.out HU9.out ht (fun q hq => hat q (FB_tail hq)) (fun q hq => ((set_blk (show q ≠ O from hq)).trans (set_blk (show q ≠ O from hq))).trans (set_blk (show q ≠ O from hq))) (by simp [World.setCell]) ?_ ?_ (fun hlen => ?_)
        · exact ((HB8.out.setCell (p := ⟨O, 1, none⟩) HLO.out _).setCell (p := ⟨O, 1, none⟩) HLO.out _).setCell (p := ⟨O, 0, none⟩) HLO.out _
        · rw [← hxs, hn8]; simp
        · exfalso
          rw [← hxs, hn8] at hlen
          simp at hlen hl
          omega)
    have HN8 := Lib.hid hn8
    clear hn8
    go_wp2_with fail
    refine bodyPost_ret (results_desk rfl _ _ (w.heap.size + 1 + 1) (((((HR8.out.other hne3 1 (.slice (some ⟨g9, 0, none⟩) (n + 1) c9)).other hne3 1 (.slice (some ⟨g9, 1, none⟩) n (c9 - 1))).other hne3 0 (.slice gm ys.length cm)).set0 (.slice gm ys.length cm)).set1 (.slice (some ⟨g9, 1, none⟩) n (c9 - 1))) rfl rfl (by kernel_rfl)) rfl ?_
    exact ⟨_, _, rfl, HG.out⟩
  · have hg8 : decide ((8 : Int) < (n : Int) + 1) = false := decide_eq_false (by omega)
    have hg8n : ¬ (8 : Int) < (n : Int) + 1 := by omega
    have HG : Hid (GivesP ys ((L ++ [xs]).drop (n - 7)) w ((((w8.setCell ⟨O, 1, none⟩ (.slice (some ⟨g9, 0, none⟩) (n + 1) c9)).setCell ⟨O, 0, none⟩ (.slice gm ys.length cm)).setCell ⟨w.heap.size + 1 + 1, 0, none⟩ (.slice gm ys.length cm)).setCell ⟨w.heap.size + 1 + 1, 1, none⟩ (.slice (some ⟨g9, 0, none⟩) (n + 1) c9)) (.slice gm ys.length cm) (.slice (some ⟨g9, 0, none⟩) (n + 1) c9)) := Lib.hid (by
      refine HC7.out.change HO6.out HOM.out HU9.out HO9.out.fams HAT.out (fun q hq => (set_blk (show q ≠ O from hq)).trans (set_blk (show q ≠ O from hq))) (by simp [World.setCell]) ?_ ?_ (fun _ => HO9.out)
      · exact (HB8.out.setCell (p := ⟨O, 1, none⟩) HLO.out _).setCell (p := ⟨O, 0, none⟩) HLO.out _
      · rw [← HXS.out, show n - 7 = 0 by omega]; simp)
    clear hn8
    go_wp2_with fail
    refine bodyPost_ret (results_desk rfl _ _ (w.heap.size + 1 + 1) ((((HR8.out.other hne3 1 (.slice (some ⟨g9, 0, none⟩) (n + 1) c9)).other hne3 0 (.slice gm ys.length cm)).set0 (.slice gm ys.length cm)).set1 (.slice (some ⟨g9, 0, none⟩) (n + 1) c9)) rfl rfl (by kernel_rfl)) rfl ?_
    exact ⟨_, _, rfl, HG.out⟩
set_option maxRecDepth 100000 in
set_option maxHeartbeats 3200000 in
theorem specDeskDo_keep (d : Value) (xs : List Int) (L : List (List Int)) (k x : Int) (hx : I64 x) (hdk : deskB xs L = true) (hne : ¬ (k = 4 ∧ x = 0)) (hcb : chB xs (k) (x) = false) (w : World) (h : DeskR w d xs L) :
    Calls Tryz.prog 67 #[d, .agg #[.int .i64 k, .int .i64 x]] w (DoneP (chB xs (k) (x)) (if chB xs (k) (x) then mdS xs (k) (x) else xs) (if chB xs (k) (x) then (L ++ [xs]).drop (L.length - 7) else L) w) := by
  have e1 : ∀ A : List Int, (if chB xs (k) (x) = true then A else xs) = xs := fun A => by rw [hcb]; rfl
  have e2 : ∀ A : List (List Int), (if chB xs (k) (x) = true then A else L) = L := fun A => by rw [hcb]; rfl
  rw [e1, e2, hcb]
  have HCB := Lib.hid hcb
  obtain ⟨ys, hys⟩ : ∃ ys, mdS xs (k) (x) = ys := ⟨_, rfl⟩
  have HYS := Lib.hid hys
  clear hcb e1 e2 hys
  have hdd := h
  obtain ⟨a, c, b, c2, rfl, hi, hnst⟩ := h.parts
  obtain ⟨hf, h8, hL⟩ := deskB_iff.1 hdk
  have hlen := famL_len hf
  obtain ⟨n, hnn⟩ : ∃ n, L.length = n := ⟨_, rfl⟩
  have HNN := Lib.hid hnn
  have hst := start3 w (.slice a xs.length c) (.slice b L.length c2) k x
  rw [hnn] at hst h8
  have hdr := hdd.kept hst.bel
  rw [hnn] at hdr ⊢
  have hi3 := hi.below hst.bel (Nat.le_refl _)
  obtain ⟨w3, hw3⟩ : ∃ w3, ((w.alloc (.cells #[.slice a xs.length c, .slice b n c2] 31)).alloc (.cells #[.int .i64 (k), .int .i64 (x)] 39)).alloc (.cells #[.slice none 0 0, .slice none 0 0] 31) = w3 := ⟨_, rfl⟩
  rw [hw3] at hst hdr hi3
  have HST := Lib.hid hst; have HDR := Lib.hid hdr; have HDK := Lib.hid hdk; have HI := Lib.hid hi3; have HF := Lib.hid hf
  have hd0 := hst.d.cell.1; have hd1 := hst.d.cell.2
  clear h hdd hst hdr hdk hi hnst hL hi3 hf hnn
  have heq := fun W => eqDeedV_val k x 4 0 false (by rw [Bool.and_eq_false_iff]; simp; omega) W
  clear hne
  go_enter Tryz.func67, Tryz.ntmps67
  go_wp2_with fail
  clear hw3
  refine (specDeskOk_any _ xs L _ HDR.out).mono ?_
  rintro e w4 ⟨rfl, hb4⟩
  rw [HDK.out]
  have HB4 := Lib.hid hb4
  have hD := HST.out.d.kept hb4 HST.out.d.lt
  have he0 := hD.cell.1; have he1 := hD.cell.2
  clear hb4 hD hd0 hd1
  go_wp2_with fail
  refine (l12Copy_any _ xs L HDK.out _ (HDR.out.kept HB4.out)).mono ?_
  rintro e w5 ⟨v1, v2, rfl, hg⟩
  obtain ⟨rs, hcp⟩ := cpP_of HST.out HB4.out hg
  have HGB := Lib.hid hg.desk.below
  obtain ⟨p1, e1, rfl⟩ := hcp.now.slice
  obtain ⟨p2, e2, hv2⟩ := hcp.own.fams.seq.slice
  have hrl : rs.length = n := by rw [← HNN.out, ← hcp.xs, List.length_map]
  rw [List.length_map, hrl] at hv2
  subst hv2
  have HRL := Lib.hid hrl
  obtain ⟨O, hO⟩ : ∃ O, w5.heap.size = O := ⟨_, rfl⟩
  obtain ⟨B, hB⟩ : ∃ B, w4.heap.size = B := ⟨_, rfl⟩
  obtain ⟨w6, hw6⟩ : ∃ w6, w5.alloc (.cells #[.slice p1 xs.length e1, .slice p2 n e2] 31) = w6 := ⟨_, rfl⟩
  rw [hO, hB, hw6] at hcp
  have HC := Lib.hid hcp
  have hc0 := hcp.d.cell.1; have hc1 := hcp.d.cell.2; have hk0 := hcp.e.cell.1; have hk1 := hcp.e.cell.2
  clear he0 he1 hrl hB hg hcp
  have HW6 := Lib.hid (show Below w3.heap.size w3 w6 from by rw [← hw6]; exact (below_onto HB4.out HGB.out).alloc (by have := (below_onto HB4.out HGB.out).size; omega) _)
  go_wp2_with fail
  clear hw6 hO
  refine (l12Made_any a c xs (k) (x) hx HF.out _ (HI.out.below HW6.out (Nat.le_refl _))).mono ?_
  rintro e w7 ⟨gm, cm, rfl, hom, hb7⟩
  have HC7 := Lib.hid (HC.out.kept hb7)
  have HO6 := Lib.hid HC.out.o.lt
  have HOM := Lib.hid hom
  have ho0 := HC7.out.o.cell.1; have ho1 := HC7.out.o.cell.2; have hf0 := HC7.out.o.frozen 0; have hf1 := HC7.out.o.frozen 1
  have hR := HC7.out.r
  have hr0 := hR.cell.1; have hr1 := hR.cell.2; have hr2 := hR.frozen 0; have hr3 := hR.frozen 1
  have HR := Lib.hid hR
  clear hom hb7 hR hc0 hc1 hk0 hk1
  rw [HYS.out] at HOM ⊢
  rw [HCB.out]
  have HG := Lib.hid HC7.out.same
  go_wp2_with fail
  refine bodyPost_ret (results_desk rfl _ _ (w.heap.size + 1 + 1) ((HR.out.set0 (.slice p1 xs.length e1)).set1 (.slice p2 n e2)) rfl rfl (by kernel_rfl)) rfl ?_
  exact ⟨_, _, rfl, HG.out⟩
set_option maxRecDepth 100000 in
set_option maxHeartbeats 3200000 in
theorem specDeskDo_nil (d : Value) (xs : List Int) (L : List (List Int)) (hdk : deskB xs L = true) (hne : L = []) (hcb : chB xs (4) (0) = false) (w : World) (h : DeskR w d xs L) :
    Calls Tryz.prog 67 #[d, .agg #[.int .i64 4, .int .i64 0]] w (DoneP (chB xs (4) (0)) (if chB xs (4) (0) then mdS xs (4) (0) else xs) (if chB xs (4) (0) then (L ++ [xs]).drop (L.length - 7) else L) w) := by
  have e1 : ∀ A : List Int, (if chB xs (4) (0) = true then A else xs) = xs := fun A => by rw [hcb]; rfl
  have e2 : ∀ A : List (List Int), (if chB xs (4) (0) = true then A else L) = L := fun A => by rw [hcb]; rfl
  rw [e1, e2, hcb]
  have HCB := Lib.hid hcb
  obtain ⟨ys, hys⟩ : ∃ ys, mdS xs (4) (0) = ys := ⟨_, rfl⟩
  have HYS := Lib.hid hys
  clear hcb e1 e2 hys
  have hdd := h
  obtain ⟨a, c, b, c2, rfl, hi, hnst⟩ := h.parts
  obtain ⟨hf, h8, hL⟩ := deskB_iff.1 hdk
  have hlen := famL_len hf
  obtain ⟨n, hnn⟩ : ∃ n, L.length = n := ⟨_, rfl⟩
  have HNN := Lib.hid hnn
  have hst := start3 w (.slice a xs.length c) (.slice b L.length c2) 4 0
  rw [hnn] at hst h8
  have hdr := hdd.kept hst.bel
  rw [hnn] at hdr ⊢
  have hi3 := hi.below hst.bel (Nat.le_refl _)
  obtain ⟨w3, hw3⟩ : ∃ w3, ((w.alloc (.cells #[.slice a xs.length c, .slice b n c2] 31)).alloc (.cells #[.int .i64 (4), .int .i64 (0)] 39)).alloc (.cells #[.slice none 0 0, .slice none 0 0] 31) = w3 := ⟨_, rfl⟩
  rw [hw3] at hst hdr hi3
  have HST := Lib.hid hst; have HDR := Lib.hid hdr; have HDK := Lib.hid hdk; have HI := Lib.hid hi3; have HF := Lib.hid hf
  have hd0 := hst.d.cell.1; have hd1 := hst.d.cell.2
  clear h hdd hst hdr hdk hi hnst hL hi3 hf hnn
  have heq := fun W => eqDeedV_val 4 0 4 0 true rfl W
  have hn0 : n = 0 := by rw [← HNN.out, hne]; rfl
  have hgt : decide ((0 : Int) < (n : Int)) = false := decide_eq_false (by omega)
  have hgt2 : decide (0 < n) = false := decide_eq_false (by omega)
  have hgt3 : ¬ 0 < n := by omega
  clear hne hn0
  go_enter Tryz.func67, Tryz.ntmps67
  go_wp2_with fail
  clear hw3
  refine (specDeskOk_any _ xs L _ HDR.out).mono ?_
  rintro e w4 ⟨rfl, hb4⟩
  rw [HDK.out]
  have HB4 := Lib.hid hb4
  have hD := HST.out.d.kept hb4 HST.out.d.lt
  have he0 := hD.cell.1; have he1 := hD.cell.2
  clear hb4 hD hd0 hd1
  go_wp2_with fail
  refine (l12Copy_any _ xs L HDK.out _ (HDR.out.kept HB4.out)).mono ?_
  rintro e w5 ⟨v1, v2, rfl, hg⟩
  obtain ⟨rs, hcp⟩ := cpP_of HST.out HB4.out hg
  have HGB := Lib.hid hg.desk.below
  obtain ⟨p1, e1, rfl⟩ := hcp.now.slice
  obtain ⟨p2, e2, hv2⟩ := hcp.own.fams.seq.slice
  have hrl : rs.length = n := by rw [← HNN.out, ← hcp.xs, List.length_map]
  rw [List.length_map, hrl] at hv2
  subst hv2
  have HRL := Lib.hid hrl
  obtain ⟨O, hO⟩ : ∃ O, w5.heap.size = O := ⟨_, rfl⟩
  obtain ⟨B, hB⟩ : ∃ B, w4.heap.size = B := ⟨_, rfl⟩
  obtain ⟨w6, hw6⟩ : ∃ w6, w5.alloc (.cells #[.slice p1 xs.length e1, .slice p2 n e2] 31) = w6 := ⟨_, rfl⟩
  rw [hO, hB, hw6] at hcp
  have HC := Lib.hid hcp
  have hc0 := hcp.d.cell.1; have hc1 := hcp.d.cell.2; have hk0 := hcp.e.cell.1; have hk1 := hcp.e.cell.2
  clear he0 he1 hrl hB hg hcp
  have HW6 := Lib.hid (show Below w3.heap.size w3 w6 from by rw [← hw6]; exact (below_onto HB4.out HGB.out).alloc (by have := (below_onto HB4.out HGB.out).size; omega) _)
  go_wp2_with fail
  clear hw6 hO
  refine (l12Made_any a c xs 4 0 (by unfold I64; omega) HF.out _ (HI.out.below HW6.out (Nat.le_refl _))).mono ?_
  rintro e w7 ⟨gm, cm, rfl, hom, hb7⟩
  have HC7 := Lib.hid (HC.out.kept hb7)
  have HO6 := Lib.hid HC.out.o.lt
  have HOM := Lib.hid hom
  have ho0 := HC7.out.o.cell.1; have ho1 := HC7.out.o.cell.2; have hf0 := HC7.out.o.frozen 0; have hf1 := HC7.out.o.frozen 1
  have hR := HC7.out.r
  have hr0 := hR.cell.1; have hr1 := hR.cell.2; have hr2 := hR.frozen 0; have hr3 := hR.frozen 1
  have HR := Lib.hid hR
  clear hom hb7 hR hc0 hc1 hk0 hk1
  rw [HYS.out] at HOM ⊢
  rw [HCB.out]
  have HG := Lib.hid HC7.out.same
  go_wp2_with fail
  refine bodyPost_ret (results_desk rfl _ _ (w.heap.size + 1 + 1) ((HR.out.set0 (.slice p1 xs.length e1)).set1 (.slice p2 n e2)) rfl rfl (by kernel_rfl)) rfl ?_
  exact ⟨_, _, rfl, HG.out⟩
end Go.Proofs.YthaickihoagnmaaGreatDoor
namespace Go.Proofs.YthaickihoagnmaaGreatDoor
set_option linter.unusedVariables false
set_option linter.unusedSimpArgs false
open Go.RowKit Go.Maps
theorem specDeskDo_any (d : Value) (xs : List Int) (L : List (List Int)) (k x : Int) (hx : I64 x) (w : World) (h : DeskR w d xs L) :
    Calls Tryz.prog 67 #[d, .agg #[.int .i64 k, .int .i64 x]] w (DoneP (dkB xs L k x) (dkX xs L k x) (dkL xs L k x) w) := by
  cases hdk : deskB xs L with
  | false =>
    obtain ⟨e1, e2, e3⟩ := dk_none (k := k) (x := x) hdk
    rw [e1, e2, e3]
    exact specDeskDo_no d xs L k x hx hdk w h
  | true =>
    by_cases hB : k = 4 ∧ x = 0 ∧ L ≠ []
    · obtain ⟨rfl, rfl, hne⟩ := hB
      rw [dkB_back hdk, (dk_back hdk hne).1, (dk_back hdk hne).2, decide_eq_true hne]
      exact specDeskDo_back d xs L hdk hne w h
    · obtain ⟨e1, e2, e3⟩ := dk_other hdk hB
      rw [e1, e2, e3]
      by_cases h4 : k = 4 ∧ x = 0
      · obtain ⟨rfl, rfl⟩ := h4
        have hL : L = [] := by
          by_cases hL : L = []
          · exact hL
          · exact absurd ⟨rfl, rfl, hL⟩ hB
        have hcb : chB xs 4 0 = false := chB_fam (by rw [show mdL xs 4 0 = [] from rfl]; exact famL_nil)
        exact specDeskDo_nil d xs L hdk hL hcb w h
      · cases hcb : chB xs k x with
        | true => have := specDeskDo_yes d xs L k x hx hdk h4 hcb w h; rw [hcb] at this; exact this
        | false => have := specDeskDo_keep d xs L k x hx hdk h4 hcb w h; rw [hcb] at this; exact this
def okD (ys : List Int) (M : List (List Int)) : Prop := (ys.length ≤ 7 ∧ I64s ys) ∧ M.length ≤ 8 ∧ ∀ l ∈ M, l.length ≤ 7 ∧ I64s l
theorem okD_nil : okD [] [] := ⟨⟨by simp, fun y hy => by simp at hy⟩, by simp, fun l hl => by simp at hl⟩
theorem okD_desk {ys : List Int} {M : List (List Int)} (h : deskB ys M = true) : okD ys M := by
  obtain ⟨h1, h2, h3⟩ := deskB_iff.1 h
  exact ⟨⟨(famL_len h1).2, famL_I64 h1⟩, h2, fun l hl => ⟨(famL_len (h3 l hl)).2, famL_I64 (h3 l hl)⟩⟩
theorem okD_do (xs : List Int) (L : List (List Int)) (k x : Int) : okD (dkX xs L k x) (dkL xs L k x) := by
  cases hdk : deskB xs L with
  | true => exact okD_desk (dk_desk hdk)
  | false =>
    obtain ⟨_, e2, e3⟩ := dk_none (k := k) (x := x) hdk
    rw [e2, e3]; exact okD_nil
theorem okD_new (xs : List Int) : okD (if famL xs then xs else []) [] := by
  cases h : famL xs with
  | true => exact ⟨⟨(famL_len h).2, famL_I64 h⟩, by simp, fun l hl => by simp at hl⟩
  | false => exact okD_nil
structure DeskV (W : World) (B T b : Nat) (v1 v2 : Value) (ys : List Int) (rs : List Fr) : Prop where
  blk : Blk2 W b 31 v1 v2
  g : DeskG W B v1 v2 ys rs
  ne : ¬ DkBl v1 v2 rs b
  lo : B ≤ b
  hi : b < T ∧ ∀ q, DkBl v1 v2 rs q → q < T
theorem DeskV.kept {W W' : World} {B T b : Nat} {v1 v2 : Value} {ys : List Int} {rs : List Fr} (h : DeskV W B T b v1 v2 ys rs) (hb : Below W.heap.size W W') : DeskV W' B T b v1 v2 ys rs := ⟨h.blk.kept hb h.blk.lt, h.g.kept hb, h.ne, h.lo, h.hi⟩
theorem DeskV.upon {F : Nat → Prop} {W W' : World} {B T b : Nat} {v1 v2 : Value} {ys : List Int} {rs : List Fr} (h : DeskV W B T b v1 v2 ys rs) (hu : Upon F W W') (hF : ∀ q, B ≤ q → q < T → ¬ F q) : DeskV W' B T b v1 v2 ys rs :=
  ⟨(hu.block b h.blk.lt (hF b h.lo h.hi.1)).trans h.blk, h.g.upon hu (fun q hq => hF q (h.g.ltB q hq).1 (h.hi.2 q hq)), h.ne, h.lo, h.hi⟩
theorem DeskV.read {W : World} {B T b : Nat} {v1 v2 : Value} {ys : List Int} {M : List (List Int)} {rs : List Fr} (h : DeskV W B T b v1 v2 ys rs) (hM : rs.map Fr.xs = M) (hk : okD ys M) : DeskR W (.agg #[v1, v2]) ys M := by
  obtain ⟨⟨h1, h2⟩, h3, h4⟩ := hk
  rw [← hM]
  exact h.g.read ⟨by omega, h2⟩ (fun r hr => by have := h4 r.xs (by rw [← hM]; exact List.mem_map.2 ⟨r, hr, rfl⟩); exact ⟨by omega, this.2⟩)
end Go.Proofs.YthaickihoagnmaaGreatDoor
namespace Go.Proofs.YthaickihoagnmaaGreatDoor
set_option linter.unusedVariables false
set_option linter.unusedSimpArgs false
open Go.RowKit Go.Maps
theorem OwnI.lst {w' : World} {B rb m : Nat} {v : Value} (h : OwnI w' B v m) (hm : m ≤ 8) (hrb : rb < B) : ∃ a cap, v = .slice a m cap ∧ LstR w' rb a m := by
  obtain ⟨a, cap, rfl⟩ := h.slice
  refine ⟨a, cap, rfl, by omega, ?_⟩
  by_cases h0 : m = 0
  · exact .inl h0
  · obtain ⟨g, cp, f, hv, hBg, hgl, _, _, hrow, h64, _⟩ := h.shape (by omega)
    injection hv with hv1 hv2 hv3
    subst hv1
    exact .inr ⟨g, f, rfl, hgl, by omega, hrow, h64⟩
end Go.Proofs.YthaickihoagnmaaGreatDoor
namespace Go.Proofs.YthaickihoagnmaaGreatDoor
set_option linter.unusedVariables false
set_option linter.unusedSimpArgs false
open Go.RowKit Go.Maps
theorem blk2_dr3 {w : World} {B : Nat} {t : TypeId} {x y : Value} (h : Blk2 w B t x y) : Blk2 w.drew B t x y := h
theorem alloc_lt3 (w : World) (o : Obj) : w.heap.size < (w.alloc o).heap.size := by rw [alloc_size]; exact Nat.lt_succ_self _
theorem blk2_new_al3 {w w' : World} {t : TypeId} {x y : Value} (h : Below (w.alloc (.cells #[x, y] t)).heap.size (w.alloc (.cells #[x, y] t)) w') : Blk2 w' w.heap.size t x y := (Blk2.new w t x y).kept h (alloc_lt3 w _)
theorem oneDesk_givesP {w w' : World} {v : Value} {xs : List Int} (h : OwnX w' w.heap.size 3 v xs) (hb : Below w.heap.size w w') : GivesP xs [] w w' v (.slice none 0 0) :=
  ⟨[], ⟨h, Fams.none _ _ _, fun g _ hf => by
    rcases hf with hf | ⟨r, hr, _⟩
    · simp [Value.ownBlock] at hf
    · cases hr⟩, rfl, hb, fun _ => FamsO.nil _ _⟩
def NewP (xs : List Int) (w : World) (e : Ending) (w' : World) : Prop :=
  ∃ v1 v2, e = .returned (.tuple #[.agg #[v1, v2], .bool (famL xs)]) ∧ GivesP (if famL xs then xs else []) [] w w' v1 v2
set_option maxRecDepth 100000 in
set_option maxHeartbeats 1600000 in
theorem specDeskNewP_any (a : Option Addr) (xs : List Int) (c : Nat) (w : World) (hi : Ints w a xs.length (fun j => xs.getD j 0)) :
    Calls Tryz.prog 108 #[.slice a xs.length c] w (NewP xs w) := by
  obtain ⟨i0, hii, hz0, hz1, hz2⟩ := info_parts Tryz.infoInt
  have hal := alloc_below w (.cells #[.slice none 0 0, .slice none 0 0] 31)
  have hblk := Blk2.new w 31 (.slice none 0 0) (.slice none 0 0)
  have HI := Lib.hid (hi.below hal (Nat.le_refl _))
  have HAL := Lib.hid hal; have HBL := Lib.hid hblk; have HLT := Lib.hid hblk.lt
  clear hi hal hblk
  cases hf : famL xs with
  | false =>
    have HF := Lib.hid hf; clear hf
    go_enter Tryz.func108, Tryz.ntmps108
    go_wp2_with fail
    refine (specFamilyOk_val a xs.length c (fun j => xs.getD j 0) false _ HF.out HI.out).mono ?_
    rintro e w1 ⟨rfl, hd⟩
    have hb := hd.below
    have HB := Lib.hid (below_onto HAL.out hb)
    have HB1 := Lib.hid (HBL.out.kept hb HLT.out)
    clear hb hd
    have hc0 := HB1.out.cell.1; have hc1 := HB1.out.cell.2; have hg0 := HB1.out.frozen 0; have hg1 := HB1.out.frozen 1
    go_wp2_with fail
    refine bodyPost_ret (results_desk rfl _ _ w.heap.size ((HB1.out.set0 (.slice none 0 0)).set1 (.slice none 0 0)) rfl rfl (by kernel_rfl)) rfl ?_
    unfold NewP
    rw [HF.out]
    exact ⟨_, _, rfl, noDesk_givesP ((HB.out.setCell (Nat.le_refl _) _).setCell (Nat.le_refl _) _)⟩
  | true =>
    have HF := Lib.hid hf
    have hlen := famL_len hf
    clear hf
    obtain ⟨b, o, rfl, hbl, hrow⟩ := HI.out.row hlen.1
    have HRW := Lib.hid hrow; have HLB := Lib.hid hbl
    clear hrow hbl
    go_enter Tryz.func108, Tryz.ntmps108
    go_wp2_with fail
    refine (specFamilyOk_val _ xs.length c (fun j => xs.getD j 0) true _ HF.out HI.out).mono ?_
    rintro e w1 ⟨rfl, hd⟩
    have hb := hd.below
    have HB := Lib.hid (below_onto HAL.out hb)
    have HB1 := Lib.hid (HBL.out.kept hb HLT.out)
    have hr1 := HRW.out.below hb HLB.out
    have hl1 : b < w1.heap.size := Nat.lt_of_lt_of_le HLB.out hb.size
    have hmade : OwnX (w1.alloc (.cells #[] 3)) w1.heap.size 3 (.slice (some ⟨w1.heap.size, 0, none⟩) 0 0) [] := OwnX.made w1 _ (Nat.le_refl _) _
    have HO : Hid ((w1.alloc (.cells #[] 3)).ownsRow w1.heap.size 3 1 (.slice (some ⟨w1.heap.size, 0, none⟩) 0 0) 0 []) := Lib.hid hmade
    have k1 := Lib.hid (rowV_cells (hr1.below (alloc_below w1 (.cells #[] 3)) hl1))
    have k2 := Lib.hid (rowV_one (fun j => xs.getD j 0) xs.length)
    have k3 : Hid (0 + xs.length ≤ maxLen) := Lib.hid (by unfold maxLen; omega)
    have k4 : Hid ((0 + xs.length) * 8 ≤ 140737488355328) := Lib.hid (by omega)
    have k5 : Hid (w1.heap.size ≤ (w1.alloc (.cells #[] 3)).heap.size) := Lib.hid (by rw [alloc_size]; omega)
    have k6 : Hid ((rowV (fun j => xs.getD j 0) xs.length).length = xs.length * 1) := Lib.hid (by rw [rowV_len]; omega)
    have HAB := Lib.hid (alloc_below w1 (.cells #[] 3))
    clear hb hd hr1 hl1 hmade
    go_wp2_with (at_builtin; refine wpList_append_own _ rfl (.tmp 8) (.tmp 9) 28 rfl w1.heap.size 3 i0 (.int .i64 0) 1 8 Tryz.underlying28 hii hz0 hz1 hz2 rfl (by decide) _ _ _ rfl HO.out ⟨b, o, none⟩ xs.length c (rowV (fun j => xs.getD j 0) xs.length) rfl k6.out k1.out k2.out k3.out k4.out k5.out ?_)
    intro v8 w8 hown8 hgrow8 _
    have hb : Below w1.heap.size w1 w8 := HAB.out.trans ((Below.refl w1.heap.size _).grown hgrow8 k5.out (fun q hq => (HO.out.lt q hq).1))
    have hown := OwnX.rowV hown8
    rw [famL_get2] at hown
    obtain ⟨va, vc, rfl⟩ := hown.slice
    have HB2 := Lib.hid (HB1.out.kept hb HB1.out.lt)
    have HBB := Lib.hid (HB.out.trans (hb.mono HB.out.size))
    have HOW := Lib.hid ((hown.other (w' := (w8.setCell ⟨w.heap.size, 0, none⟩ (.slice va xs.length vc)).setCell ⟨w.heap.size, 1, none⟩ (.slice none 0 0)) (fun g _ hBg _ => by
      have hne : g ≠ w.heap.size := by have := HB1.out.lt; omega
      exact (Below.heap_setCell _ ⟨w.heap.size, 1, none⟩ _ g hne).trans (Below.heap_setCell _ ⟨w.heap.size, 0, none⟩ _ g hne))).base HB.out.size)
    clear hown hb hown8 hgrow8 k1 k2 k3 k4 k5 k6 HO HAB
    have hc0 := HB2.out.cell.1; have hc1 := HB2.out.cell.2; have hg0 := HB2.out.frozen 0; have hg1 := HB2.out.frozen 1
    go_wp2_with fail
    refine bodyPost_ret (results_desk rfl _ _ w.heap.size ((HB2.out.set0 (.slice va xs.length vc)).set1 (.slice none 0 0)) rfl rfl (by kernel_rfl)) rfl ?_
    unfold NewP
    rw [HF.out]
    exact ⟨_, _, rfl, oneDesk_givesP HOW.out ((HBB.out.setCell (Nat.le_refl _) _).setCell (Nat.le_refl _) _)⟩
theorem dkL_len (xs : List Int) (L : List (List Int)) (k x : Int) : (dkL xs L k x).length ≤ L.length + 1 := by
  unfold dkL
  split
  · split
    · rw [List.length_dropLast]; omega
    · rw [List.length_drop, List.length_append, List.length_singleton]; omega
  · split
    · omega
    · simp
theorem FamsO.only {w w' : World} {B rb : Nat} {v : Value} {rs : List Fr} (h : FamsO w B v rs) (ho : Only rb w w') (hrb : rb < B) : FamsO w' B v rs :=
  h.same (fun g hg => ho.block g (h.fams.ltB g hg).2 (by have := (h.fams.ltB g hg).1; omega))
theorem DeskG.only {w w' : World} {B rb : Nat} {v1 v2 : Value} {xs : List Int} {rs : List Fr} (h : DeskG w B v1 v2 xs rs) (ho : Only rb w w') (hrb : rb < B) : DeskG w' B v1 v2 xs rs :=
  h.upon (Upon.of_only ho) (fun q hq e => by have := (h.ltB q hq).1; have e : q = rb := e; omega)
theorem DeskV.only {w w' : World} {B T b rb : Nat} {v1 v2 : Value} {xs : List Int} {rs : List Fr} (h : DeskV w B T b v1 v2 xs rs) (ho : Only rb w w') (hrb : rb < B) : DeskV w' B T b v1 v2 xs rs :=
  ⟨h.blk.only ho (by have := h.lo; omega), h.g.only ho hrb, h.ne, h.lo, h.hi⟩
def okD9 (ys : List Int) (M : List (List Int)) : Prop := (ys.length ≤ 8 ∧ I64s ys) ∧ M.length ≤ 9 ∧ ∀ l ∈ M, l.length ≤ 8 ∧ I64s l
theorem okD.nine {ys : List Int} {M : List (List Int)} (h : okD ys M) : okD9 ys M := ⟨⟨by have := h.1.1; omega, h.1.2⟩, by have := h.2.1; omega, fun l hl => ⟨by have := (h.2.2 l hl).1; omega, (h.2.2 l hl).2⟩⟩
theorem okD9.read {W : World} {B : Nat} {v1 v2 : Value} {ys : List Int} {M : List (List Int)} {rs : List Fr} (hk : okD9 ys M) (h : DeskG W B v1 v2 ys rs) (hM : rs.map Fr.xs = M) : DeskR W (.agg #[v1, v2]) ys M := by
  obtain ⟨⟨h1, h2⟩, h3, h4⟩ := hk
  rw [← hM]
  exact h.read ⟨by omega, h2⟩ (fun r hr => by have := h4 r.xs (by rw [← hM]; exact List.mem_map.2 ⟨r, hr, rfl⟩); exact ⟨by omega, this.2⟩)
def DeskDrawn (rb P : Nat) (w : World) (e : Ending) (w' : World) : Prop :=
  ∃ v1 v2 xs rs, e = .returned (.agg #[v1, v2]) ∧ DeskG w' w.heap.size v1 v2 xs rs ∧ okD9 xs (rs.map Fr.xs) ∧ Only rb w w' ∧ Rdr w' rb (P + 1100)
def CutD (rb P j : Nat) (w : World) (s1 s2 : Value) (wx : World) : Prop :=
  ∃ b T v1 v2 xs rs ok, s1 = .pointer (some ⟨b, 0, none⟩) ∧ s2 = .bool ok ∧ DeskV wx w.heap.size T b v1 v2 xs rs ∧ FamsO wx w.heap.size v2 rs ∧ okD xs (rs.map Fr.xs) ∧ rs.length ≤ j ∧ T ≤ wx.heap.size ∧ Only rb w wx ∧ Rdr wx rb P
structure DrS (rb P : Nat) (w : World) (B A j : Nat) (v1 v2 : Value) (xs : List Int) (rs : List Fr) (wr : World) : Prop where
  blk : Blk2 wr A 31 v1 v2
  r : Blk2 wr w.heap.size 31 (.slice none 0 0) (.slice none 0 0)
  g : DeskG wr B v1 v2 xs rs
  own : FamsO wr B v2 rs
  ok : okD xs (rs.map Fr.xs)
  len : rs.length ≤ j
  ne : ¬ DkBl v1 v2 rs A
  lo : w.heap.size < B ∧ B ≤ A
  on : Only rb w wr
  rd : Rdr wr rb (P + 1001 + 10 * j)
theorem DrS.slices {rb P B A j : Nat} {w wr : World} {v1 v2 : Value} {xs : List Int} {rs : List Fr} (h : DrS rb P w B A j v1 v2 xs rs wr) : (∃ a c, v1 = .slice a xs.length c) ∧ ∃ a c, v2 = .slice a rs.length c := by
  refine ⟨h.g.now.slice, ?_⟩
  have := h.g.past.seq.slice
  rw [List.length_map] at this
  exact this
theorem DrS.lst {rb P B A j : Nat} {w wr : World} {v1 v2 : Value} {xs : List Int} {rs : List Fr} (h : DrS rb P w B A j v1 v2 xs rs wr) (hrb : rb < w.heap.size) : ∃ a c, v1 = .slice a xs.length c ∧ LstR wr rb a xs.length := by
  have hlo := h.lo
  have ho : OwnI wr B v1 xs.length := ⟨xs, rfl, h.ok.1.2, h.g.now⟩
  exact ho.lst (by have := h.ok.1.1; omega) (by omega)
theorem DrS.put {rb P B A j T b : Nat} {w wr wx : World} {v1 v2 v3 v4 : Value} {xs ys : List Int} {rs rs' : List Fr} (h : DrS rb P w B A j v1 v2 xs rs wr) (hrb : rb < w.heap.size) (hv : DeskV wx wr.heap.size T b v3 v4 ys rs') (ho : FamsO wx wr.heap.size v4 rs') (hk : okD ys (rs'.map Fr.xs)) (hl : rs'.length ≤ j + 1) (hon : Only rb wr wx) (hr : Rdr wx rb (P + 1001 + 10 * (j + 1))) :
    DrS rb P w B A (j + 1) v3 v4 ys rs' ((wx.setCell ⟨A, 0, none⟩ v3).setCell ⟨A, 1, none⟩ v4) := by
  have hlo := h.lo
  have hA := h.blk.lt
  have hz := hon.size
  have hBw : B ≤ wr.heap.size := by omega
  exact ⟨((h.blk.only hon (by omega)).set0 v3).set1 v4, ((h.r.only hon (by omega)).other (by omega) 0 v3).other (by omega) 1 v4, ((hv.g.put (p := ⟨A, 0, none⟩) hA).put (p := ⟨A, 1, none⟩) hA).base hBw, ((ho.put (p := ⟨A, 0, none⟩) hA).put (p := ⟨A, 1, none⟩) hA).base hBw, hk, hl,
    fun e => by have := (hv.g.ltB _ e).1; omega, h.lo, ((h.on.trans hon).fresh (g := A) (by omega) 0 v3).fresh (g := A) (by omega) 1 v4,
    hr.belowB (((Below.refl A wx).setCell (p := ⟨A, 0, none⟩) (Nat.le_refl _) v3).setCell (p := ⟨A, 1, none⟩) (Nat.le_refl _) v4) (by omega)⟩
theorem DrS.keep {rb P B A j : Nat} {w wr wx : World} {v1 v2 : Value} {xs : List Int} {rs : List Fr} (h : DrS rb P w B A j v1 v2 xs rs wr) (hrb : rb < w.heap.size) (hon : Only rb wr wx) (hr : Rdr wx rb (P + 1001 + 10 * (j + 1))) :
    DrS rb P w B A (j + 1) v1 v2 xs rs wx := by
  have hlo := h.lo
  exact ⟨h.blk.only hon (by omega), h.r.only hon (by omega), h.g.only hon (by omega), h.own.only hon (by omega), h.ok, by have := h.len; omega, h.ne, h.lo, h.on.trans hon, hr⟩
end Go.Proofs.YthaickihoagnmaaGreatDoor
namespace Go.Proofs.YthaickihoagnmaaGreatDoor
set_option linter.unusedVariables false
set_option linter.unusedSimpArgs false
open Go.RowKit Go.Maps
theorem only_dr {rb : Nat} {w w' : World} (h : Only rb w w') : Only rb w w'.drew := ⟨h.os, h.tape, h.output, h.size, h.block⟩
theorem rdr_dr {w : World} {rb P : Nat} (h : Rdr w rb P) : Rdr w.drew rb P := h
theorem lst_dr {w : World} {rb m : Nat} {a : Option Addr} (h : LstR w rb a m) : LstR w.drew rb a m := h
theorem lst_al {w : World} {rb m : Nat} {a : Option Addr} (h : LstR w rb a m) (o : Obj) : LstR (w.alloc o) rb a m := h.only ((Only.refl rb w).alloc o)
theorem blk2_new_only {w w' : World} {rb : Nat} {t : TypeId} {x y : Value} (h : Only rb (w.alloc (.cells #[x, y] t)).drew w') (hrb : rb < w.heap.size) : Blk2 w' w.heap.size t x y := (blk2_dr3 (Blk2.new w t x y)).only h (by omega)
theorem only_belowB {rb B : Nat} {w w1 w2 : World} (h : Only rb w w1) (k : Below B w1 w2) (hB : w.heap.size ≤ B) : Only rb w w2 :=
  ⟨k.os.trans h.os, k.tape.trans h.tape, k.output.trans h.output, Nat.le_trans h.size k.size, fun i hi hn => (k.block i (by omega)).trans (h.block i hi hn)⟩
theorem DrS.read {rb P P' B A j : Nat} {w wr wx : World} {v1 v2 : Value} {xs : List Int} {rs : List Fr} (h : DrS rb P w B A j v1 v2 xs rs wr) (hrb : rb < w.heap.size) (hon : Only rb wr wx) (hr : Rdr wx rb (P' + 1001 + 10 * j)) :
    DrS rb P' w B A j v1 v2 xs rs wx := by
  have hlo := h.lo
  exact ⟨h.blk.only hon (by omega), h.r.only hon (by omega), h.g.only hon (by omega), h.own.only hon (by omega), h.ok, h.len, h.ne, h.lo, h.on.trans hon, hr⟩
theorem GivesP.all {ys : List Int} {M : List (List Int)} {w w9 : World} {v1 v2 : Value} {j : Nat} (h : GivesP ys M w w9 v1 v2) (hk : okD ys M) (hl : M.length ≤ j) (hj : j < 8) :
    ∃ rs, DeskG w9 w.heap.size v1 v2 ys rs ∧ FamsO w9 w.heap.size v2 rs ∧ okD ys (rs.map Fr.xs) ∧ rs.length ≤ j := by
  obtain ⟨rs, hg, hrs, hb, ho⟩ := h
  subst hrs
  exact ⟨rs, hg, ho (by omega), hk, by rw [List.length_map] at hl; exact hl⟩
theorem cutD_last {rb Q j : Nat} {w w8 w9 : World} {v1 v2 : Value} {ys : List Int} {M : List (List Int)} {ok : Bool} (h : GivesP ys M w8 w9 v1 v2) (hk : okD ys M) (hl : M.length ≤ j) (hj : j < 8) (hon : Only rb w w9) (hr : Rdr w9 rb Q) (hs : w.heap.size ≤ w8.heap.size) :
    CutD rb Q j w (.pointer (some ⟨w9.heap.size, 0, none⟩)) (.bool ok) (w9.alloc (.cells #[v1, v2] 31)) := by
  obtain ⟨rs, hg, ho, hk', hl'⟩ := h.all hk hl hj
  have hal := alloc_below w9 (.cells #[v1, v2] 31)
  have hsz := alloc_size w9 (.cells #[v1, v2] 31)
  exact ⟨_, w9.heap.size + 1, _, _, ys, rs, ok, rfl, rfl, ⟨Blk2.new _ _ _ _, (hg.kept hal).base hs, fun e => by have := (hg.ltB _ e).2; omega, hon.size, Nat.lt_succ_self _, fun q hq => by have := (hg.ltB q hq).2; omega⟩, (ho.kept hal).base hs, hk', hl', by omega, hon.alloc _, hr.al _⟩
theorem cutD_set {rb Q j b : Nat} {w w8 w9 : World} {v1 v2 : Value} {ys : List Int} {M : List (List Int)} {ok : Bool} (h : GivesP ys M w8 w9 v1 v2) (hk : okD ys M) (hl : M.length ≤ j) (hj : j < 8) (hon : Only rb w w9) (hr : Rdr w9 rb Q) (hrb : rb < w.heap.size) (hz : Blk2 w9 b 31 (.slice none 0 0) (.slice none 0 0)) (hbl : b < w8.heap.size) (hwb : w.heap.size ≤ b) :
    CutD rb Q j w (.pointer (some ⟨b, 0, none⟩)) (.bool ok) ((w9.setCell ⟨b, 0, none⟩ v1).setCell ⟨b, 1, none⟩ v2) := by
  obtain ⟨rs, hg, ho, hk', hl'⟩ := h.all hk hl hj
  have hsz : ((w9.setCell ⟨b, 0, none⟩ v1).setCell ⟨b, 1, none⟩ v2).heap.size = w9.heap.size := by simp [World.setCell]
  exact ⟨b, w9.heap.size, _, _, ys, rs, ok, rfl, rfl, ⟨(hz.set0 v1).set1 v2, ((hg.put (p := ⟨b, 0, none⟩) hbl).put (p := ⟨b, 1, none⟩) hbl).base (by omega), fun e => by have := (hg.ltB _ e).1; omega, hwb, hz.lt, fun q hq => (hg.ltB q hq).2⟩,
    ((ho.put (p := ⟨b, 0, none⟩) hbl).put (p := ⟨b, 1, none⟩) hbl).base (by omega), hk', hl', by omega, (hon.fresh hwb 0 v1).fresh hwb 1 v2, hr.belowB (((Below.refl w.heap.size w9).setCell (p := ⟨b, 0, none⟩) hwb v1).setCell (p := ⟨b, 1, none⟩) hwb v2) hrb⟩
theorem drawn_end {rb P B : Nat} {w wz : World} {v1 v2 : Value} {xs : List Int} {rs : List Fr} (hg : DeskG wz B v1 v2 xs rs) (hlo : w.heap.size < B) (hk : okD9 xs (rs.map Fr.xs)) (hon : Only rb w wz) (hr : Rdr wz rb (P + 1100)) (hrb : rb < w.heap.size) :
    DeskDrawn rb P w (.returned (.agg #[v1, v2])) ((wz.setCell ⟨w.heap.size, 0, none⟩ v1).setCell ⟨w.heap.size, 1, none⟩ v2) :=
  ⟨v1, v2, xs, rs, rfl, ((hg.put (p := ⟨w.heap.size, 0, none⟩) hlo).put (p := ⟨w.heap.size, 1, none⟩) hlo).base (Nat.le_of_lt hlo), hk, (hon.fresh (Nat.le_refl _) 0 v1).fresh (Nat.le_refl _) 1 v2,
    hr.belowB (((Below.refl w.heap.size wz).setCell (p := ⟨w.heap.size, 0, none⟩) (Nat.le_refl _) v1).setCell (p := ⟨w.heap.size, 1, none⟩) (Nat.le_refl _) v2) hrb⟩
theorem zero_row (w : World) (B : Nat) (hB : B ≤ w.heap.size) : OwnX (w.alloc (.cells #[.int .i64 0] 3)) B 3 (.slice (some ⟨w.heap.size, 0, none⟩) 1 1) [0] :=
  ⟨rfl, .inr ⟨w.heap.size, 1, _, rfl, hB, heap_alloc_new w _, Nat.le_refl _, by unfold maxLen; omega, rfl, rfl⟩⟩
theorem DeskG.at {w : World} {B : Nat} {v1 v2 u : Value} {xs : List Int} {rs : List Fr} {p : Addr} (h : DeskG w B v1 v2 xs rs) (hp : ¬ DkBl v1 v2 rs p.block) : DeskG (w.setCell p u) B v1 v2 xs rs :=
  ⟨h.now.other (fun g hg _ _ => set_blk (fun e => hp (.inl (by rw [← e]; exact hg)))), h.past.same (by rw [show (w.setCell p u).heap.size = w.heap.size by simp [World.setCell]]; exact Nat.le_refl _) (fun g hg => set_blk (fun e => hp (.inr (by rw [← e]; exact hg)))), h.sep⟩
theorem DrS.zero {rb P B A j : Nat} {w wr : World} {v1 v2 : Value} {xs : List Int} {rs : List Fr} (h : DrS rb P w B A j v1 v2 xs rs wr) :
    DeskG (wr.alloc (.cells #[.int .i64 0] 3)) B (.slice (some ⟨wr.heap.size, 0, none⟩) 1 1) v2 [0] rs := by
  have h1 := h.blk.lt; have h2 := h.lo
  refine ⟨zero_row wr B (by omega), (h.g.kept (alloc_below wr _)).past, fun g hg hf => ?_⟩
  injection hg with hg
  have hg : wr.heap.size = g := hg
  have := (h.g.past.ltB g hf).2
  omega
theorem DeskG.snoc {w w' : World} {B g c : Nat} {v1 v2 : Value} {xs : List Int} {rs : List Fr} {y : Fr} (h : DeskG w B v1 v2 xs rs) (hf : FamsO w' B (.slice (some ⟨g, 0, none⟩) (rs.length + 1) c) (rs ++ [y])) (hu : Upon (fun q => v2.ownBlock = some q) w w') (hg : v2.ownBlock = some g ∨ g = w.heap.size + 1) (hy : v1.ownBlock ≠ some y.g) :
    DeskG w' B v1 (.slice (some ⟨g, 0, none⟩) (rs.length + 1) c) xs (rs ++ [y]) := by
  refine ⟨hu.ownX h.now (fun q hq e => h.sep q hq (.inl e)), hf.fams, fun q hq hb => ?_⟩
  rcases hb with hb | ⟨r, hr, e⟩
  · injection hb with hb
    have hb : g = q := hb
    rcases hg with hg | hg
    · exact h.sep q hq (.inl (by rw [← hb]; exact hg))
    · have := (h.now.lt hq).2; omega
  · rcases List.mem_append.1 hr with hr | hr
    · exact h.sep q hq (.inr ⟨r, hr, e⟩)
    · rw [List.mem_singleton] at hr
      subst hr
      exact hy (by rw [e]; exact hq)
theorem okD.zero {ys : List Int} {M : List (List Int)} (h : okD ys M) : okD9 [0] M := ⟨⟨by simp, fun y hy => by rw [List.mem_singleton] at hy; subst hy; unfold I64; omega⟩, h.nine.2⟩
theorem okD.snoc {ys : List Int} {M : List (List Int)} (h : okD ys M) : okD9 ys (M ++ [[]]) := by
  refine ⟨h.nine.1, by rw [List.length_append, List.length_singleton]; have := h.2.1; omega, fun l hl => ?_⟩
  rcases List.mem_append.1 hl with hl | hl
  · exact h.nine.2.2 l hl
  · rw [List.mem_singleton] at hl
    subst hl
    exact ⟨by simp, fun y hy => by cases hy⟩
theorem okD9_nil : okD9 [] [] := okD_nil.nine
theorem DeskG.nil (w : World) (B : Nat) : DeskG w B (.slice none 0 0) (.slice none 0 0) [] [] := ⟨OwnX.nil _ _ _, Fams.none _ _ _, fun g hg => by simp [Value.ownBlock] at hg⟩
theorem DrS.room {rb P B A j : Nat} {w wr : World} {v1 v2 : Value} {xs : List Int} {rs : List Fr} (h : DrS rb P w B A j v1 v2 xs rs wr) :
    (OwnX (wr.alloc (.cells #[] 3)) B 3 (Fr.v ⟨wr.heap.size, 0, []⟩) [] ∧ FamsO (wr.alloc (.cells #[] 3)) B v2 rs) ∧ (∀ r ∈ rs, r.g ≠ wr.heap.size) ∧ v2.ownBlock ≠ some wr.heap.size ∧ v1.ownBlock ≠ some wr.heap.size := by
  have h1 := h.blk.lt; have h2 := h.lo
  have hl := fun q hq => (h.g.ltB q hq).2
  exact ⟨⟨OwnX.made wr B (by omega) _, h.own.kept (alloc_below wr _)⟩, fun r hr e => by have := hl r.g (.inr (.inr ⟨r, hr, rfl⟩)); omega, fun e => by have := hl _ (.inr (.inl e)); omega, fun e => by have := hl _ (.inl e); omega⟩
set_option maxRecDepth 100000 in
set_option maxHeartbeats 12800000 in
theorem desk_any (rb P : Nat) (n : Int) (hn : 1 ≤ n) (hn2 : n ≤ 100) (hP : P ≤ 20000) (w : World) (h : Rdr w rb P) :
    Calls Tryz.prog 48 #[.pointer (some ⟨rb, 0, none⟩), .int .i64 n] w (DeskDrawn rb P w) := by
  have hrb : rb < w.heap.size := h.1
  have hz1 := alloc_size w (.cells #[.slice none 0 0, .slice none 0 0] 31)
  have hr1 := h.al (.cells #[.slice none 0 0, .slice none 0 0] 31)
  have ho1 := (Only.refl rb w).alloc (.cells #[.slice none 0 0, .slice none 0 0] 31)
  have hb1 := Blk2.new w 31 (.slice none 0 0) (.slice none 0 0)
  obtain ⟨w1, hw1⟩ : ∃ w1, w.alloc (.cells #[.slice none 0 0, .slice none 0 0] 31) = w1 := ⟨_, rfl⟩
  rw [hw1] at hz1 hr1 ho1 hb1
  have HR := Lib.hid hr1; have HO := Lib.hid ho1; have HBR := Lib.hid hb1; have HZ1 := Lib.hid hz1
  clear h hr1 ho1 hb1 hz1
  go_enter Tryz.func48, Tryz.ntmps48
  go_wp2_with fail
  clear hw1
  refine (sets_any rb P 0 (by omega) (by omega) (by omega) _ HR.out).mono ?_
  rintro e w2 ⟨v, m, rfl, hm, hown, ho2, hr2⟩
  obtain ⟨xs0, rfl, hx64, hown0⟩ := hown
  have hox : OwnX w2 w1.heap.size 3 v xs0 := hown0
  obtain ⟨a0, c0, rfl⟩ := hox.slice
  have HI := Lib.hid (ints_own hox (by omega) hx64)
  have HO2 := Lib.hid (HO.out.trans ho2); have HR2 := Lib.hid hr2
  have HBR2 := Lib.hid (HBR.out.only ho2 (by omega))
  have HZ2 := Lib.hid (show w.heap.size + 1 ≤ w2.heap.size by have := ho2.size; have := HZ1.out; omega)
  clear hown0 hox ho2 hr2 hx64 hm HO HR HBR HZ1
  go_wp2_with fail
  refine (specDeskNewP_any _ xs0 _ _ HI.out).mono ?_
  rintro e w3 ⟨v1, v2, rfl, hg⟩
  obtain ⟨p1, e1, rfl⟩ := hg.gives.one
  obtain ⟨p2, e2, rfl⟩ := hg.gives.two
  have hb3 := hg.gives.below
  obtain ⟨rs0, hdg, hrs0, _, hown⟩ := hg
  have hr0 : rs0 = [] := List.map_eq_nil_iff.1 hrs0
  subst hr0
  have hfo := hown (by simp)
  obtain ⟨ys, hys⟩ : ∃ ys, (if famL xs0 then xs0 else []) = ys := ⟨_, rfl⟩
  have hok : okD ys ([] : List (List Int)) := by rw [← hys]; exact okD_new xs0
  rw [hys] at hdg ⊢
  have hal := alloc_below w3 (.cells #[.slice p1 ys.length e1, .slice p2 0 e2] 31)
  have hon3 : Only rb w2 w3 := Only.of_below hb3
  have hz3 := hb3.size
  have HST : Hid (DrS rb P w (w.heap.size + 1) w3.heap.size 0 (.slice p1 ys.length e1) (.slice p2 0 e2) ys [] (w3.alloc (.cells #[.slice p1 ys.length e1, .slice p2 0 e2] 31))) := Lib.hid
    ⟨Blk2.new _ _ _ _, (HBR2.out.kept hb3 HBR2.out.lt).kept hal (by have := HBR2.out.lt; omega), (hdg.kept hal).base HZ2.out, (hfo.kept hal).base HZ2.out, hok, Nat.le_refl _, fun e => by have := (hdg.ltB _ e).2; omega, ⟨by omega, by have := HZ2.out; omega⟩,
      (HO2.out.trans hon3).alloc _, ((HR2.out.below hb3).al _).mono (by omega)⟩
  obtain ⟨w4, hw4⟩ : ∃ w4, w3.alloc (.cells #[.slice p1 ys.length e1, .slice p2 0 e2] 31) = w4 := ⟨_, rfl⟩
  obtain ⟨A, hA⟩ : ∃ A, w3.heap.size = A := ⟨_, rfl⟩
  rw [hw4, hA] at HST
  clear hb3 hdg hrs0 hown hfo hys hok hal hon3 hz3 HI HO2 HR2 HBR2 HZ2
  go_wp2_with fail
  clear hw4 hA
  refine (pick_any rb _ 6 (by omega) _ HST.out.rd).mono ?_
  rintro e w5 ⟨y, rfl, hy, ho5, hr5⟩
  have HST5 := Lib.hid (HST.out.read (P' := P + 1) hrb ho5 (hr5.mono (by omega)))
  have hy6 : y ≤ 5 := by omega
  clear ho5 hr5 HST hy
  go_wp2_with fail
  go_loopw [7] (fun i wr => ∃ (q j : Nat) (v1 v2 : Value) (xs : List Int) (rs : List Fr), i = .int .i64 q ∧ q + j ≤ 5 ∧ Hid (DrS rb (P + 1) w (w.heap.size + 1) A j v1 v2 xs rs wr)) (fun i _ => (intOf i).toNat)
  case atStart => exact ⟨y, 0, _, _, _, _, rfl, by omega, HST5⟩
  case round =>
    clear HST5
    obtain ⟨q, j, v1, v2, xs, rs, rfl, hqj, H⟩ := hrel
    obtain ⟨_, ⟨p4, e4, rfl⟩⟩ := H.out.slices
    obtain ⟨p3, e3, rfl, hlst⟩ := H.out.lst hrb
    have hA := H.out.blk
    have ha0 := hA.cell.1; have ha1 := hA.cell.2; have ha2 := hA.frozen 0; have ha3 := hA.frozen 1
    have HAB := Lib.hid hA
    by_cases hq0 : 0 < q
    · have hqb : decide ((0 : Int) < (q : Int)) = true := by simp; omega
      have hqi : (q : Int) - 1 = ((q - 1 : Nat) : Int) := by omega
      have HQI := Lib.hid hqi
      have HL := Lib.hid hlst
      have HRB := Lib.hid (show rb < wr.heap.size from by have := H.out.on.size; omega)
      have HAR := Lib.hid (show A ≠ rb by have := H.out.lo; omega)
      have HKS := Lib.hid (show ∀ W, Only rb wr W → (W.cell? ⟨A, 0, none⟩ = some (.slice p3 xs.length e3) ∧ W.cell? ⟨A, 1, none⟩ = some (.slice p4 rs.length e4)) from fun W hW => (hA.only hW HAR.out).cell)
      have HDG := Lib.hid (fun (W : World) (hW : Only rb wr W) => (show DeskR W (.agg #[.slice p3 xs.length e3, .slice p4 rs.length e4]) xs (rs.map Fr.xs) from H.out.ok.nine.read (H.out.g.only hW (by omega)) rfl))
      have hQ : P + 1 + 1001 + 10 * j ≤ 100000 := by omega
      have HLJ := Lib.hid (show ∀ k x, (dkL xs (rs.map Fr.xs) k x).length ≤ j + 1 from fun k x => Nat.le_trans (dkL_len _ _ _ _) (by rw [List.length_map]; have := H.out.len; omega))
      clear hlst hA hqi
      go_upto_region 5 with fail
      go_cut [8, 9] (fun s1 s2 wx => CutD rb (P + 1 + 1001 + 10 * (j + 1)) (j + 1) wr s1 s2 wx)
      case first =>
        have HB6 := Lib.hid (Only.refl rb wr)
        go_region_held3 (fun W => W.cell? ⟨A, 0, none⟩ = some (.slice p3 xs.length e3) ∧ W.cell? ⟨A, 1, none⟩ = some (.slice p4 rs.length e4)) (first | exact HKS.out _ HB6.out | exact HKS.out _ (only_dr HB6.out) | exact HKS.out _ (HB6.out.alloc _) | exact HKS.out _ (only_dr (HB6.out.alloc _)) | exact HKS.out _ ((HB6.out.fresh HS7.out 0 _).fresh HS7.out 1 _) | exact HKS.out _ ((HB6.out.fresh (Nat.le_refl _) 0 _).fresh (Nat.le_refl _) 1 _) | go_keep)
          (first | (go_at_call 109; refine (deedR_any rb _ p3 xs.length e3 hQ _ (by first | with_reducible exact rdr_dr H.out.rd | with_reducible exact rdr_dr (H.out.rd.al _)) (by first | with_reducible exact lst_dr HL.out | with_reducible exact lst_dr (lst_al HL.out _))).mono ?_; rintro e w7 ⟨kk, xx, rfl, _, _, hx, ho7, hr7⟩; (try (have HZB : Hid (Blk2 w7 wr.heap.size 31 (.slice none 0 0) (.slice none 0 0)) := Lib.hid (by with_reducible exact blk2_new_only ho7 HRB.out))); have HZ := Lib.hid (show Only rb wr w7 from (by first | with_reducible exact (only_dr HB6.out).trans ho7 | with_reducible exact (only_dr (HB6.out.alloc _)).trans ho7)); clear HB6; have HB6 := HZ; clear HZ; have HS7 := Lib.hid HB6.out.size; have HR7 := Lib.hid hr7; have HX7 := Lib.hid hx; have HD7 := Lib.hid (HDG.out w7 HB6.out); clear ho7 hr7 hx) | (go_at_call 67; refine (specDeskDo_any _ xs (rs.map Fr.xs) kk xx HX7.out _ (by first | with_reducible exact HD7.out | with_reducible exact HD7.out.kept (alloc_below w7 _))).mono ?_; rintro e w9 ⟨v3, v4, rfl, hp⟩; obtain ⟨z1, z2, rfl⟩ := hp.gives.one; obtain ⟨z3, z4, rfl⟩ := hp.gives.two; have hb9 := hp.gives.below; (first | (have HZL := Lib.hid HZB.out.lt; replace HZB := Lib.hid (HZB.out.kept hb9 HZB.out.lt)) | (have HZL := Lib.hid (alloc_lt3 w7 (.cells #[.slice none 0 0, .slice none 0 0] 31)); have HZB : Hid (Blk2 w9 w7.heap.size 31 (.slice none 0 0) (.slice none 0 0)) := Lib.hid (by with_reducible exact blk2_new_al3 hb9)) | skip); (try (have hx0 := HZB.out.cell.1; have hx1 := HZB.out.cell.2; have hx2 := HZB.out.frozen 0; have hx3 := HZB.out.frozen 1)); have HR9 := Lib.hid (show Rdr w9 rb _ from (by first | with_reducible exact HR7.out.below hb9 | with_reducible exact (HR7.out.al _).below hb9)); have HZ := Lib.hid (show Only rb wr w9 from (by first | with_reducible exact HB6.out.trans (Only.of_below hb9) | with_reducible exact (HB6.out.alloc _).trans (Only.of_below hb9))); clear HB6; have HB6 := HZ; clear HZ; have HG9 := Lib.hid hp; clear hp hb9))
        all_goals
          go_wp2_with fail
          go_meet
          first
            | exact cutD_last HG9.out (okD_do _ _ _ _) (HLJ.out _ _) (by omega) HB6.out (HR9.out.mono (by omega)) HS7.out
            | exact cutD_set HG9.out (okD_do _ _ _ _) (HLJ.out _ _) (by omega) HB6.out (HR9.out.mono (by omega)) HRB.out HZB.out HZL.out (by first | exact Nat.le_refl _ | exact HS7.out)
      case rest =>
      rename_i wx
      obtain ⟨b, T, v3, v4, ys, rs', ok, rfl, rfl, hv, hfo, hk, hl, hT, hon, hrd⟩ := hcut
      obtain ⟨p5, e5, rfl⟩ := hv.g.now.slice
      obtain ⟨p6, e6, hp6⟩ := hv.g.past.seq.slice
      rw [List.length_map] at hp6
      subst hp6
      have hA := H.out.blk.only hon HAR.out
      have hB := hv.blk
      have hba : ¬ b = A := by have h1 := hv.lo; have h2 := H.out.blk.lt; omega
      have hab : ¬ A = b := fun e => hba e.symm
      have hx0 := hA.cell.1; have hx1 := hA.cell.2; have hx2 := hA.frozen 0; have hx3 := hA.frozen 1
      have hy0 := hB.cell.1; have hy1 := hB.cell.2; have hy2 := hB.frozen 0; have hy3 := hB.frozen 1
      clear ha0 ha1 ha2 ha3 HKS HDG HLJ
      cases ok with
      | true =>
        have HST := Lib.hid (H.out.put hrb hv hfo hk hl hon hrd)
        clear hA hB hv hfo hk hl hT hon hrd
        go_wp2_with fail
        go_roundw
        case rel => exact ⟨q - 1, j + 1, _, _, ys, rs', by go_num, by omega, HST⟩
        case measure => simp [intOf]; omega
      | false =>
        have HST := Lib.hid (H.out.keep hrb hon hrd)
        clear hA hB hv hfo hk hl hT hon hrd
        go_wp2_with fail
        go_roundw
        case rel => exact ⟨q - 1, j + 1, _, _, xs, rs, by go_num, by omega, HST⟩
        case measure => simp [intOf]; omega
    · have hqb : decide ((0 : Int) < (q : Int)) = false := by simp; omega
      have HJ := Lib.hid (show j ≤ 5 by omega)
      clear hlst hA HAB
      go_wp2_with fail
      clear hqb
      refine (odd_any rb _ n hn hn2 (by have := HJ.out; omega) _ H.out.rd).mono ?_
      rintro e w6 ⟨o, rfl, ho6, hr6⟩
      have HST6 := Lib.hid (H.out.read (P' := P + 2) hrb ho6 (hr6.mono (by omega)))
      clear ho6 hr6 ha0 ha1 ha2 ha3 H
      have hlo := HST6.out.lo
      have hlt := HST6.out.blk.lt
      have hne1 : ¬ A = w.heap.size := by omega
      have hne2 : ¬ w.heap.size = A := by omega
      cases o with
      | false =>
        have ha0 := HST6.out.blk.cell.1; have ha1 := HST6.out.blk.cell.2
        have hc0 := HST6.out.r.cell.1; have hc1 := HST6.out.r.cell.2; have hc2 := HST6.out.r.frozen 0; have hc3 := HST6.out.r.frozen 1
        go_wp2_with fail
        refine bodyPost_ret (results_desk1 rfl _ _ w.heap.size ((HST6.out.r.set0 _).set1 _) rfl (by kernel_rfl)) rfl ?_
        exact drawn_end HST6.out.g (by omega) HST6.out.ok.nine HST6.out.on (HST6.out.rd.mono (by have := HJ.out; omega)) hrb
      | true =>
        go_wp2_with fail
        refine (pick_any rb _ 3 (by have := HJ.out; omega) _ HST6.out.rd).mono ?_
        rintro e w7 ⟨y3, rfl, hy3, ho7, hr7⟩
        have HST7 := Lib.hid (HST6.out.read (P' := P + 3) hrb ho7 (hr7.mono (by omega)))
        have hy4 : y3 < 3 := by omega
        clear ho7 hr7 HST6 hy3
        have ha0 := HST7.out.blk.cell.1; have ha1 := HST7.out.blk.cell.2; have ha2 := HST7.out.blk.frozen 0; have ha3 := HST7.out.blk.frozen 1
        have hc0 := HST7.out.r.cell.1; have hc1 := HST7.out.r.cell.2; have hc2 := HST7.out.r.frozen 0; have hc3 := HST7.out.r.frozen 1
        have hlt := HST7.out.blk.lt
        rcases (show y3 = 0 ∨ y3 = 1 ∨ y3 = 2 by omega) with rfl | rfl | rfl
        · have HZ := Lib.hid HST7.out.zero
          have HST8 := Lib.hid (HST7.out.read (P' := P + 3) hrb ((Only.refl rb w7).alloc (.cells #[.int .i64 0] 3)) (HST7.out.rd.al _))
          have HNB := Lib.hid (show ¬ DkBl (.slice (some ⟨w7.heap.size, 0, none⟩) 1 1) (.slice p4 rs.length e4) rs A from fun e => by
            rcases e with e | e
            · injection e with e
              have e : w7.heap.size = A := e
              omega
            · exact HST7.out.ne (.inr e))
          obtain ⟨w8, hw8⟩ : ∃ w8, w7.alloc (.cells #[.int .i64 0] 3) = w8 := ⟨_, rfl⟩
          rw [hw8] at HZ HST8
          clear HST7 ha0 ha1 ha2 ha3 hc0 hc1 hc2 hc3
          have ha0 := HST8.out.blk.cell.1; have ha1 := HST8.out.blk.cell.2; have ha2 := HST8.out.blk.frozen 0; have ha3 := HST8.out.blk.frozen 1
          have hc0 := HST8.out.r.cell.1; have hc1 := HST8.out.r.cell.2; have hc2 := HST8.out.r.frozen 0; have hc3 := HST8.out.r.frozen 1
          go_wp2_with fail
          refine bodyPost_ret (results_desk1 rfl _ _ w.heap.size (((HST8.out.r.other hne2 0 _).set0 _).set1 _) rfl (by kernel_rfl)) rfl ?_
          exact drawn_end (HZ.out.at HNB.out) (by omega) HST8.out.ok.zero (HST8.out.on.fresh (g := A) (by omega) 0 _) ((HST8.out.rd.mono (by have := HJ.out; omega)).belowB ((Below.refl A w8).setCell (p := ⟨A, 0, none⟩) (Nat.le_refl _) _) (by omega)) hrb
        · have HR7 := Lib.hid HST7.out.room
          have HST8 := Lib.hid (HST7.out.read (P' := P + 3) hrb ((Only.refl rb w7).alloc (.cells #[] 3)) (HST7.out.rd.al _))
          have HS7 := Lib.hid (show A < w7.heap.size ∧ w7.heap.size + 1 = (w7.alloc (.cells #[] 3)).heap.size from ⟨hlt, (alloc_size w7 _).symm⟩)
          obtain ⟨g7, hg7⟩ : ∃ g7, w7.heap.size = g7 := ⟨_, rfl⟩
          obtain ⟨w8, hw8⟩ : ∃ w8, w7.alloc (.cells #[] 3) = w8 := ⟨_, rfl⟩
          rw [hw8] at HST8 HR7 HS7
          rw [hg7] at HR7 HS7
          have hz1 := ha1
          clear HST7 ha0 ha1 ha2 ha3 hc0 hc1 hc2 hc3 hlt
          have ha0 := HST8.out.blk.cell.1; have ha1 := HST8.out.blk.cell.2; have ha2 := HST8.out.blk.frozen 0; have ha3 := HST8.out.blk.frozen 1
          have HLR := Lib.hid (show rs.length ≤ 1000 by have := HST8.out.len; have := HJ.out; omega)
          have HSB := Lib.hid (show w.heap.size + 1 ≤ w8.heap.size by have := HST8.out.blk.lt; omega)
          go_wp2_with (at_builtin; refine append_fr rfl (.tmp 46) (.tmp 48) rfl (w.heap.size + 1) (.slice p4 rs.length e4) rs ⟨g7, 0, []⟩ w8 rfl rfl HR7.out.1.2 HLR.out HR7.out.1.1 HR7.out.2.1 HR7.out.2.2.1 HSB.out ?_)
          intro g9 c9 w9 ho9 hb9 hu9 hat9
          have hD9 := HST8.out.g.snoc ho9 hu9 hat9 HR7.out.2.2.2
          have hA9 : Blk2 w9 A 31 (.slice p3 xs.length e3) (.slice p4 rs.length e4) := (hu9.block A HST8.out.blk.lt (fun e => HST8.out.ne (.inr (.inl e)))).trans HST8.out.blk
          have hR9 : Blk2 w9 w.heap.size 31 (.slice none 0 0) (.slice none 0 0) := (hb9.block _ (by omega)).trans HST8.out.r
          have HNB := Lib.hid (show ¬ DkBl (.slice p3 xs.length e3) (.slice (some ⟨g9, 0, none⟩) (rs.length + 1) c9) (rs ++ [⟨g7, 0, []⟩]) A from fun e => by
            rcases e with e | e | ⟨r, hr, e⟩
            · exact HST8.out.ne (.inl e)
            · injection e with e
              have e : g9 = A := e
              rcases hat9 with h | h
              · exact HST8.out.ne (.inr (.inl (by rw [← e]; exact h)))
              · have := HS7.out; omega
            · rcases List.mem_append.1 hr with hr | hr
              · exact HST8.out.ne (.inr (.inr ⟨r, hr, e⟩))
              · rw [List.mem_singleton] at hr
                subst hr
                have e : g7 = A := e
                have := HS7.out; omega)
          have HD9 := Lib.hid hD9; have HA9 := Lib.hid hA9; have HR9 := Lib.hid hR9
          have HO9 := Lib.hid (only_belowB HST8.out.on hb9 (Nat.le_succ _))
          have HRD9 := Lib.hid (HST8.out.rd.belowB hb9 (by omega))
          clear ho9 hb9 hu9 hat9 hD9 hA9 hR9 ha0 ha1 ha2 ha3 hz1
          have ha0 := HA9.out.cell.1; have ha1 := HA9.out.cell.2; have ha2 := HA9.out.frozen 0; have ha3 := HA9.out.frozen 1
          have hc0 := HR9.out.cell.1; have hc1 := HR9.out.cell.2; have hc2 := HR9.out.frozen 0; have hc3 := HR9.out.frozen 1
          go_wp2_with fail
          refine bodyPost_ret (results_desk1 rfl _ _ w.heap.size (((HR9.out.other hne2 1 _).set0 _).set1 _) rfl (by kernel_rfl)) rfl ?_
          have hk9 := HST8.out.ok.snoc
          rw [← show (rs ++ [(⟨g7, 0, []⟩ : Fr)]).map Fr.xs = rs.map Fr.xs ++ [[]] from by rw [List.map_append]; rfl] at hk9
          exact drawn_end (HD9.out.at HNB.out) (by omega) hk9 (HO9.out.fresh (g := A) (by omega) 1 _) ((HRD9.out.mono (by have := HJ.out; omega)).belowB ((Below.refl A w9).setCell (p := ⟨A, 1, none⟩) (Nat.le_refl _) _) (by omega)) hrb
        · go_wp2_with fail
          refine bodyPost_ret (results_desk1 rfl _ _ w.heap.size ((HST7.out.r.set0 _).set1 _) rfl (by kernel_rfl)) rfl ?_
          exact drawn_end (DeskG.nil _ (w.heap.size + 1)) (by omega) okD9_nil HST7.out.on (HST7.out.rd.mono (by have := HJ.out; omega)) hrb
end Go.Proofs.YthaickihoagnmaaGreatDoor
namespace Go.Proofs.YthaickihoagnmaaGreatDoor
set_option linter.unusedVariables false
set_option linter.unusedSimpArgs false
open Go.RowKit Go.Maps
theorem sameInts_drew (a1 a2 : Option Addr) (c1 c2 n : Nat) (f : Nat → Int) (hn : n ≤ 1048576) (w : World) (h1 : Ints w a1 n f) (h2 : Ints w a2 n f) :
    Calls Tryz.prog 62 #[.slice a1 n c1, .slice a2 n c2] w fun e w' => e = .returned (.bool true) ∧ Drew w w' := by
  by_cases h : n = 0
  · subst h; exact sameInts_nil a1 a2 c1 c2 w
  · obtain ⟨b1, o1, rfl, _, hr1⟩ := h1.row (by omega)
    obtain ⟨b2, o2, rfl, _, hr2⟩ := h2.row (by omega)
    exact sameInts_row b1 o1 c1 b2 o2 c2 n f hn w hr1 hr2
set_option maxRecDepth 100000 in
set_option maxHeartbeats 800000 in
theorem sameRows_any (b b' : Option Addr) (c c' : Nat) (L : List (List Int)) (hL : L.length ≤ 1048576) (hl : ∀ l ∈ L, l.length ≤ 1048576) (w : World) (h1 : Nest w b L) (h2 : Nest w b' L) :
    Calls Tryz.prog 63 #[.slice b L.length c, .slice b' L.length c'] w fun e w' => e = .returned (.bool true) ∧ Drew w w' := by
  have HL := Lib.hid hl
  obtain ⟨n, hn⟩ : ∃ n, L.length = n := ⟨_, rfl⟩
  have hne : ((n : Int) != (n : Int)) = false := by simp
  rw [hn] at hL ⊢
  have HN := Lib.hid hn
  have HH1 := Lib.hid h1; have HH2 := Lib.hid h2
  clear hl h1 h2 hn
  by_cases h0 : n = 0
  · have hki : ¬ (0 : Int) < (n : Int) := by omega
    subst h0
    go_enter Tryz.func63, Tryz.ntmps63
    go_wp2_with fail
    go_loopw [5] (fun i wr => i = .int .i64 0 ∧ Drew w wr) (fun _ _ => 0)
    case atStart => exact ⟨rfl, Drew.refl w⟩
    case round =>
      obtain ⟨rfl, hd⟩ := hrel
      go_wp2_with fail
      go_ret
      exact ⟨rfl, hd⟩
  · obtain ⟨bk, o, rfl, hbk, hA⟩ := HH1.out.2.resolve_left (by rw [HN.out]; exact h0)
    obtain ⟨bk', o', rfl, hbk', hA'⟩ := HH2.out.2.resolve_left (by rw [HN.out]; exact h0)
    have HA := Lib.hid hA; have HA' := Lib.hid hA'; have HK := Lib.hid hbk; have HK' := Lib.hid hbk'
    clear hA hA' HH1 HH2 hbk hbk'
    go_enter Tryz.func63, Tryz.ntmps63
    go_wp2_with fail
    go_loopw [5] (fun i wr => ∃ k : Nat, k ≤ n ∧ i = .int .i64 k ∧ Drew w wr) (fun i _ => n - (intOf i).toNat)
    case atStart => exact ⟨0, Nat.zero_le _, rfl, Drew.refl w⟩
    case round =>
      obtain ⟨k, hk, rfl, hd⟩ := hrel
      by_cases hlt : k < n
      · have hki : (k : Int) < (n : Int) := by omega
        have hk0 : (0 : Int) ≤ (k : Int) := by omega
        have hkl : k < L.length := by rw [HN.out]; exact hlt
        have hwi := HL.out _ (List.getElem_mem hkl)
        obtain ⟨a1, e1, hc1, _, hi1⟩ := HA.out.kept hd.below HK.out k hkl
        obtain ⟨a2, e2, hc2, _, hi2⟩ := HA'.out.kept hd.below HK'.out k hkl
        obtain ⟨l, hlk⟩ : ∃ l, L[k] = l := ⟨_, rfl⟩
        rw [hlk] at hc1 hc2 hi1 hi2 hwi
        have HI1 := Lib.hid hi1; have HI2 := Lib.hid hi2; have HW := Lib.hid hwi
        clear hi1 hi2 hlk hwi
        go_wp2_with fail
        go_quiet ((go_at_call 62; exact quiet_drew (sameInts_drew a1 a2 e1 e2 l.length (fun j => l.getD j 0) HW.out _ (HI1.out.below (below_drewN (Below.refl _ _) _) (Nat.le_refl _)) (HI2.out.below (below_drewN (Below.refl _ _) _) (Nat.le_refl _)))))
        go_wp2_with fail
        go_roundw
        case rel => exact ⟨k + 1, by omega, by go_num, hd.more _⟩
        case measure => simp [intOf]; omega
      · have hki : ¬ (k : Int) < (n : Int) := by omega
        go_wp2_with fail
        go_ret
        exact ⟨rfl, hd⟩
set_option maxRecDepth 100000 in
set_option maxHeartbeats 1600000 in
theorem sameDesk_any (d1 d2 : Value) (xs : List Int) (L : List (List Int)) (hx : xs.length ≤ 1048576) (hL : L.length ≤ 1048576) (hl : ∀ l ∈ L, l.length ≤ 1048576) (w : World) (h1 : DeskR w d1 xs L) (h2 : DeskR w d2 xs L) :
    Calls Tryz.prog 18 #[d1, d2] w fun e w' => e = .returned (.bool true) ∧ Below w.heap.size w w' := by
  obtain ⟨a, c, b, c2, rfl, hi, hn⟩ := h1.parts
  obtain ⟨a', c', b', c2', rfl, hi', hn'⟩ := h2.parts
  have q1 := alloc_below w (.cells #[.slice a xs.length c, .slice b L.length c2] 31)
  have q2 := alloc_below (w.alloc (.cells #[.slice a xs.length c, .slice b L.length c2] 31)) (.cells #[.slice a' xs.length c', .slice b' L.length c2'] 31)
  have b1 := (Blk2.new w 31 (.slice a xs.length c) (.slice b L.length c2)).kept q2 (by rw [alloc_size]; omega)
  have b2 := (Blk2.new (w.alloc (.cells #[.slice a xs.length c, .slice b L.length c2] 31)) 31 (.slice a' xs.length c') (.slice b' L.length c2'))
  rw [alloc_size] at b2
  have HQ := Lib.hid (below_onto q1 q2)
  have HI := Lib.hid (hi.below HQ.out (Nat.le_refl _)); have HI' := Lib.hid (hi'.below HQ.out (Nat.le_refl _))
  have HN := Lib.hid (hn.kept HQ.out); have HN' := Lib.hid (hn'.kept HQ.out)
  have HB1 := Lib.hid b1; have HB2 := Lib.hid b2
  have HLL := Lib.hid hl
  clear h1 h2 hi hi' hn hn' q1 q2 b1 b2 hl
  go_enter Tryz.func18, Tryz.ntmps18
  go_wp2_with fail
  refine (sameInts_drew a a' c c' xs.length (fun j => xs.getD j 0) hx _ HI.out HI'.out).mono ?_
  rintro e w1 ⟨rfl, hd⟩
  have hb := hd.below
  have HB1a := Lib.hid (HB1.out.kept hb HB1.out.lt); have HB2a := Lib.hid (HB2.out.kept hb HB2.out.lt)
  have HNa := Lib.hid (HN.out.kept hb); have HNb := Lib.hid (HN'.out.kept hb)
  have HQa := Lib.hid (below_onto HQ.out hb)
  clear hb hd
  have hc1 := HB1a.out.cell.2; have hd1 := HB2a.out.cell.2
  go_wp2_with fail
  refine (sameRows_any b b' c2 c2' L hL HLL.out _ HNa.out HNb.out).mono ?_
  rintro e w2 ⟨rfl, hd⟩
  have HQb := Lib.hid (below_onto HQa.out hd.below)
  clear hd hc1 hd1
  go_wp2_with fail
  go_ret
  exact ⟨rfl, HQb.out⟩
theorem deskR_nil (w : World) : DeskR w (.agg #[.slice none 0 0, .slice none 0 0]) [] [] :=
  ⟨⟨none, 0, none, 0, rfl, Nat.le_refl _, Nat.le_refl _, ⟨⟨by simp, fun i hi => by simp at hi⟩, .inl rfl⟩, ⟨by simp, .inl rfl⟩⟩⟩
set_option maxRecDepth 100000 in
set_option maxHeartbeats 1600000 in
theorem noDesk_any (d : Value) (w : World) (h : DeskR w d [] []) :
    Calls Tryz.prog 22 #[d] w fun e w' => e = .returned (.bool true) ∧ Below w.heap.size w w' := by
  have hdd := h
  obtain ⟨a, c, b, c2, rfl, _⟩ := h.parts
  have HAL := Lib.hid (alloc_below w (.cells #[.slice a 0 c, .slice b 0 c2] 31))
  have HD := Lib.hid (hdd.kept HAL.out)
  clear h hdd
  go_enter Tryz.func22, Tryz.ntmps22
  go_wp2_with fail
  refine (sameDesk_any _ _ [] [] (by simp) (by simp) (fun l hl => by cases hl) _ HD.out (deskR_nil _)).mono ?_
  rintro e w1 ⟨rfl, hb⟩
  have HB := Lib.hid (below_onto HAL.out hb)
  clear hb
  go_wp2_with fail
  go_ret
  exact ⟨rfl, HB.out⟩
end Go.Proofs.YthaickihoagnmaaGreatDoor
namespace Go.Proofs.YthaickihoagnmaaGreatDoor
set_option linter.unusedVariables false
set_option linter.unusedSimpArgs false
open Go.RowKit Go.Maps
theorem bytes_al {w : World} {a : Option Addr} {n cap : Nat} (h : BytesIn w a n cap) (o : Obj) : BytesIn (w.alloc o) a n cap := by
  obtain ⟨hnc, hc, hby⟩ := h
  have hal := alloc_below w o
  refine ⟨hnc, hc, ?_⟩
  rcases hby with h0 | ⟨b, o, g, ha, hb, hg⟩
  · exact .inl h0
  · exact .inr ⟨b, o, g, ha, Nat.lt_of_lt_of_le hb hal.size, fun i hi => ⟨(hal.cell (p := ⟨b, o + i, none⟩) hb).trans (hg i hi).1, (hg i hi).2⟩⟩
end Go.Proofs.YthaickihoagnmaaGreatDoor
namespace Go.Proofs.YthaickihoagnmaaGreatDoor
set_option linter.unusedVariables false
set_option linter.unusedSimpArgs false
open Go.RowKit Go.Maps
theorem OwnD.only {w w' : World} {B rb : Nat} {v : Value} {ds : List (Int × Int)} (h : OwnD w B v ds) (ho : Only rb w w') (hrb : rb < B) : OwnD w' B v ds := by
  refine ⟨h.1, ?_⟩
  rcases h.2 with h1 | ⟨g, cap, cur, hv, hBg, hg, hr⟩
  · exact .inl h1
  · exact .inr ⟨g, cap, cur, hv, hBg, (ho.block g (Array.getElem?_eq_some_iff.1 hg).1 (by omega)).trans hg, hr⟩
def I64D (ds : List (Int × Int)) : Prop := ∀ d ∈ ds, I64 d.1 ∧ I64 d.2
theorem I64D.nil : I64D [] := fun d hd => by cases hd
theorem I64D.snoc {ds : List (Int × Int)} {k x : Int} (h : I64D ds) (hk : I64 k) (hx : I64 x) : I64D (ds ++ [(k, x)]) := by
  intro d hd
  rcases List.mem_append.1 hd with hd | hd
  · exact h d hd
  · rw [List.mem_singleton] at hd; subst hd; exact ⟨hk, hx⟩
end Go.Proofs.YthaickihoagnmaaGreatDoor
namespace Go.Proofs.YthaickihoagnmaaGreatDoor
set_option linter.unusedVariables false
set_option linter.unusedSimpArgs false
open Go.RowKit Go.Maps
theorem Upd.grown {v : Value} {w w' : World} (h : w.grownBy w' v.ownBlock) : Upd v w w' :=
  ⟨h.os, h.tape, h.output, h.size, fun k hk hn => h.block k hk (fun e => hn e.symm)⟩
theorem OwnD.lt {w : World} {B : Nat} {v : Value} {ds : List (Int × Int)} (h : OwnD w B v ds) {g : Nat} (hg : v.ownBlock = some g) : B ≤ g ∧ g < w.heap.size :=
  World.ownsRow.lt h g hg
structure WrS (rb Q B B1 : Nat) (w : World) (lv : Value) (ds : List (Int × Int)) (k : Nat) (vo : Value) (es : List (Int × Int)) (wr : World) : Prop where
  own : OwnD wr B vo es
  lst : OwnD wr B1 lv ds
  sep : ∀ g, lv.ownBlock = some g → vo.ownBlock ≠ some g
  only : Only rb w wr
  rdr : Rdr wr rb Q
  len : es.length ≤ k
  i64 : I64D es
theorem WrS.below {rb Q B B1 k : Nat} {w : World} {lv vo : Value} {ds es : List (Int × Int)} {wr w' : World} (h : WrS rb Q B B1 w lv ds k vo es wr) (hb : Below wr.heap.size wr w') : WrS rb Q B B1 w lv ds k vo es w' :=
  ⟨h.own.kept hb, h.lst.kept hb, h.sep, h.only.trans (Only.of_below hb), h.rdr.below hb, h.len, h.i64⟩
theorem WrS.later {rb Q B B1 k j : Nat} {w : World} {lv vo : Value} {ds es : List (Int × Int)} {wr : World} (h : WrS rb Q B B1 w lv ds k vo es wr) (hj : k ≤ j) : WrS rb Q B B1 w lv ds j vo es wr :=
  ⟨h.own, h.lst, h.sep, h.only, h.rdr, by have := h.len; omega, h.i64⟩
theorem WrS.more {rb Q B B1 k : Nat} {w : World} {lv vo v8 : Value} {ds es : List (Int × Int)} {wr w8 : World} {kk xx : Int} (h : WrS rb Q B B1 w lv ds k vo es wr) (hrb : rb < B) (hB : B = w.heap.size) (hkk : I64 kk) (hxx : I64 xx)
    (h1 : w8.ownsRow B 39 2 v8 (es.length + 1) (cellsD es ++ [.int .i64 kk, .int .i64 xx])) (hg : wr.grownBy w8 vo.ownBlock) (ha : v8.ownBlock = vo.ownBlock ∨ v8.ownBlock = some wr.heap.size) :
    WrS rb Q B B1 w lv ds (k + 1) v8 (es ++ [(kk, xx)]) w8 := by
  have hu := Upd.grown hg
  have hsz : B ≤ wr.heap.size := by rw [hB]; exact h.only.size
  have hb : Below B wr w8 := hu.below hsz (fun g hg' => (h.own.lt hg').1)
  refine ⟨OwnD.snoc h1, h.lst.upd hu h.sep, fun g hg' => ?_, ?_, h.rdr.belowB hb hrb, by have := h.len; simp; omega, h.i64.snoc hkk hxx⟩
  · rcases ha with ha | ha
    · rw [ha]; exact h.sep g hg'
    · rw [ha]; intro e; injection e with e; have := (h.lst.lt hg').2; omega
  · subst hB; exact h.only.below_then hb
end Go.Proofs.YthaickihoagnmaaGreatDoor
