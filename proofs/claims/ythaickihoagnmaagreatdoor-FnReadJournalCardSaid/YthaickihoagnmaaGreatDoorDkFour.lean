import Derived.Test.YthaickihoagnmaaGreatDoorDkX
import Derived.Test.YthaickihoagnmaaGreatDoorDkW
import Derived.Test.YthaickihoagnmaaGreatDoorDkS
namespace Go.Proofs.YthaickihoagnmaaGreatDoor
set_option linter.unusedVariables false
set_option linter.unusedSimpArgs false
open Go.RowKit Go.Maps

theorem l12Made_any (a : Option Addr) (c : Nat) (xs : List Int) (k x : Int) (hx : I64 x) (hf : famL xs = true) (w : World) (h : Ints w a xs.length (fun j => xs.getD j 0)) :
    Calls Tryz.prog 120 #[.slice a xs.length c, .agg #[.int .i64 k, .int .i64 x]] w (MadeEnd (mdS xs k x) (chB xs k x) w) := by
  by_cases h0 : k = 0
  · subst h0; exact l12Made_put a c xs x hx hf w h
  by_cases h1 : k = 1
  · subst h1; exact l12Made_take a c xs x hx hf w h
  by_cases h2 : k = 2 ∧ x = 0
  · obtain ⟨rfl, rfl⟩ := h2; exact l12Made_points a c xs hf w h
  by_cases h3 : k = 3 ∧ x = 0
  · obtain ⟨rfl, rfl⟩ := h3; exact l12Made_sums a c xs hf w h
  exact l12Made_none a c xs k x hx h0 h1 h2 h3 hf w h
theorem own_blk (a : Option Addr) (n m c d : Nat) : (Value.slice a n c).ownBlock = (Value.slice a m d).ownBlock := by cases a <;> rfl
theorem FamsO.cut {w : World} {B m c : Nat} {a : Option Addr} {y : Fr} {rs : List Fr} (hm : m = rs.length) (h : FamsO w B (.slice a (m + 1) c) (rs ++ [y])) : FamsO w B (.slice a m c) rs := by
  subst hm
  have hw := h.own
  have hlen : (rs ++ [y]).length = rs.length + 1 := by simp
  rw [hlen] at hw
  have hd := h.dis
  rw [List.map_append, List.nodup_append] at hd
  refine ⟨?_, fun r hr => h.row r (List.mem_append.2 (.inl hr)), hd.1, fun r hr => by rw [own_blk a _ (rs.length + 1) c c]; exact h.apart r (List.mem_append.2 (.inl hr))⟩
  refine ⟨by rw [List.length_map, Nat.mul_one], ?_⟩
  rcases hw.2 with ⟨h1, _⟩ | ⟨g, cap, cur, hv, hB, hg, hc, hmx, hs, ht⟩
  · cases h1
  · injection hv with e1 e2 e3
    subst e1; subst e3
    refine .inr ⟨g, c, cur, rfl, hB, hg, by omega, hmx, hs, ?_⟩
    rw [Nat.mul_one] at ht ⊢
    have : cur.toList.take rs.length = (cur.toList.take (rs.length + 1)).take rs.length := by rw [List.take_take, Nat.min_eq_left (by omega)]
    rw [this, ht, List.map_append, List.take_append_of_le_length (by rw [List.length_map]; exact Nat.le_refl _), List.take_of_length_le (by rw [List.length_map]; exact Nat.le_refl _)]
/-- a desk of one's own, which can be appended to if it has few families -/
def GivesP (xs : List Int) (L : List (List Int)) (w w' : World) (v1 v2 : Value) : Prop :=
  ∃ rs, DeskG w' w.heap.size v1 v2 xs rs ∧ rs.map Fr.xs = L ∧ Below w.heap.size w w' ∧ (L.length < 8 → FamsO w' w.heap.size v2 rs)
theorem GivesP.gives {xs : List Int} {L : List (List Int)} {w w' : World} {v1 v2 : Value} (h : GivesP xs L w w' v1 v2) : GivesD xs L w w' v1 v2 := by
  obtain ⟨rs, h1, h2, h3, _⟩ := h
  exact ⟨rs, h1, h2, h3⟩
def DoneP (ok : Bool) (xs : List Int) (L : List (List Int)) (w : World) (e : Ending) (w' : World) : Prop := ∃ v1 v2, e = .returned (.tuple #[.agg #[v1, v2], .bool ok]) ∧ GivesP xs L w w' v1 v2
theorem noDesk_givesP {w w' : World} (hb : Below w.heap.size w w') : GivesP [] [] w w' (.slice none 0 0) (.slice none 0 0) :=
  ⟨[], ⟨OwnX.nil _ _ _, Fams.none _ _ _, fun g hg => by simp [Value.ownBlock] at hg⟩, rfl, hb, fun _ => FamsO.nil _ _⟩
/-- the desk as it is handed on, in the result's block -/
theorem givesP_of {w w8 : World} {R B : Nat} {v1 v2 : Value} {xs : List Int} {L : List (List Int)} {rs : List Fr} (hb : Below w.heap.size w w8) (hR : R = w.heap.size + 1 + 1) (hB : w.heap.size + 3 ≤ B) (hd : DeskG w8 B v1 v2 xs rs) (hrs : rs.map Fr.xs = L) (ho : L.length < 8 → FamsO w8 B v2 rs) :
    GivesP xs L w ((w8.setCell ⟨R, 0, none⟩ v1).setCell ⟨R, 1, none⟩ v2) v1 v2 :=
  ⟨rs, ((hd.put (p := ⟨R, 0, none⟩) (show R < B by omega)).put (p := ⟨R, 1, none⟩) (show R < B by omega)).base (by omega), hrs,
    (hb.setCell (p := ⟨R, 0, none⟩) (show w.heap.size ≤ R by omega) _).setCell (p := ⟨R, 1, none⟩) (show w.heap.size ≤ R by omega) _,
    fun hl => (((ho hl).put (p := ⟨R, 0, none⟩) (show R < B by omega)).put (p := ⟨R, 1, none⟩) (show R < B by omega)).base (by omega)⟩

set_option maxRecDepth 100000 in
set_option maxHeartbeats 3200000 in
theorem specDeskDo_no (d : Value) (xs : List Int) (L : List (List Int)) (k x : Int) (hx : I64 x) (hdk : deskB xs L = false) (w : World) (h : DeskR w d xs L) :
    Calls Tryz.prog 67 #[d, .agg #[.int .i64 k, .int .i64 x]] w (DoneP false [] [] w) := by
  have hdd := h
  obtain ⟨a, c, b, c2, rfl, _⟩ := h.parts
  have hst := start3 w (.slice a xs.length c) (.slice b L.length c2) k x
  have hdr := hdd.kept hst.bel
  obtain ⟨w3, hw3⟩ : ∃ w3, ((w.alloc (.cells #[.slice a xs.length c, .slice b L.length c2] 31)).alloc (.cells #[.int .i64 k, .int .i64 x] 39)).alloc (.cells #[.slice none 0 0, .slice none 0 0] 31) = w3 := ⟨_, rfl⟩
  rw [hw3] at hst hdr
  have HST := Lib.hid hst; have HDR := Lib.hid hdr; have HDK := Lib.hid hdk
  have hd0 := hst.d.cell.1; have hd1 := hst.d.cell.2
  clear h hdd hst hdr hx hdk
  go_enter Tryz.func67, Tryz.ntmps67
  go_wp2_with fail
  refine (specDeskOk_any _ xs L _ HDR.out).mono ?_
  rintro e w4 ⟨rfl, hb4⟩
  rw [HDK.out]
  have hR := HST.out.r.kept hb4 HST.out.r.lt
  have hx0 := hR.cell.1; have hx1 := hR.cell.2; have hx2 := hR.frozen 0; have hx3 := hR.frozen 1
  have HR := Lib.hid hR; have HB := Lib.hid (below_onto HST.out.bel hb4)
  clear hb4 hR hd0 hd1
  go_wp2_with fail
  refine bodyPost_ret (results_desk rfl _ _ (w.heap.size + 1 + 1) ((HR.out.set0 (.slice none 0 0)).set1 (.slice none 0 0)) rfl rfl (by kernel_rfl)) rfl ?_
  exact ⟨_, _, rfl, noDesk_givesP ((HB.out.setCell (p := ⟨w.heap.size + 1 + 1, 0, none⟩) (show w.heap.size ≤ w.heap.size + 1 + 1 by omega) _).setCell (p := ⟨w.heap.size + 1 + 1, 1, none⟩) (show w.heap.size ≤ w.heap.size + 1 + 1 by omega) _)⟩

/-- the state behind the copy -/
structure CpP (w : World) (X Y : Value) (k x : Int) (xs : List Int) (L : List (List Int)) (O : Nat) (B : Nat) (v1 v2 : Value) (rs : List Fr) (w6 : World) : Prop where
  d : Blk2 w6 w.heap.size 31 X Y
  e : Blk2 w6 (w.heap.size + 1) 39 (.int .i64 k) (.int .i64 x)
  r : Blk2 w6 (w.heap.size + 1 + 1) 31 (.slice none 0 0) (.slice none 0 0)
  o : Blk2 w6 O 31 v1 v2
  now : OwnX w6 B 3 v1 xs
  own : FamsO w6 B v2 rs
  sep : ∀ g, v1.ownBlock = some g → ¬ FB v2 rs g
  low1 : ∀ g, v1.ownBlock = some g → g < O
  low2 : ∀ g, FB v2 rs g → g < O
  lo : w.heap.size + 3 ≤ B
  bo : B ≤ O
  xs : rs.map Fr.xs = L
  bel : Below w.heap.size w w6
theorem CpP.kept {w w6 w7 : World} {X Y v1 v2 : Value} {k x : Int} {xs : List Int} {L : List (List Int)} {O B : Nat} {rs : List Fr} (h : CpP w X Y k x xs L O B v1 v2 rs w6) (hb : Below w6.heap.size w6 w7) : CpP w X Y k x xs L O B v1 v2 rs w7 :=
  ⟨h.d.kept hb h.d.lt, h.e.kept hb h.e.lt, h.r.kept hb h.r.lt, h.o.kept hb h.o.lt, h.now.kept hb, h.own.kept hb, h.sep, h.low1, h.low2, h.lo, h.bo, h.xs, below_onto h.bel hb⟩
theorem cpP_of {w w3 w4 w5 : World} {X Y v1 v2 : Value} {k x : Int} {xs : List Int} {L : List (List Int)} (hst : Start3 w X Y k x w3) (hb4 : Below w3.heap.size w3 w4) (hg : GivesO xs L w4 w5 v1 v2) :
    ∃ rs, CpP w X Y k x xs L w5.heap.size w4.heap.size v1 v2 rs (w5.alloc (.cells #[v1, v2] 31)) := by
  obtain ⟨rs, h1, h2, h3, h4, h5⟩ := hg
  have hb := below_onto hb4 h5
  have hal := alloc_below w5 (.cells #[v1, v2] 31)
  have hb6 := below_onto hb hal
  have hs := hst.size
  have hs4 := hb4.size
  exact ⟨rs, hst.d.kept hb6 hst.d.lt, hst.e.kept hb6 hst.e.lt, hst.r.kept hb6 hst.r.lt, Blk2.new _ _ _ _, h1.kept hal, h2.kept hal, h3, fun g hg => (h1.lt hg).2, fun g hg => (h2.fams.ltB g hg).2, by omega, h5.size, h4, below_onto hst.bel hb6⟩
/-- nothing is done: the copy is handed on -/
theorem CpP.same {w w7 : World} {X Y v1 v2 : Value} {k x : Int} {xs : List Int} {L : List (List Int)} {O B : Nat} {rs : List Fr} (h : CpP w X Y k x xs L O B v1 v2 rs w7) :
    GivesP xs L w ((w7.setCell ⟨w.heap.size + 1 + 1, 0, none⟩ v1).setCell ⟨w.heap.size + 1 + 1, 1, none⟩ v2) v1 v2 :=
  givesP_of h.bel rfl h.lo ⟨h.now, h.own.fams, h.sep⟩ h.xs (fun _ => h.own)
/-- the last family is put back -/
theorem CpP.back {w w6 : World} {X Y v1 v2 : Value} {k x : Int} {xs : List Int} {L : List (List Int)} {O B m c : Nat} {a : Option Addr} {rs : List Fr} {y : Fr} (h : CpP w X Y k x xs L O B v1 (.slice a (m + 1) c) (rs ++ [y]) w6) (hm : m = rs.length) :
    GivesP y.xs (rs.map Fr.xs) w ((((w6.setCell ⟨O, 0, none⟩ y.v).setCell ⟨O, 1, none⟩ (.slice a m c)).setCell ⟨w.heap.size + 1 + 1, 0, none⟩ y.v).setCell ⟨w.heap.size + 1 + 1, 1, none⟩ (.slice a m c)) y.v (.slice a m c) := by
  have hcut := h.own.cut hm
  have hy : y ∈ rs ++ [y] := by simp
  have hlo := h.lo; have hbo := h.bo
  have hne : ∀ g, FB (.slice a m c) rs g → g ≠ O := fun g hg e => by
    have : FB (.slice a (m + 1) c) (rs ++ [y]) g := by
      rcases hg with hg | ⟨r, hr, e⟩
      · exact .inl (by rw [own_blk a _ m c c]; exact hg)
      · exact .inr ⟨r, List.mem_append.2 (.inl hr), e⟩
    have := h.low2 g this
    omega
  have hyo : y.g ≠ O := by have := h.low2 y.g (.inr ⟨y, hy, rfl⟩); omega
  have key : ∀ q, q ≠ O → ((w6.setCell ⟨O, 0, none⟩ y.v).setCell ⟨O, 1, none⟩ (.slice a m c)).heap[q]? = w6.heap[q]? := fun q hq => (set_blk (show q ≠ O from hq)).trans (set_blk (show q ≠ O from hq))
  have hcut' : FamsO ((w6.setCell ⟨O, 0, none⟩ y.v).setCell ⟨O, 1, none⟩ (.slice a m c)) B (.slice a m c) rs := hcut.same (fun g hg => key g (hne g hg))
  have hrow' : OwnX ((w6.setCell ⟨O, 0, none⟩ y.v).setCell ⟨O, 1, none⟩ (.slice a m c)) B 3 y.v y.xs := (h.own.row y hy).blk (key _ hyo)
  refine givesP_of ((h.bel.setCell (p := ⟨O, 0, none⟩) (show w.heap.size ≤ O by omega) _).setCell (p := ⟨O, 1, none⟩) (show w.heap.size ≤ O by omega) _) rfl h.lo ⟨hrow', hcut'.fams, fun g hg hf => ?_⟩ rfl (fun _ => hcut')
  rw [Fr.block] at hg
  injection hg with hg
  subst hg
  rcases hf with hf | ⟨r, hr, e⟩
  · rw [own_blk a m (m + 1) c c] at hf; exact h.own.apart y hy hf
  · have hd := h.own.dis
    rw [List.map_append, List.nodup_append] at hd
    exact hd.2.2 r.g (List.mem_map.2 ⟨r, hr, rfl⟩) y.g (by simp) e
end Go.Proofs.YthaickihoagnmaaGreatDoor

namespace Go.Proofs.YthaickihoagnmaaGreatDoor
set_option linter.unusedVariables false
set_option linter.unusedSimpArgs false
open Go.RowKit Go.Maps

/-- the family is changed -/
theorem CpP.change {w w7 w8 W : World} {X Y v1 v2 vm v' : Value} {k x : Int} {xs ys : List Int} {L L' : List (List Int)} {O B S6 : Nat} {rs rs' : List Fr} (h : CpP w X Y k x xs L O B v1 v2 rs w7) (hO : O < S6) (hm : OwnX w7 S6 3 vm ys) (hu : Upon (fun q => v2.ownBlock = some q) w7 w8)
    (hf : Fams w8 B v' rs') (hFB : ∀ g, FB v' rs' g → g < O ∨ w7.heap.size ≤ g) (hkey : ∀ q, q ≠ O → W.heap[q]? = w8.heap[q]?) (hsz : w8.heap.size ≤ W.heap.size) (hb : Below w.heap.size w W) (hrs : rs'.map Fr.xs = L') (ho : L'.length < 8 → FamsO w8 B v' rs') :
    GivesP ys L' w ((W.setCell ⟨w.heap.size + 1 + 1, 0, none⟩ vm).setCell ⟨w.heap.size + 1 + 1, 1, none⟩ v') vm v' := by
  have hlo := h.lo; have hbo := h.bo
  have hOl := h.o.lt
  have hne : ∀ g, FB v' rs' g → g ≠ O := fun g hg => by have := hFB g hg; omega
  have hmw : OwnX W B 3 vm ys := (hm.other (fun g hg hBg hgl => (hkey g (by omega)).trans (hu.block g hgl (fun e => by have := h.low2 g (.inl e); omega)))).base (by omega)
  refine givesP_of hb rfl h.lo ⟨hmw, hf.same hsz (fun g hg => hkey g (hne g hg)), fun g hg hq => ?_⟩ hrs (fun hl => (ho hl).same (fun g hg => hkey g (hne g hg)))
  have h1 := hm.lt hg
  have h2 := hFB g hq
  omega
theorem dk_other {xs : List Int} {L : List (List Int)} {k x : Int} (hdk : deskB xs L = true) (hB : ¬ (k = 4 ∧ x = 0 ∧ L ≠ [])) :
    dkB xs L k x = chB xs k x ∧ (dkX xs L k x = if chB xs k x then mdS xs k x else xs) ∧ (dkL xs L k x = if chB xs k x then (L ++ [xs]).drop (L.length - 7) else L) := by
  by_cases hk4 : k = 4
  · subst hk4
    have hc : chB xs 4 x = false := by
      have : mdL xs 4 x = [] := rfl
      exact chB_fam (by rw [this]; exact famL_nil)
    have hb : dkB xs L 4 x = false := by
      by_cases hx : x = 0
      · subst hx
        rw [dkB_back hdk]
        exact decide_eq_false (fun h => hB ⟨rfl, rfl, h⟩)
      · exact dkB_text (by
          cases hd : dOk 4 x with
          | false => rfl
          | true => have := dOk_iff.1 hd; omega)
    rw [hc, hb]
    exact ⟨rfl, (dk_no hb hdk).1, (dk_no hb hdk).2⟩
  · have hb := dkB_ch (x := x) hdk hk4
    refine ⟨hb, ?_, ?_⟩
    · cases hc : chB xs k x with
      | false => rw [hc] at hb; exact (dk_no hb hdk).1
      | true => rw [if_pos rfl, ms_md (chB_iff.1 hc).1]; exact (dk_ch hdk hk4 hc).1
    · cases hc : chB xs k x with
      | false => rw [hc] at hb; exact (dk_no hb hdk).2
      | true => exact (dk_ch hdk hk4 hc).2

set_option maxRecDepth 100000 in
set_option maxHeartbeats 3200000 in
theorem specDeskDo_back (d : Value) (xs : List Int) (L : List (List Int)) (hdk : deskB xs L = true) (hne : L ≠ []) (w : World) (h : DeskR w d xs L) :
    Calls Tryz.prog 67 #[d, .agg #[.int .i64 4, .int .i64 0]] w (DoneP true (L.getLastD []) L.dropLast w) := by
  obtain ⟨m, hm⟩ : ∃ m, L.length = m + 1 := by
    cases L with
    | nil => exact absurd rfl hne
    | cons l L => exact ⟨L.length, rfl⟩
  obtain ⟨y0, hy0⟩ : ∃ y0, L.getLastD [] = y0 := ⟨_, rfl⟩
  obtain ⟨M, hM⟩ : ∃ M, L.dropLast = M := ⟨_, rfl⟩
  rw [hy0, hM]
  have HLM := Lib.hid (show L = M ++ [y0] by
    rw [← hM, ← hy0, List.getLastD_eq_getLast?, List.getLast?_eq_some_getLast hne]
    exact (List.dropLast_concat_getLast hne).symm)
  have HM := Lib.hid hm
  clear hy0 hM hne hm
  have hdd := h
  obtain ⟨a, c, b, c2, rfl, hi, hnst⟩ := h.parts
  obtain ⟨hf, h8, hL⟩ := deskB_iff.1 hdk
  have hlen := famL_len hf
  obtain ⟨n, hnn⟩ : ∃ n, L.length = n := ⟨_, rfl⟩
  have HNN := Lib.hid hnn
  have hst := start3 w (.slice a xs.length c) (.slice b L.length c2) 4 0
  have hnm : n = m + 1 := by rw [← hnn, HM.out]
  rw [hnn] at hst h8
  have hdr := hdd.kept hst.bel
  rw [hnn] at hdr ⊢
  have hi3 := hi.below hst.bel (Nat.le_refl _)
  obtain ⟨w3, hw3⟩ : ∃ w3, ((w.alloc (.cells #[.slice a xs.length c, .slice b n c2] 31)).alloc (.cells #[.int .i64 (4), .int .i64 (0)] 39)).alloc (.cells #[.slice none 0 0, .slice none 0 0] 31) = w3 := ⟨_, rfl⟩
  rw [hw3] at hst hdr hi3
  have HST := Lib.hid hst; have HDR := Lib.hid hdr; have HDK := Lib.hid hdk; have HI := Lib.hid hi3; have HF := Lib.hid hf
  have hd0 := hst.d.cell.1; have hd1 := hst.d.cell.2
  clear h hdd hst hdr hdk hi hnst hL hi3 hf hnn
  have heq := fun W => eqDeedV_val 4 0 4 0 true rfl W
  have hgt : decide ((0 : Int) < (n : Int)) = true := decide_eq_true (by omega)
  have hgt2 : decide (0 < n) = true := decide_eq_true (by omega)
  have hn1 : (n : Int) - 1 = (m : Int) := by omega
  have hm0 : (0 : Int) ≤ (m : Int) := by omega
  have hmn : (m : Int) < (n : Int) := by omega
  have HNM := Lib.hid hnm
  clear hnm
  go_enter Tryz.func67, Tryz.ntmps67
  go_wp2_with fail
  clear hw3
  refine (specDeskOk_any _ xs L _ HDR.out).mono ?_
  rintro e w4 ⟨rfl, hb4⟩
  rw [HDK.out]
  have HB4 := Lib.hid hb4
  have hD := HST.out.d.kept hb4 HST.out.d.lt
  have he0 := hD.cell.1; have he1 := hD.cell.2
  clear hb4 hD hd0 hd1
  go_wp2_with fail
  refine (l12Copy_any _ xs L HDK.out _ (HDR.out.kept HB4.out)).mono ?_
  rintro e w5 ⟨v1, v2, rfl, hg⟩
  obtain ⟨rs, hcp⟩ := cpP_of HST.out HB4.out hg
  have HGB := Lib.hid hg.desk.below
  obtain ⟨p1, e1, rfl⟩ := hcp.now.slice
  obtain ⟨p2, e2, hv2⟩ := hcp.own.fams.seq.slice
  have hrl : rs.length = n := by rw [← HNN.out, ← hcp.xs, List.length_map]
  rw [List.length_map, hrl] at hv2
  subst hv2
  have HRL := Lib.hid hrl
  obtain ⟨O, hO⟩ : ∃ O, w5.heap.size = O := ⟨_, rfl⟩
  obtain ⟨B, hB⟩ : ∃ B, w4.heap.size = B := ⟨_, rfl⟩
  obtain ⟨w6, hw6⟩ : ∃ w6, w5.alloc (.cells #[.slice p1 xs.length e1, .slice p2 n e2] 31) = w6 := ⟨_, rfl⟩
  rw [hO, hB, hw6] at hcp
  have HC := Lib.hid hcp
  have hc0 := hcp.d.cell.1; have hc1 := hcp.d.cell.2; have hk0 := hcp.e.cell.1; have hk1 := hcp.e.cell.2
  clear he0 he1 hrl hB hg hcp
  obtain ⟨rs', y, hrs⟩ : ∃ rs' y, rs = rs' ++ [y] := by
    rcases List.eq_nil_or_concat rs with e | ⟨rs', y, e⟩
    · have := HRL.out; rw [e] at this; have := HNM.out; simp at *; omega
    · exact ⟨rs', y, by rw [e, List.concat_eq_append]⟩
  subst hrs
  have hrm : m = rs'.length := by have h1 := HRL.out; have h2 := HNM.out; rw [List.length_append, List.length_singleton] at h1; omega
  have hxs := HC.out.xs
  rw [HLM.out, List.map_append] at hxs
  obtain ⟨hx1, hx2⟩ := List.append_inj' hxs rfl
  have hy : y.xs = y0 := by simpa using hx2
  have HX1 := Lib.hid hx1; have HRM := Lib.hid hrm
  obtain ⟨gy, cy, xy⟩ := y
  have hy' : xy = y0 := hy
  subst hy'
  have hp2 : ∃ g2, p2 = some ⟨g2, 0, none⟩ := by
    rcases HC.out.own.own.2 with ⟨h1, _⟩ | ⟨g, cap, cur, hv, _⟩
    · exact absurd h1 (by intro e; injection e with e1 e2 e3; have := HNM.out; omega)
    · injection hv with e1 e2 e3; exact ⟨g, e1⟩
  obtain ⟨g2, rfl⟩ := hp2
  have hcell : w6.cell? ⟨g2, m, none⟩ = some (.slice (some ⟨gy, 0, none⟩) xy.length cy) := by
    have := fams_cells (by simp) HC.out.own.fams m (.slice (some ⟨gy, 0, none⟩) xy.length cy) (by rw [List.map_append, List.getElem?_append_right (by rw [List.length_map, hrm]; exact Nat.le_refl _), List.length_map, hrm, Nat.sub_self]; rfl)
    rwa [Nat.zero_add] at this
  have ho0 := HC.out.o.cell.1; have ho1 := HC.out.o.cell.2; have hf0 := HC.out.o.frozen 0; have hf1 := HC.out.o.frozen 1
  have hR := HC.out.r
  have hr0 := hR.cell.1; have hr1 := hR.cell.2; have hr2 := hR.frozen 0; have hr3 := hR.frozen 1
  have hne1 : ¬ g2 = O := by have := HC.out.low2 g2 (.inl rfl); omega
  have hne2 : ¬ O = w.heap.size + 1 + 1 := by have h1 := HC.out.lo; have h2 := HC.out.bo; omega
  have hne3 : ¬ w.heap.size + 1 + 1 = O := fun e => hne2 e.symm
  have hcap : m ≤ n ∧ n ≤ e2 := by
    obtain ⟨q1, q2, _⟩ := HC.out.own.cap (by have := HNM.out; omega)
    have := HNM.out; omega
  have hcut := fun W => run_cut g2 0 n e2 m hcap.1 hcap.2 W
  have HR := Lib.hid hR
  have HCC : Hid (CpP w (.slice a xs.length c) (.slice b (m + 1) c2) 4 0 xs L O B (.slice p1 xs.length e1) (.slice (some ⟨g2, 0, none⟩) (m + 1) e2) (rs' ++ [⟨gy, cy, xy⟩]) w6) := Lib.hid (by
    have := HC.out
    rw [HNM.out] at this
    exact this)
  have HG := Lib.hid (HCC.out.back (v2 := undef) hrm)
  rw [hx1] at HG
  clear hR hrm hxs hx1 hx2 hy hcap
  go_wp2_with fail
  refine bodyPost_ret (results_desk rfl _ _ (w.heap.size + 1 + 1) ((((HR.out.other hne3 0 (.slice (some ⟨gy, 0, none⟩) xy.length cy)).other hne3 1 (.slice (some ⟨g2, 0, none⟩) m e2)).set0 (.slice (some ⟨gy, 0, none⟩) xy.length cy)).set1 (.slice (some ⟨g2, 0, none⟩) m e2)) rfl rfl (by kernel_rfl)) rfl ?_
  exact ⟨_, _, rfl, HG.out⟩

set_option maxRecDepth 100000 in
set_option maxHeartbeats 3200000 in
theorem specDeskDo_yes (d : Value) (xs : List Int) (L : List (List Int)) (k x : Int) (hx : I64 x) (hdk : deskB xs L = true) (hne : ¬ (k = 4 ∧ x = 0)) (hcb : chB xs (k) (x) = true) (w : World) (h : DeskR w d xs L) :
    Calls Tryz.prog 67 #[d, .agg #[.int .i64 k, .int .i64 x]] w (DoneP (chB xs (k) (x)) (if chB xs (k) (x) then mdS xs (k) (x) else xs) (if chB xs (k) (x) then (L ++ [xs]).drop (L.length - 7) else L) w) := by
  have e1 : ∀ A : List Int, (if chB xs (k) (x) = true then A else xs) = A := fun A => by rw [hcb]; rfl
  have e2 : ∀ A : List (List Int), (if chB xs (k) (x) = true then A else L) = A := fun A => by rw [hcb]; rfl
  rw [e1, e2, hcb]
  have HCB := Lib.hid hcb
  obtain ⟨ys, hys⟩ : ∃ ys, mdS xs (k) (x) = ys := ⟨_, rfl⟩
  rw [hys]
  have HYS := Lib.hid hys
  clear hcb e1 e2 hys
  have hdd := h
  obtain ⟨a, c, b, c2, rfl, hi, hnst⟩ := h.parts
  obtain ⟨hf, h8, hL⟩ := deskB_iff.1 hdk
  have hlen := famL_len hf
  obtain ⟨n, hnn⟩ : ∃ n, L.length = n := ⟨_, rfl⟩
  have HNN := Lib.hid hnn
  have hst := start3 w (.slice a xs.length c) (.slice b L.length c2) k x
  rw [hnn] at hst h8
  have hdr := hdd.kept hst.bel
  rw [hnn] at hdr ⊢
  have hi3 := hi.below hst.bel (Nat.le_refl _)
  obtain ⟨w3, hw3⟩ : ∃ w3, ((w.alloc (.cells #[.slice a xs.length c, .slice b n c2] 31)).alloc (.cells #[.int .i64 (k), .int .i64 (x)] 39)).alloc (.cells #[.slice none 0 0, .slice none 0 0] 31) = w3 := ⟨_, rfl⟩
  rw [hw3] at hst hdr hi3
  have HST := Lib.hid hst; have HDR := Lib.hid hdr; have HDK := Lib.hid hdk; have HI := Lib.hid hi3; have HF := Lib.hid hf
  have hd0 := hst.d.cell.1; have hd1 := hst.d.cell.2
  clear h hdd hst hdr hdk hi hnst hL hi3 hf hnn
  have heq := fun W => eqDeedV_val k x 4 0 false (by rw [Bool.and_eq_false_iff]; simp; omega) W
  clear hne
  go_enter Tryz.func67, Tryz.ntmps67
  go_wp2_with fail
  clear hw3
  refine (specDeskOk_any _ xs L _ HDR.out).mono ?_
  rintro e w4 ⟨rfl, hb4⟩
  rw [HDK.out]
  have HB4 := Lib.hid hb4
  have hD := HST.out.d.kept hb4 HST.out.d.lt
  have he0 := hD.cell.1; have he1 := hD.cell.2
  clear hb4 hD hd0 hd1
  go_wp2_with fail
  refine (l12Copy_any _ xs L HDK.out _ (HDR.out.kept HB4.out)).mono ?_
  rintro e w5 ⟨v1, v2, rfl, hg⟩
  obtain ⟨rs, hcp⟩ := cpP_of HST.out HB4.out hg
  have HGB := Lib.hid hg.desk.below
  obtain ⟨p1, e1, rfl⟩ := hcp.now.slice
  obtain ⟨p2, e2, hv2⟩ := hcp.own.fams.seq.slice
  have hrl : rs.length = n := by rw [← HNN.out, ← hcp.xs, List.length_map]
  rw [List.length_map, hrl] at hv2
  subst hv2
  have HRL := Lib.hid hrl
  obtain ⟨O, hO⟩ : ∃ O, w5.heap.size = O := ⟨_, rfl⟩
  obtain ⟨B, hB⟩ : ∃ B, w4.heap.size = B := ⟨_, rfl⟩
  obtain ⟨w6, hw6⟩ : ∃ w6, w5.alloc (.cells #[.slice p1 xs.length e1, .slice p2 n e2] 31) = w6 := ⟨_, rfl⟩
  rw [hO, hB, hw6] at hcp
  have HC := Lib.hid hcp
  have hc0 := hcp.d.cell.1; have hc1 := hcp.d.cell.2; have hk0 := hcp.e.cell.1; have hk1 := hcp.e.cell.2
  clear he0 he1 hrl hB hg hcp
  have HW6 := Lib.hid (show Below w3.heap.size w3 w6 from by rw [← hw6]; exact (below_onto HB4.out HGB.out).alloc (by have := (below_onto HB4.out HGB.out).size; omega) _)
  go_wp2_with fail
  clear hw6 hO
  refine (l12Made_any a c xs (k) (x) hx HF.out _ (HI.out.below HW6.out (Nat.le_refl _))).mono ?_
  rintro e w7 ⟨gm, cm, rfl, hom, hb7⟩
  have HC7 := Lib.hid (HC.out.kept hb7)
  have HO6 := Lib.hid HC.out.o.lt
  have HOM := Lib.hid hom
  have ho0 := HC7.out.o.cell.1; have ho1 := HC7.out.o.cell.2; have hf0 := HC7.out.o.frozen 0; have hf1 := HC7.out.o.frozen 1
  have hR := HC7.out.r
  have hr0 := hR.cell.1; have hr1 := hR.cell.2; have hr2 := hR.frozen 0; have hr3 := hR.frozen 1
  have HR := Lib.hid hR
  clear hom hb7 hR hc0 hc1 hk0 hk1
  rw [HYS.out] at HOM ⊢
  rw [HCB.out]
  have hne2 : ¬ O = w.heap.size + 1 + 1 := by have h1 := HC.out.lo; have h2 := HC.out.bo; omega
  have hne3 : ¬ w.heap.size + 1 + 1 = O := fun e => hne2 e.symm
  obtain ⟨g1, c1, hv1, _⟩ := HC7.out.now.shape hlen.1
  injection hv1 with h1 h2 h3
  subst h1; subst h3; clear h2
  have HA1 := Lib.hid (fun r (hr : r ∈ rs) (e : r.g = g1) => HC7.out.sep g1 rfl (.inr ⟨r, hr, e⟩))
  have HA2 : Hid ((Value.slice p2 n e2).ownBlock ≠ some g1) := Lib.hid (fun e => HC7.out.sep g1 rfl (.inl e))
  have HA3 := Lib.hid (show B ≤ w7.heap.size from by have h1 := HC7.out.o.lt; have h2 := HC7.out.bo; omega)
  have HA4 := Lib.hid (show rs.length ≤ 1000 by rw [HRL.out]; omega)
  go_wp2_with (at_builtin; refine append_fr rfl (.tmp 52) (.tmp 55) rfl B (.slice p2 n e2) rs ⟨g1, e1, xs⟩ w7 rfl rfl HC7.out.own HA4.out HC7.out.now HA1.out HA2.out HA3.out ?_)
  intro g9 c9 w8 ho9 hb9 hu9 hat9
  rw [HRL.out] at ho9 ⊢
  have HO9 := Lib.hid ho9; have HU9 := Lib.hid hu9
  have HAT := Lib.hid (show ∀ q, FB (.slice (some ⟨g9, 0, none⟩) (n + 1) c9) (rs ++ [⟨g1, e1, xs⟩]) q → q < O ∨ w7.heap.size ≤ q from fun q hq => by
    rcases hq with hq | ⟨r, hr, e⟩
    · injection hq with hq
      have hq : g9 = q := hq
      rcases hat9 with h | h
      · have := HC7.out.low2 g9 (.inl h); omega
      · omega
    · rcases List.mem_append.1 hr with hr | hr
      · have := HC7.out.low2 r.g (.inr ⟨r, hr, rfl⟩); omega
      · rw [List.mem_singleton] at hr
        subst hr
        have e : g1 = q := e
        have := HC7.out.low1 g1 rfl; omega)
  have hO8 : Blk2 w8 O 31 (.slice (some ⟨g1, 0, none⟩) xs.length e1) (.slice p2 n e2) := (hu9.block O HC7.out.o.lt (fun e => by have := HC7.out.low2 O (.inl e); omega)).trans HC7.out.o
  have hR8 : Blk2 w8 (w.heap.size + 1 + 1) 31 (.slice none 0 0) (.slice none 0 0) := (hu9.block _ HC7.out.r.lt (fun e => by have h1 := (HC7.out.own.fams.ltB _ (.inl e)).1; have h2 := HC7.out.lo; omega)).trans HC7.out.r
  have hs0 := hO8.cell.1; have hs1 := hO8.cell.2; have ht0 := hO8.frozen 0; have ht1 := hO8.frozen 1
  have hu0 := hR8.cell.1; have hu1 := hR8.cell.2; have hu2 := hR8.frozen 0; have hu3 := hR8.frozen 1
  have HR8 := Lib.hid hR8
  have HB8 := Lib.hid (show Below w.heap.size w w8 from HC7.out.bel.trans (hb9.mono (by have := HC7.out.lo; omega)))
  obtain ⟨q1, hcp2, hcp3⟩ := ho9.cap (by omega)
  have HW8 := Lib.hid (show w8.heap.size = w8.heap.size from rfl)
  have HXS := Lib.hid HC7.out.xs
  have HLO := Lib.hid (show w.heap.size ≤ O from by have h1 := HC.out.lo; have h2 := HC.out.bo; omega)
  clear ho9 hb9 hu9 hat9 hO8 hR8 q1 ho0 ho1 hf0 hf1 hr0 hr1 hr2 hr3 HR
  by_cases hn8 : n = 8
  · have hg8 : decide ((8 : Int) < (n : Int) + 1) = true := decide_eq_true (by omega)
    have hg8n : (8 : Int) < (n : Int) + 1 := by omega
    have hsl := fun W => run_from1 g9 n c9 hcp2 (by omega) W
    have HG : Hid (GivesP ys ((L ++ [xs]).drop (n - 7)) w (((((w8.setCell ⟨O, 1, none⟩ (.slice (some ⟨g9, 0, none⟩) (n + 1) c9)).setCell ⟨O, 1, none⟩ (.slice (some ⟨g9, 1, none⟩) n (c9 - 1))).setCell ⟨O, 0, none⟩ (.slice gm ys.length cm)).setCell ⟨w.heap.size + 1 + 1, 0, none⟩ (.slice gm ys.length cm)).setCell ⟨w.heap.size + 1 + 1, 1, none⟩ (.slice (some ⟨g9, 1, none⟩) n (c9 - 1))) (.slice gm ys.length cm) (.slice (some ⟨g9, 1, none⟩) n (c9 - 1))) := Lib.hid (by
      have h9 := HO9.out
      have hl := HRL.out
      have hat := HAT.out
      have hxs := HXS.out
      cases rs with
      | nil => exact absurd hl (by rw [hn8]; simp)
      | cons r rs' =>
        have ht := h9.tail
        refine HC7.out.change HO6.out HOM.out HU9.out ht (fun q hq => hat q (FB_tail hq)) (fun q hq => ((set_blk (show q ≠ O from hq)).trans (set_blk (show q ≠ O from hq))).trans (set_blk (show q ≠ O from hq))) (by simp [World.setCell]) ?_ ?_ (fun hlen => ?_)
        · exact ((HB8.out.setCell (p := ⟨O, 1, none⟩) HLO.out _).setCell (p := ⟨O, 1, none⟩) HLO.out _).setCell (p := ⟨O, 0, none⟩) HLO.out _
        · rw [← hxs, hn8]; simp
        · exfalso
          rw [← hxs, hn8] at hlen
          simp at hlen hl
          omega)
    have HN8 := Lib.hid hn8
    clear hn8
    go_wp2_with fail
    refine bodyPost_ret (results_desk rfl _ _ (w.heap.size + 1 + 1) (((((HR8.out.other hne3 1 (.slice (some ⟨g9, 0, none⟩) (n + 1) c9)).other hne3 1 (.slice (some ⟨g9, 1, none⟩) n (c9 - 1))).other hne3 0 (.slice gm ys.length cm)).set0 (.slice gm ys.length cm)).set1 (.slice (some ⟨g9, 1, none⟩) n (c9 - 1))) rfl rfl (by kernel_rfl)) rfl ?_
    exact ⟨_, _, rfl, HG.out⟩
  · have hg8 : decide ((8 : Int) < (n : Int) + 1) = false := decide_eq_false (by omega)
    have hg8n : ¬ (8 : Int) < (n : Int) + 1 := by omega
    have HG : Hid (GivesP ys ((L ++ [xs]).drop (n - 7)) w ((((w8.setCell ⟨O, 1, none⟩ (.slice (some ⟨g9, 0, none⟩) (n + 1) c9)).setCell ⟨O, 0, none⟩ (.slice gm ys.length cm)).setCell ⟨w.heap.size + 1 + 1, 0, none⟩ (.slice gm ys.length cm)).setCell ⟨w.heap.size + 1 + 1, 1, none⟩ (.slice (some ⟨g9, 0, none⟩) (n + 1) c9)) (.slice gm ys.length cm) (.slice (some ⟨g9, 0, none⟩) (n + 1) c9)) := Lib.hid (by
      refine HC7.out.change HO6.out HOM.out HU9.out HO9.out.fams HAT.out (fun q hq => (set_blk (show q ≠ O from hq)).trans (set_blk (show q ≠ O from hq))) (by simp [World.setCell]) ?_ ?_ (fun _ => HO9.out)
      · exact (HB8.out.setCell (p := ⟨O, 1, none⟩) HLO.out _).setCell (p := ⟨O, 0, none⟩) HLO.out _
      · rw [← HXS.out, show n - 7 = 0 by omega]; simp)
    clear hn8
    go_wp2_with fail
    refine bodyPost_ret (results_desk rfl _ _ (w.heap.size + 1 + 1) ((((HR8.out.other hne3 1 (.slice (some ⟨g9, 0, none⟩) (n + 1) c9)).other hne3 0 (.slice gm ys.length cm)).set0 (.slice gm ys.length cm)).set1 (.slice (some ⟨g9, 0, none⟩) (n + 1) c9)) rfl rfl (by kernel_rfl)) rfl ?_
    exact ⟨_, _, rfl, HG.out⟩

set_option maxRecDepth 100000 in
set_option maxHeartbeats 3200000 in
theorem specDeskDo_keep (d : Value) (xs : List Int) (L : List (List Int)) (k x : Int) (hx : I64 x) (hdk : deskB xs L = true) (hne : ¬ (k = 4 ∧ x = 0)) (hcb : chB xs (k) (x) = false) (w : World) (h : DeskR w d xs L) :
    Calls Tryz.prog 67 #[d, .agg #[.int .i64 k, .int .i64 x]] w (DoneP (chB xs (k) (x)) (if chB xs (k) (x) then mdS xs (k) (x) else xs) (if chB xs (k) (x) then (L ++ [xs]).drop (L.length - 7) else L) w) := by
  have e1 : ∀ A : List Int, (if chB xs (k) (x) = true then A else xs) = xs := fun A => by rw [hcb]; rfl
  have e2 : ∀ A : List (List Int), (if chB xs (k) (x) = true then A else L) = L := fun A => by rw [hcb]; rfl
  rw [e1, e2, hcb]
  have HCB := Lib.hid hcb
  obtain ⟨ys, hys⟩ : ∃ ys, mdS xs (k) (x) = ys := ⟨_, rfl⟩
  have HYS := Lib.hid hys
  clear hcb e1 e2 hys
  have hdd := h
  obtain ⟨a, c, b, c2, rfl, hi, hnst⟩ := h.parts
  obtain ⟨hf, h8, hL⟩ := deskB_iff.1 hdk
  have hlen := famL_len hf
  obtain ⟨n, hnn⟩ : ∃ n, L.length = n := ⟨_, rfl⟩
  have HNN := Lib.hid hnn
  have hst := start3 w (.slice a xs.length c) (.slice b L.length c2) k x
  rw [hnn] at hst h8
  have hdr := hdd.kept hst.bel
  rw [hnn] at hdr ⊢
  have hi3 := hi.below hst.bel (Nat.le_refl _)
  obtain ⟨w3, hw3⟩ : ∃ w3, ((w.alloc (.cells #[.slice a xs.length c, .slice b n c2] 31)).alloc (.cells #[.int .i64 (k), .int .i64 (x)] 39)).alloc (.cells #[.slice none 0 0, .slice none 0 0] 31) = w3 := ⟨_, rfl⟩
  rw [hw3] at hst hdr hi3
  have HST := Lib.hid hst; have HDR := Lib.hid hdr; have HDK := Lib.hid hdk; have HI := Lib.hid hi3; have HF := Lib.hid hf
  have hd0 := hst.d.cell.1; have hd1 := hst.d.cell.2
  clear h hdd hst hdr hdk hi hnst hL hi3 hf hnn
  have heq := fun W => eqDeedV_val k x 4 0 false (by rw [Bool.and_eq_false_iff]; simp; omega) W
  clear hne
  go_enter Tryz.func67, Tryz.ntmps67
  go_wp2_with fail
  clear hw3
  refine (specDeskOk_any _ xs L _ HDR.out).mono ?_
  rintro e w4 ⟨rfl, hb4⟩
  rw [HDK.out]
  have HB4 := Lib.hid hb4
  have hD := HST.out.d.kept hb4 HST.out.d.lt
  have he0 := hD.cell.1; have he1 := hD.cell.2
  clear hb4 hD hd0 hd1
  go_wp2_with fail
  refine (l12Copy_any _ xs L HDK.out _ (HDR.out.kept HB4.out)).mono ?_
  rintro e w5 ⟨v1, v2, rfl, hg⟩
  obtain ⟨rs, hcp⟩ := cpP_of HST.out HB4.out hg
  have HGB := Lib.hid hg.desk.below
  obtain ⟨p1, e1, rfl⟩ := hcp.now.slice
  obtain ⟨p2, e2, hv2⟩ := hcp.own.fams.seq.slice
  have hrl : rs.length = n := by rw [← HNN.out, ← hcp.xs, List.length_map]
  rw [List.length_map, hrl] at hv2
  subst hv2
  have HRL := Lib.hid hrl
  obtain ⟨O, hO⟩ : ∃ O, w5.heap.size = O := ⟨_, rfl⟩
  obtain ⟨B, hB⟩ : ∃ B, w4.heap.size = B := ⟨_, rfl⟩
  obtain ⟨w6, hw6⟩ : ∃ w6, w5.alloc (.cells #[.slice p1 xs.length e1, .slice p2 n e2] 31) = w6 := ⟨_, rfl⟩
  rw [hO, hB, hw6] at hcp
  have HC := Lib.hid hcp
  have hc0 := hcp.d.cell.1; have hc1 := hcp.d.cell.2; have hk0 := hcp.e.cell.1; have hk1 := hcp.e.cell.2
  clear he0 he1 hrl hB hg hcp
  have HW6 := Lib.hid (show Below w3.heap.size w3 w6 from by rw [← hw6]; exact (below_onto HB4.out HGB.out).alloc (by have := (below_onto HB4.out HGB.out).size; omega) _)
  go_wp2_with fail
  clear hw6 hO
  refine (l12Made_any a c xs (k) (x) hx HF.out _ (HI.out.below HW6.out (Nat.le_refl _))).mono ?_
  rintro e w7 ⟨gm, cm, rfl, hom, hb7⟩
  have HC7 := Lib.hid (HC.out.kept hb7)
  have HO6 := Lib.hid HC.out.o.lt
  have HOM := Lib.hid hom
  have ho0 := HC7.out.o.cell.1; have ho1 := HC7.out.o.cell.2; have hf0 := HC7.out.o.frozen 0; have hf1 := HC7.out.o.frozen 1
  have hR := HC7.out.r
  have hr0 := hR.cell.1; have hr1 := hR.cell.2; have hr2 := hR.frozen 0; have hr3 := hR.frozen 1
  have HR := Lib.hid hR
  clear hom hb7 hR hc0 hc1 hk0 hk1
  rw [HYS.out] at HOM ⊢
  rw [HCB.out]
  have HG := Lib.hid HC7.out.same
  go_wp2_with fail
  refine bodyPost_ret (results_desk rfl _ _ (w.heap.size + 1 + 1) ((HR.out.set0 (.slice p1 xs.length e1)).set1 (.slice p2 n e2)) rfl rfl (by kernel_rfl)) rfl ?_
  exact ⟨_, _, rfl, HG.out⟩

set_option maxRecDepth 100000 in
set_option maxHeartbeats 3200000 in
theorem specDeskDo_nil (d : Value) (xs : List Int) (L : List (List Int)) (hdk : deskB xs L = true) (hne : L = []) (hcb : chB xs (4) (0) = false) (w : World) (h : DeskR w d xs L) :
    Calls Tryz.prog 67 #[d, .agg #[.int .i64 4, .int .i64 0]] w (DoneP (chB xs (4) (0)) (if chB xs (4) (0) then mdS xs (4) (0) else xs) (if chB xs (4) (0) then (L ++ [xs]).drop (L.length - 7) else L) w) := by
  have e1 : ∀ A : List Int, (if chB xs (4) (0) = true then A else xs) = xs := fun A => by rw [hcb]; rfl
  have e2 : ∀ A : List (List Int), (if chB xs (4) (0) = true then A else L) = L := fun A => by rw [hcb]; rfl
  rw [e1, e2, hcb]
  have HCB := Lib.hid hcb
  obtain ⟨ys, hys⟩ : ∃ ys, mdS xs (4) (0) = ys := ⟨_, rfl⟩
  have HYS := Lib.hid hys
  clear hcb e1 e2 hys
  have hdd := h
  obtain ⟨a, c, b, c2, rfl, hi, hnst⟩ := h.parts
  obtain ⟨hf, h8, hL⟩ := deskB_iff.1 hdk
  have hlen := famL_len hf
  obtain ⟨n, hnn⟩ : ∃ n, L.length = n := ⟨_, rfl⟩
  have HNN := Lib.hid hnn
  have hst := start3 w (.slice a xs.length c) (.slice b L.length c2) 4 0
  rw [hnn] at hst h8
  have hdr := hdd.kept hst.bel
  rw [hnn] at hdr ⊢
  have hi3 := hi.below hst.bel (Nat.le_refl _)
  obtain ⟨w3, hw3⟩ : ∃ w3, ((w.alloc (.cells #[.slice a xs.length c, .slice b n c2] 31)).alloc (.cells #[.int .i64 (4), .int .i64 (0)] 39)).alloc (.cells #[.slice none 0 0, .slice none 0 0] 31) = w3 := ⟨_, rfl⟩
  rw [hw3] at hst hdr hi3
  have HST := Lib.hid hst; have HDR := Lib.hid hdr; have HDK := Lib.hid hdk; have HI := Lib.hid hi3; have HF := Lib.hid hf
  have hd0 := hst.d.cell.1; have hd1 := hst.d.cell.2
  clear h hdd hst hdr hdk hi hnst hL hi3 hf hnn
  have heq := fun W => eqDeedV_val 4 0 4 0 true rfl W
  have hn0 : n = 0 := by rw [← HNN.out, hne]; rfl
  have hgt : decide ((0 : Int) < (n : Int)) = false := decide_eq_false (by omega)
  have hgt2 : decide (0 < n) = false := decide_eq_false (by omega)
  have hgt3 : ¬ 0 < n := by omega
  clear hne hn0
  go_enter Tryz.func67, Tryz.ntmps67
  go_wp2_with fail
  clear hw3
  refine (specDeskOk_any _ xs L _ HDR.out).mono ?_
  rintro e w4 ⟨rfl, hb4⟩
  rw [HDK.out]
  have HB4 := Lib.hid hb4
  have hD := HST.out.d.kept hb4 HST.out.d.lt
  have he0 := hD.cell.1; have he1 := hD.cell.2
  clear hb4 hD hd0 hd1
  go_wp2_with fail
  refine (l12Copy_any _ xs L HDK.out _ (HDR.out.kept HB4.out)).mono ?_
  rintro e w5 ⟨v1, v2, rfl, hg⟩
  obtain ⟨rs, hcp⟩ := cpP_of HST.out HB4.out hg
  have HGB := Lib.hid hg.desk.below
  obtain ⟨p1, e1, rfl⟩ := hcp.now.slice
  obtain ⟨p2, e2, hv2⟩ := hcp.own.fams.seq.slice
  have hrl : rs.length = n := by rw [← HNN.out, ← hcp.xs, List.length_map]
  rw [List.length_map, hrl] at hv2
  subst hv2
  have HRL := Lib.hid hrl
  obtain ⟨O, hO⟩ : ∃ O, w5.heap.size = O := ⟨_, rfl⟩
  obtain ⟨B, hB⟩ : ∃ B, w4.heap.size = B := ⟨_, rfl⟩
  obtain ⟨w6, hw6⟩ : ∃ w6, w5.alloc (.cells #[.slice p1 xs.length e1, .slice p2 n e2] 31) = w6 := ⟨_, rfl⟩
  rw [hO, hB, hw6] at hcp
  have HC := Lib.hid hcp
  have hc0 := hcp.d.cell.1; have hc1 := hcp.d.cell.2; have hk0 := hcp.e.cell.1; have hk1 := hcp.e.cell.2
  clear he0 he1 hrl hB hg hcp
  have HW6 := Lib.hid (show Below w3.heap.size w3 w6 from by rw [← hw6]; exact (below_onto HB4.out HGB.out).alloc (by have := (below_onto HB4.out HGB.out).size; omega) _)
  go_wp2_with fail
  clear hw6 hO
  refine (l12Made_any a c xs 4 0 (by unfold I64; omega) HF.out _ (HI.out.below HW6.out (Nat.le_refl _))).mono ?_
  rintro e w7 ⟨gm, cm, rfl, hom, hb7⟩
  have HC7 := Lib.hid (HC.out.kept hb7)
  have HO6 := Lib.hid HC.out.o.lt
  have HOM := Lib.hid hom
  have ho0 := HC7.out.o.cell.1; have ho1 := HC7.out.o.cell.2; have hf0 := HC7.out.o.frozen 0; have hf1 := HC7.out.o.frozen 1
  have hR := HC7.out.r
  have hr0 := hR.cell.1; have hr1 := hR.cell.2; have hr2 := hR.frozen 0; have hr3 := hR.frozen 1
  have HR := Lib.hid hR
  clear hom hb7 hR hc0 hc1 hk0 hk1
  rw [HYS.out] at HOM ⊢
  rw [HCB.out]
  have HG := Lib.hid HC7.out.same
  go_wp2_with fail
  refine bodyPost_ret (results_desk rfl _ _ (w.heap.size + 1 + 1) ((HR.out.set0 (.slice p1 xs.length e1)).set1 (.slice p2 n e2)) rfl rfl (by kernel_rfl)) rfl ?_
  exact ⟨_, _, rfl, HG.out⟩

end Go.Proofs.YthaickihoagnmaaGreatDoor
