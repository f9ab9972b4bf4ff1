import Derived.Test.YthaickihoagnmaaGreatDoorTxTwo
import Derived.Test.YthaickihoagnmaaGreatDoorTxThree
import Derived.Test.YthaickihoagnmaaGreatDoorDrawF
import Derived.Deep.DeepFit
namespace Go.Proofs.YthaickihoagnmaaGreatDoor
set_option linter.unusedVariables false
set_option linter.unusedSimpArgs false
open Go.RowKit Go.Maps

/-- a row of integers that a reader does not write -/
def LstR (w : World) (rb : Nat) (a : Option Addr) (m : Nat) : Prop :=
  m ≤ 100 ∧ (m = 0 ∨ ∃ b f, a = some ⟨b, 0, none⟩ ∧ b < w.heap.size ∧ b ≠ rb ∧ Row w b 0 m f ∧ ∀ i, i < m → I64 (f i))
theorem LstR.only {w w' : World} {rb m : Nat} {a : Option Addr} (h : LstR w rb a m) (ho : Only rb w w') : LstR w' rb a m := by
  obtain ⟨h1, h2⟩ := h
  refine ⟨h1, ?_⟩
  rcases h2 with h2 | ⟨b, f, h2, h3, h4, h5, h6⟩
  · exact .inl h2
  · exact .inr ⟨b, f, h2, Nat.lt_of_lt_of_le h3 ho.size, h4, h5.only ho h3 h4, h6⟩
theorem Blk2.only {w w' : World} {B rb : Nat} {t : TypeId} {x y : Value} (h : Blk2 w B t x y) (ho : Only rb w w') (hne : B ≠ rb) : Blk2 w' B t x y := (ho.block B h.lt hne).trans h

/-- a deed is drawn -/
def DeedDrawn (rb P : Nat) (w : World) (e : Ending) (w' : World) : Prop :=
  ∃ k x : Int, e = .returned (.agg #[.int .i64 k, .int .i64 x]) ∧ 0 ≤ k ∧ k ≤ 9 ∧ I64 x ∧ Only rb w w' ∧ Rdr w' rb (P + 10)

def kd7 : List Int := [0, 0, 0, 1, 2, 3, 4]
theorem kd7_rng (u : Nat) : 0 ≤ kd7.getD u 0 ∧ kd7.getD u 0 ≤ 4 := by
  by_cases h : u < 7
  · have : u = 0 ∨ u = 1 ∨ u = 2 ∨ u = 3 ∨ u = 4 ∨ u = 5 ∨ u = 6 := by omega
    rcases this with rfl | rfl | rfl | rfl | rfl | rfl | rfl <;> decide
  · rw [List.getD_eq_getElem?_getD, List.getElem?_eq_none (show kd7.length ≤ u by show 7 ≤ u; omega)]; decide
theorem lit_int (W : World) (l : List Int) (arr : Array Value) (t : TypeId) (ha : arr = (l.map (Value.int .i64)).toArray) (q : Nat) (hq : q < l.length) :
    (W.alloc (.cells arr t)).cell? ⟨W.heap.size, q, none⟩ = some (.int .i64 (l.getD q 0)) := by
  subst ha
  have hrow := World.rowIs_alloc W (l.map (Value.int .i64)).toArray t (fun i => .int .i64 (l.getD i 0)) (by
    intro i hi
    simp at hi
    simp [List.getElem?_eq_getElem hi])
  exact hrow.cell (i := q) (by simpa using hq)
theorem cell_only {w w' : World} {rb : Nat} {p : Addr} {v : Value} (ho : Only rb w w') (h : w.cell? p = some v) (hne : p.block ≠ rb) : w'.cell? p = some v :=
  (World.cell?_of_block (a := p) (ho.block p.block (World.block_lt_of_cell? w _ h) hne)).trans h
theorem cell_al {w : World} {p : Addr} {v : Value} (o : Obj) (h : w.cell? p = some v) : (w.alloc o).cell? p = some v :=
  ((alloc_below w o).cell (World.block_lt_of_cell? w _ h)).trans h
theorem cell_dr {w : World} {p : Addr} {v : Value} (h : w.cell? p = some v) : w.drew.cell? p = some v := h
theorem Blk2.dr {w : World} {B : Nat} {t : TypeId} {x y : Value} (h : Blk2 w B t x y) : Blk2 w.drew B t x y := h
theorem Blk2.al {w : World} {B : Nat} {t : TypeId} {x y : Value} (h : Blk2 w B t x y) (o : Obj) : Blk2 (w.alloc o) B t x y := h.kept (alloc_below w o) h.lt
theorem Rdr.al {w : World} {rb P : Nat} (h : Rdr w rb P) (o : Obj) : Rdr (w.alloc o) rb P := h.below (alloc_below w o)
theorem kd7_at {u : Nat} {kq : Int} (h : kd7.getD u 0 = kq) : 0 ≤ kq ∧ kq ≤ 4 := by subst h; exact kd7_rng u
theorem lit1 (W : World) (u : Nat) (kq : Int) (hu : u < 7) (h : kd7.getD u 0 = kq) : (W.alloc (.cells #[.int .i64 0, .int .i64 0, .int .i64 0, .int .i64 1, .int .i64 2, .int .i64 3, .int .i64 4] 3)).cell? ⟨W.heap.size, u, none⟩ = some (.int .i64 kq) := by
  subst h; exact lit_int W kd7 _ 3 rfl u hu
theorem lit2 (W : World) (u : Nat) (kq : Int) (hu : u < 7) (h : kd7.getD u 0 = kq) : ((W.alloc (.cells #[.int .i64 0, .int .i64 0] 39)).alloc (.cells #[.int .i64 0, .int .i64 0, .int .i64 0, .int .i64 1, .int .i64 2, .int .i64 3, .int .i64 4] 3)).cell? ⟨W.heap.size + 1, u, none⟩ = some (.int .i64 kq) := by
  have := lit1 (W.alloc (.cells #[.int .i64 0, .int .i64 0] 39)) u kq hu h
  rwa [alloc_size] at this
theorem lit3 (W : World) (u : Nat) (kq : Int) (hu : u < 7) (h : kd7.getD u 0 = kq) : ((W.alloc (.cells #[.int .i64 0, .int .i64 0, .int .i64 0, .int .i64 1, .int .i64 2, .int .i64 3, .int .i64 4] 3)).alloc (.cells #[.int .i64 0, .int .i64 0] 39)).cell? ⟨W.heap.size, u, none⟩ = some (.int .i64 kq) :=
  cell_al _ (lit1 W u kq hu h)
theorem newa1 (W : World) : Blk2 (W.alloc (.cells #[.int .i64 0, .int .i64 0] 39)) W.heap.size 39 (.int .i64 0) (.int .i64 0) := Blk2.new W _ _ _
theorem newa2 (W : World) : Blk2 ((W.alloc (.cells #[.int .i64 0, .int .i64 0, .int .i64 0, .int .i64 1, .int .i64 2, .int .i64 3, .int .i64 4] 3)).alloc (.cells #[.int .i64 0, .int .i64 0] 39)) (W.heap.size + 1) 39 (.int .i64 0) (.int .i64 0) := by
  have := Blk2.new (W.alloc (.cells #[.int .i64 0, .int .i64 0, .int .i64 0, .int .i64 1, .int .i64 2, .int .i64 3, .int .i64 4] 3)) 39 (.int .i64 0) (.int .i64 0)
  rwa [alloc_size] at this
theorem newa3 (W : World) : Blk2 ((W.alloc (.cells #[.int .i64 0, .int .i64 0] 39)).alloc (.cells #[.int .i64 0, .int .i64 0, .int .i64 0, .int .i64 1, .int .i64 2, .int .i64 3, .int .i64 4] 3)) W.heap.size 39 (.int .i64 0) (.int .i64 0) := (newa1 W).al _

theorem div59 (v : Nat) (hv : v < 60) : ∃ q : Int, (v : Int).tdiv 59 = q ∧ 0 ≤ q ∧ q ≤ 1 := ⟨_, rfl, by rw [Int.tdiv_eq_ediv_of_nonneg (by omega)]; omega, by rw [Int.tdiv_eq_ediv_of_nonneg (by omega)]; omega⟩

theorem lt_alloc (w : World) (o : Obj) : w.heap.size < (w.alloc o).heap.size := by rw [alloc_size]; omega

theorem wrap_room {kq q : Int} (h : 0 ≤ kq ∧ kq ≤ 4) (h0 : 0 ≤ q) (h1 : q ≤ 1) : -9223372036854775808 ≤ kq + q * 5 ∧ kq + q * 5 ≤ 9223372036854775807 := by omega

theorem k_room {kq q : Int} (h : 0 ≤ kq ∧ kq ≤ 4) (h0 : 0 ≤ q) (h1 : q ≤ 1) : 0 ≤ kq + q * 5 ∧ kq + q * 5 ≤ 9 := by omega

/-- the state behind the making of a deed -/
def DeedM (rb P : Nat) (w1 : World) (s : Value) (wx : World) : Prop :=
  ∃ (k : Int) (B : Nat), s = .pointer (some ⟨B, 0, none⟩) ∧ w1.heap.size ≤ B ∧ 0 ≤ k ∧ k ≤ 9 ∧ Blk2 wx B 39 (.int .i64 k) (.int .i64 0) ∧ Only rb w1 wx ∧ Rdr wx rb (P + 2)

/-- the state behind the choice of a deed's set -/
def DeedN (rb P : Nat) (w1 : World) (B : Nat) (k : Int) (wx : World) : Prop :=
  ∃ x : Int, I64 x ∧ Blk2 wx B 39 (.int .i64 k) (.int .i64 x) ∧ Only rb w1 wx ∧ Rdr wx rb P
theorem deedN_set {W w1 : World} {rb P B : Nat} {k x0 : Int} (x : Int) (ho : Only rb w1 W) (hr : Rdr W rb P) (hb : Blk2 W B 39 (.int .i64 k) (.int .i64 x0)) (hrb : rb < w1.heap.size) (hB : w1.heap.size ≤ B) (hx : I64 x) :
    DeedN rb P w1 B k (W.setCell ⟨B, 1, none⟩ (.int .i64 x)) :=
  ⟨x, hx, hb.set1 _, ho.fresh hB 1 _, hr.belowB ((Below.refl w1.heap.size W).setCell hB _) hrb⟩

theorem lit3_I64 (u : Nat) {y : Int} (h : ([-1, 16, 1] : List Int).getD u 0 = y) : I64 y := by
  subst h
  by_cases hu : u < 3
  · have : u = 0 ∨ u = 1 ∨ u = 2 := by omega
    rcases this with rfl | rfl | rfl <;> (simp; unfold I64; omega)
  · rw [List.getD_eq_getElem?_getD, List.getElem?_eq_none (show ([-1, 16, 1] : List Int).length ≤ u by show 3 ≤ u; omega)]; simp; unfold I64; omega
theorem deedR_end {w w1 W : World} {rb P : Nat} {k x : Int} (h0 : Only rb w w1) (h1 : Only rb w1 W) (hr : Rdr W rb (P + 10)) (hrb : rb < w.heap.size) (hk : 0 ≤ k) (hk9 : k ≤ 9) (hx : I64 x) :
    DeedDrawn rb P w (.returned (.agg #[.int .i64 k, .int .i64 x])) ((W.setCell ⟨w.heap.size, 0, none⟩ (.int .i64 k)).setCell ⟨w.heap.size, 1, none⟩ (.int .i64 x)) :=
  ⟨k, x, rfl, hk, hk9, hx, ((h0.trans h1).fresh (Nat.le_refl _) 0 _).fresh (Nat.le_refl _) 1 _,
    hr.belowB (((Below.refl w.heap.size W).setCell (Nat.le_refl _) _).setCell (Nat.le_refl _) _) hrb⟩

theorem fin_set {W w1 : World} {rb P B : Nat} {k : Int} (ho : Only rb w1 W) (hr : Rdr W rb (P + 1 + 1)) (hk : 0 ≤ k ∧ k ≤ 9) (hb : Blk2 W B 39 (.int .i64 0) (.int .i64 0)) (hrb : rb < w1.heap.size) (hB : w1.heap.size ≤ B) :
    DeedM rb P w1 (.pointer (some ⟨B, 0, none⟩)) ((W.setCell ⟨B, 0, none⟩ (.int .i64 k)).setCell ⟨B, 1, none⟩ (.int .i64 0)) :=
  ⟨k, B, rfl, hB, hk.1, hk.2, (hb.set0 _).set1 _, (ho.fresh hB 0 _).fresh hB 1 _,
    (hr.belowB (((Below.refl w1.heap.size W).setCell hB _).setCell hB _) hrb).mono (by omega)⟩
theorem fin_new {W w1 : World} {rb P : Nat} {k : Int} (ho : Only rb w1 W) (hr : Rdr W rb (P + 1 + 1)) (hk : 0 ≤ k ∧ k ≤ 9) :
    DeedM rb P w1 (.pointer (some ⟨W.heap.size, 0, none⟩)) (W.alloc (.cells #[.int .i64 k, .int .i64 0] 39)) :=
  ⟨k, _, rfl, ho.size, hk.1, hk.2, Blk2.new W _ _ _, ho.alloc _, (hr.al _).mono (by omega)⟩
theorem fin_new2 {W w1 : World} {rb P : Nat} {k : Int} (o : Obj) (ho : Only rb w1 W) (hr : Rdr W rb (P + 1 + 1)) (hk : 0 ≤ k ∧ k ≤ 9) :
    DeedM rb P w1 (.pointer (some ⟨W.heap.size + 1, 0, none⟩)) ((W.alloc o).alloc (.cells #[.int .i64 k, .int .i64 0] 39)) := by
  have := fin_new (ho.alloc o) (hr.al o) hk
  rwa [alloc_size] at this
theorem fin_al {W w1 : World} {rb P : Nat} {s : Value} (o : Obj) (h : DeedM rb P w1 s W) : DeedM rb P w1 s (W.alloc o) := by
  obtain ⟨k, B, rfl, h1, h2, h3, h4, h5, h6⟩ := h
  exact ⟨k, B, rfl, h1, h2, h3, h4.al o, h5.alloc o, h6.al o⟩

set_option maxRecDepth 100000 in
set_option maxHeartbeats 6400000 in
theorem deedR_any (rb P : Nat) (a : Option Addr) (m cap : Nat) (hP : P ≤ 100000) (w : World) (h : Rdr w rb P) (hl : LstR w rb a m) :
    Calls Tryz.prog 109 #[.pointer (some ⟨rb, 0, none⟩), .slice a m cap] w (DeedDrawn rb P w) := by
  have hrb : rb < w.heap.size := h.1
  have hal := alloc_below w (.cells #[.int .i64 0, .int .i64 0] 39)
  have HR := Lib.hid (h.below hal)
  have HL := Lib.hid (hl.only (Only.of_below hal))
  have HO0 := Lib.hid (Only.of_below (rb := rb) hal)
  have hsz := alloc_size w (.cells #[.int .i64 0, .int .i64 0] 39)
  have hbl := Blk2.new w 39 (.int .i64 0) (.int .i64 0)
  have HM := Lib.hid hl.1
  clear h hl hal
  go_enter Tryz.func109, Tryz.ntmps109
  go_wp2_with fail
  obtain ⟨w1, hw1⟩ : ∃ w1, w.alloc (.cells #[.int .i64 0, .int .i64 0] 39) = w1 := ⟨_, rfl⟩
  rw [hw1] at HR HL HO0 hsz hbl ⊢
  clear hw1
  have hrb1 : rb < w1.heap.size := HR.out.1
  have HBL := Lib.hid hbl
  have HSZ := Lib.hid hsz
  clear hbl hsz
  go_cut [5] (fun s wx => DeedM rb P w1 s wx)
  case first =>
    have hrb1 : rb < w1.heap.size := HR.out.1
    have HPo := Lib.hid (show Rdr (World.drew w1) rb P from Rdr.drx HR.out)
    have HQo := Lib.hid (show Only rb w1 (World.drew w1) from (Only.refl rb w1).trans (only_drx _ _))
    have HPb := Lib.hid (show Rdr (World.drew (w1.alloc (.cells #[.int .i64 0, .int .i64 0, .int .i64 0, .int .i64 1, .int .i64 2, .int .i64 3, .int .i64 4] 3))) rb P from Rdr.drx (HR.out.al _))
    have HQb := Lib.hid (show Only rb w1 (World.drew (w1.alloc (.cells #[.int .i64 0, .int .i64 0, .int .i64 0, .int .i64 1, .int .i64 2, .int .i64 3, .int .i64 4] 3))) from ((Only.refl rb w1).alloc (.cells #[.int .i64 0, .int .i64 0, .int .i64 0, .int .i64 1, .int .i64 2, .int .i64 3, .int .i64 4] 3)).trans (only_drx _ _))
    have HPa := Lib.hid (show Rdr (World.drew (w1.alloc (.cells #[.int .i64 0, .int .i64 0] 39))) rb P from Rdr.drx (HR.out.al _))
    have HQa := Lib.hid (show Only rb w1 (World.drew (w1.alloc (.cells #[.int .i64 0, .int .i64 0] 39))) from ((Only.refl rb w1).alloc (.cells #[.int .i64 0, .int .i64 0] 39)).trans (only_drx _ _))
    have HPba := Lib.hid (show Rdr (World.drew ((w1.alloc (.cells #[.int .i64 0, .int .i64 0, .int .i64 0, .int .i64 1, .int .i64 2, .int .i64 3, .int .i64 4] 3)).alloc (.cells #[.int .i64 0, .int .i64 0] 39))) rb P from Rdr.drx ((HR.out.al _).al _))
    have HQba := Lib.hid (show Only rb w1 (World.drew ((w1.alloc (.cells #[.int .i64 0, .int .i64 0, .int .i64 0, .int .i64 1, .int .i64 2, .int .i64 3, .int .i64 4] 3)).alloc (.cells #[.int .i64 0, .int .i64 0] 39))) from (((Only.refl rb w1).alloc (.cells #[.int .i64 0, .int .i64 0, .int .i64 0, .int .i64 1, .int .i64 2, .int .i64 3, .int .i64 4] 3)).alloc (.cells #[.int .i64 0, .int .i64 0] 39)).trans (only_drx _ _))
    have HPab := Lib.hid (show Rdr (World.drew ((w1.alloc (.cells #[.int .i64 0, .int .i64 0] 39)).alloc (.cells #[.int .i64 0, .int .i64 0, .int .i64 0, .int .i64 1, .int .i64 2, .int .i64 3, .int .i64 4] 3))) rb P from Rdr.drx ((HR.out.al _).al _))
    have HQab := Lib.hid (show Only rb w1 (World.drew ((w1.alloc (.cells #[.int .i64 0, .int .i64 0] 39)).alloc (.cells #[.int .i64 0, .int .i64 0, .int .i64 0, .int .i64 1, .int .i64 2, .int .i64 3, .int .i64 4] 3))) from (((Only.refl rb w1).alloc (.cells #[.int .i64 0, .int .i64 0] 39)).alloc (.cells #[.int .i64 0, .int .i64 0, .int .i64 0, .int .i64 1, .int .i64 2, .int .i64 3, .int .i64 4] 3)).trans (only_drx _ _))
    go_region_with (first | (go_at_call 42; go_fit (pick_any rb _ 60 (by omega) _ HR5o.out); rintro e w6 ⟨v, rfl, hv, ho, hr⟩; have HO6 := Lib.hid (HO5.out.trans ho); have HR6 := Lib.hid hr; obtain ⟨q, hq, hq0, hq1⟩ := div59 v (by omega); have hw0 : IntKind.i64.wrap q = q := (IntWalk.i64_in _ (by omega)); have hw1 : IntKind.i64.wrap (q * 5) = q * 5 := (IntWalk.i64_in _ (by omega)); have hw2 : IntKind.i64.wrap (kq + q * 5) = kq + q * 5 := (IntWalk.i64_in _ (wrap_room HKQ.out hq0 hq1)); have HK := Lib.hid (k_room HKQ.out hq0 hq1); obtain ⟨k, hk⟩ : ∃ k, kq + q * 5 = k := ⟨_, rfl⟩; rw [hk] at hw2 HK; clear hq0 hq1; clear hl1 hl2 hl3; have hl1 := lit1 w6 u kq hu4 HKU.out; have hl2 := lit3 w6 u kq hu4 HKU.out; have hl3 := lit2 w6 u kq hu4 HKU.out; clear ho hr hv) | (go_at_call 42; go_fit (pick_any rb _ 60 (by omega) _ (HR5o.out.al (.cells #[.int .i64 0, .int .i64 0, .int .i64 0, .int .i64 1, .int .i64 2, .int .i64 3, .int .i64 4] 3))); rintro e w6 ⟨v, rfl, hv, ho, hr⟩; have HO6 := Lib.hid ((HO5.out.alloc (.cells #[.int .i64 0, .int .i64 0, .int .i64 0, .int .i64 1, .int .i64 2, .int .i64 3, .int .i64 4] 3)).trans ho); have HR6 := Lib.hid hr; obtain ⟨q, hq, hq0, hq1⟩ := div59 v (by omega); have hw0 : IntKind.i64.wrap q = q := (IntWalk.i64_in _ (by omega)); have hw1 : IntKind.i64.wrap (q * 5) = q * 5 := (IntWalk.i64_in _ (by omega)); have hw2 : IntKind.i64.wrap (kq + q * 5) = kq + q * 5 := (IntWalk.i64_in _ (wrap_room HKQ.out hq0 hq1)); have HK := Lib.hid (k_room HKQ.out hq0 hq1); obtain ⟨k, hk⟩ : ∃ k, kq + q * 5 = k := ⟨_, rfl⟩; rw [hk] at hw2 HK; clear hq0 hq1; have HC6 := Lib.hid (cell_only ho (lit1 w5 u kq hu4 HKU.out) (Nat.ne_of_gt hrb5)); clear hl1 hl2 hl3; have hl1 := HC6.out; have hl2 := cell_al (.cells #[.int .i64 0, .int .i64 0] 39) hl1; clear ho hr hv) | (go_at_call 42; go_fit (pick_any rb _ 60 (by omega) _ (HR5o.out.al (.cells #[.int .i64 0, .int .i64 0] 39))); rintro e w6 ⟨v, rfl, hv, ho, hr⟩; have HO6 := Lib.hid ((HO5.out.alloc (.cells #[.int .i64 0, .int .i64 0] 39)).trans ho); have HR6 := Lib.hid hr; obtain ⟨q, hq, hq0, hq1⟩ := div59 v (by omega); have hw0 : IntKind.i64.wrap q = q := (IntWalk.i64_in _ (by omega)); have hw1 : IntKind.i64.wrap (q * 5) = q * 5 := (IntWalk.i64_in _ (by omega)); have hw2 : IntKind.i64.wrap (kq + q * 5) = kq + q * 5 := (IntWalk.i64_in _ (wrap_room HKQ.out hq0 hq1)); have HK := Lib.hid (k_room HKQ.out hq0 hq1); obtain ⟨k, hk⟩ : ∃ k, kq + q * 5 = k := ⟨_, rfl⟩; rw [hk] at hw2 HK; clear hq0 hq1; have HB6 := Lib.hid (Blk2.only (newa1 w5) ho (Nat.ne_of_gt hrb5)); clear hl1 hl2 hl3; have hl1 := lit1 w6 u kq hu4 HKU.out; have hB0 := HB6.out.cell.1; have hB1 := HB6.out.cell.2; have hf0 := HB6.out.frozen 0; have hf1 := HB6.out.frozen 1; have HB7 := Lib.hid (Blk2.al HB6.out (.cells #[.int .i64 0, .int .i64 0, .int .i64 0, .int .i64 1, .int .i64 2, .int .i64 3, .int .i64 4] 3)); have hB2 := HB7.out.cell.1; have hB3 := HB7.out.cell.2; have hf2 := HB7.out.frozen 0; have hf3 := HB7.out.frozen 1; clear ho hr hv) | (go_at_call 42; go_fit (pick_any rb _ 60 (by omega) _ ((HR5o.out.al (.cells #[.int .i64 0, .int .i64 0, .int .i64 0, .int .i64 1, .int .i64 2, .int .i64 3, .int .i64 4] 3)).al (.cells #[.int .i64 0, .int .i64 0] 39))); rintro e w6 ⟨v, rfl, hv, ho, hr⟩; have HO6 := Lib.hid (((HO5.out.alloc (.cells #[.int .i64 0, .int .i64 0, .int .i64 0, .int .i64 1, .int .i64 2, .int .i64 3, .int .i64 4] 3)).alloc (.cells #[.int .i64 0, .int .i64 0] 39)).trans ho); have HR6 := Lib.hid hr; obtain ⟨q, hq, hq0, hq1⟩ := div59 v (by omega); have hw0 : IntKind.i64.wrap q = q := (IntWalk.i64_in _ (by omega)); have hw1 : IntKind.i64.wrap (q * 5) = q * 5 := (IntWalk.i64_in _ (by omega)); have hw2 : IntKind.i64.wrap (kq + q * 5) = kq + q * 5 := (IntWalk.i64_in _ (wrap_room HKQ.out hq0 hq1)); have HK := Lib.hid (k_room HKQ.out hq0 hq1); obtain ⟨k, hk⟩ : ∃ k, kq + q * 5 = k := ⟨_, rfl⟩; rw [hk] at hw2 HK; clear hq0 hq1; have HC6 := Lib.hid (cell_only ho (lit3 w5 u kq hu4 HKU.out) (Nat.ne_of_gt hrb5)); have HB6 := Lib.hid (Blk2.only (newa2 w5) ho (Nat.ne_of_gt (Nat.lt_succ_of_lt hrb5))); clear hl1 hl2 hl3; have hl1 := HC6.out; have hB0 := HB6.out.cell.1; have hB1 := HB6.out.cell.2; have hf0 := HB6.out.frozen 0; have hf1 := HB6.out.frozen 1; clear ho hr hv) | (go_at_call 42; go_fit (pick_any rb _ 60 (by omega) _ ((HR5o.out.al (.cells #[.int .i64 0, .int .i64 0] 39)).al (.cells #[.int .i64 0, .int .i64 0, .int .i64 0, .int .i64 1, .int .i64 2, .int .i64 3, .int .i64 4] 3))); rintro e w6 ⟨v, rfl, hv, ho, hr⟩; have HO6 := Lib.hid (((HO5.out.alloc (.cells #[.int .i64 0, .int .i64 0] 39)).alloc (.cells #[.int .i64 0, .int .i64 0, .int .i64 0, .int .i64 1, .int .i64 2, .int .i64 3, .int .i64 4] 3)).trans ho); have HR6 := Lib.hid hr; obtain ⟨q, hq, hq0, hq1⟩ := div59 v (by omega); have hw0 : IntKind.i64.wrap q = q := (IntWalk.i64_in _ (by omega)); have hw1 : IntKind.i64.wrap (q * 5) = q * 5 := (IntWalk.i64_in _ (by omega)); have hw2 : IntKind.i64.wrap (kq + q * 5) = kq + q * 5 := (IntWalk.i64_in _ (wrap_room HKQ.out hq0 hq1)); have HK := Lib.hid (k_room HKQ.out hq0 hq1); obtain ⟨k, hk⟩ : ∃ k, kq + q * 5 = k := ⟨_, rfl⟩; rw [hk] at hw2 HK; clear hq0 hq1; have HC6 := Lib.hid (cell_only ho (lit2 w5 u kq hu4 HKU.out) (Nat.ne_of_gt (Nat.lt_succ_of_lt hrb5))); have HB6 := Lib.hid (Blk2.only (newa3 w5) ho (Nat.ne_of_gt hrb5)); clear hl1 hl2 hl3; have hl1 := HC6.out; have hB0 := HB6.out.cell.1; have hB1 := HB6.out.cell.2; have hf0 := HB6.out.frozen 0; have hf1 := HB6.out.frozen 1; clear ho hr hv) | (go_at_call 42; go_fit (pick_any rb _ 60 (by omega) _ HR5b.out); rintro e w6 ⟨v, rfl, hv, ho, hr⟩; have HO6 := Lib.hid (HO5.out.trans ho); have HR6 := Lib.hid hr; obtain ⟨q, hq, hq0, hq1⟩ := div59 v (by omega); have hw0 : IntKind.i64.wrap q = q := (IntWalk.i64_in _ (by omega)); have hw1 : IntKind.i64.wrap (q * 5) = q * 5 := (IntWalk.i64_in _ (by omega)); have hw2 : IntKind.i64.wrap (kq + q * 5) = kq + q * 5 := (IntWalk.i64_in _ (wrap_room HKQ.out hq0 hq1)); have HK := Lib.hid (k_room HKQ.out hq0 hq1); obtain ⟨k, hk⟩ : ∃ k, kq + q * 5 = k := ⟨_, rfl⟩; rw [hk] at hw2 HK; clear hq0 hq1; have HC6 := Lib.hid (cell_only ho HC5.out (Nat.ne_of_gt hrb1)); clear hl1 hl2; have hl1 := HC6.out; have hl2 := cell_al (.cells #[.int .i64 0, .int .i64 0] 39) hl1; clear ho hr hv) | (go_at_call 42; go_fit (pick_any rb _ 60 (by omega) _ (HR5b.out.al (.cells #[.int .i64 0, .int .i64 0] 39))); rintro e w6 ⟨v, rfl, hv, ho, hr⟩; have HO6 := Lib.hid ((HO5.out.alloc (.cells #[.int .i64 0, .int .i64 0] 39)).trans ho); have HR6 := Lib.hid hr; obtain ⟨q, hq, hq0, hq1⟩ := div59 v (by omega); have hw0 : IntKind.i64.wrap q = q := (IntWalk.i64_in _ (by omega)); have hw1 : IntKind.i64.wrap (q * 5) = q * 5 := (IntWalk.i64_in _ (by omega)); have hw2 : IntKind.i64.wrap (kq + q * 5) = kq + q * 5 := (IntWalk.i64_in _ (wrap_room HKQ.out hq0 hq1)); have HK := Lib.hid (k_room HKQ.out hq0 hq1); obtain ⟨k, hk⟩ : ∃ k, kq + q * 5 = k := ⟨_, rfl⟩; rw [hk] at hw2 HK; clear hq0 hq1; have HC6 := Lib.hid (cell_only ho (cell_al (.cells #[.int .i64 0, .int .i64 0] 39) HC5.out) (Nat.ne_of_gt hrb1)); have HB6 := Lib.hid (Blk2.only (newa1 w5) ho (Nat.ne_of_gt hrb5)); clear hl1 hl2; have hl1 := HC6.out; have hB0 := HB6.out.cell.1; have hB1 := HB6.out.cell.2; have hf0 := HB6.out.frozen 0; have hf1 := HB6.out.frozen 1; clear ho hr hv) | (go_at_call 42; go_fit (pick_any rb _ 60 (by omega) _ HR5a.out); rintro e w6 ⟨v, rfl, hv, ho, hr⟩; have HO6 := Lib.hid (HO5.out.trans ho); have HR6 := Lib.hid hr; obtain ⟨q, hq, hq0, hq1⟩ := div59 v (by omega); have hw0 : IntKind.i64.wrap q = q := (IntWalk.i64_in _ (by omega)); have hw1 : IntKind.i64.wrap (q * 5) = q * 5 := (IntWalk.i64_in _ (by omega)); have hw2 : IntKind.i64.wrap (kq + q * 5) = kq + q * 5 := (IntWalk.i64_in _ (wrap_room HKQ.out hq0 hq1)); have HK := Lib.hid (k_room HKQ.out hq0 hq1); obtain ⟨k, hk⟩ : ∃ k, kq + q * 5 = k := ⟨_, rfl⟩; rw [hk] at hw2 HK; clear hq0 hq1; have HB6 := Lib.hid (Blk2.only HB5.out ho (Nat.ne_of_gt hrb1)); clear hl1; have hl1 := lit1 w6 u kq hu4 HKU.out; have hB0 := HB6.out.cell.1; have hB1 := HB6.out.cell.2; have hf0 := HB6.out.frozen 0; have hf1 := HB6.out.frozen 1; have HB7 := Lib.hid (Blk2.al HB6.out (.cells #[.int .i64 0, .int .i64 0, .int .i64 0, .int .i64 1, .int .i64 2, .int .i64 3, .int .i64 4] 3)); have hB2 := HB7.out.cell.1; have hB3 := HB7.out.cell.2; have hf2 := HB7.out.frozen 0; have hf3 := HB7.out.frozen 1; clear ho hr hv) | (go_at_call 42; go_fit (pick_any rb _ 60 (by omega) _ (HR5a.out.al (.cells #[.int .i64 0, .int .i64 0, .int .i64 0, .int .i64 1, .int .i64 2, .int .i64 3, .int .i64 4] 3))); rintro e w6 ⟨v, rfl, hv, ho, hr⟩; have HO6 := Lib.hid ((HO5.out.alloc (.cells #[.int .i64 0, .int .i64 0, .int .i64 0, .int .i64 1, .int .i64 2, .int .i64 3, .int .i64 4] 3)).trans ho); have HR6 := Lib.hid hr; obtain ⟨q, hq, hq0, hq1⟩ := div59 v (by omega); have hw0 : IntKind.i64.wrap q = q := (IntWalk.i64_in _ (by omega)); have hw1 : IntKind.i64.wrap (q * 5) = q * 5 := (IntWalk.i64_in _ (by omega)); have hw2 : IntKind.i64.wrap (kq + q * 5) = kq + q * 5 := (IntWalk.i64_in _ (wrap_room HKQ.out hq0 hq1)); have HK := Lib.hid (k_room HKQ.out hq0 hq1); obtain ⟨k, hk⟩ : ∃ k, kq + q * 5 = k := ⟨_, rfl⟩; rw [hk] at hw2 HK; clear hq0 hq1; have HC6 := Lib.hid (cell_only ho (lit1 w5 u kq hu4 HKU.out) (Nat.ne_of_gt hrb5)); have HB6 := Lib.hid (Blk2.only (Blk2.al HB5.out (.cells #[.int .i64 0, .int .i64 0, .int .i64 0, .int .i64 1, .int .i64 2, .int .i64 3, .int .i64 4] 3)) ho (Nat.ne_of_gt hrb1)); clear hl1; have hl1 := HC6.out; have hB0 := HB6.out.cell.1; have hB1 := HB6.out.cell.2; have hf0 := HB6.out.frozen 0; have hf1 := HB6.out.frozen 1; clear ho hr hv) | (go_at_call 42; go_fit (pick_any rb _ 60 (by omega) _ HR5ba.out); rintro e w6 ⟨v, rfl, hv, ho, hr⟩; have HO6 := Lib.hid (HO5.out.trans ho); have HR6 := Lib.hid hr; obtain ⟨q, hq, hq0, hq1⟩ := div59 v (by omega); have hw0 : IntKind.i64.wrap q = q := (IntWalk.i64_in _ (by omega)); have hw1 : IntKind.i64.wrap (q * 5) = q * 5 := (IntWalk.i64_in _ (by omega)); have hw2 : IntKind.i64.wrap (kq + q * 5) = kq + q * 5 := (IntWalk.i64_in _ (wrap_room HKQ.out hq0 hq1)); have HK := Lib.hid (k_room HKQ.out hq0 hq1); obtain ⟨k, hk⟩ : ∃ k, kq + q * 5 = k := ⟨_, rfl⟩; rw [hk] at hw2 HK; clear hq0 hq1; have HC6 := Lib.hid (cell_only ho HC5.out (Nat.ne_of_gt hrb1)); have HB6 := Lib.hid (Blk2.only HB5.out ho (Nat.ne_of_gt (Nat.lt_succ_of_lt hrb1))); clear hl1; have hl1 := HC6.out; have hB0 := HB6.out.cell.1; have hB1 := HB6.out.cell.2; have hf0 := HB6.out.frozen 0; have hf1 := HB6.out.frozen 1; clear ho hr hv) | (go_at_call 42; go_fit (pick_any rb _ 60 (by omega) _ HR5ab.out); rintro e w6 ⟨v, rfl, hv, ho, hr⟩; have HO6 := Lib.hid (HO5.out.trans ho); have HR6 := Lib.hid hr; obtain ⟨q, hq, hq0, hq1⟩ := div59 v (by omega); have hw0 : IntKind.i64.wrap q = q := (IntWalk.i64_in _ (by omega)); have hw1 : IntKind.i64.wrap (q * 5) = q * 5 := (IntWalk.i64_in _ (by omega)); have hw2 : IntKind.i64.wrap (kq + q * 5) = kq + q * 5 := (IntWalk.i64_in _ (wrap_room HKQ.out hq0 hq1)); have HK := Lib.hid (k_room HKQ.out hq0 hq1); obtain ⟨k, hk⟩ : ∃ k, kq + q * 5 = k := ⟨_, rfl⟩; rw [hk] at hw2 HK; clear hq0 hq1; have HC6 := Lib.hid (cell_only ho HC5.out (Nat.ne_of_gt (Nat.lt_succ_of_lt hrb1))); have HB6 := Lib.hid (Blk2.only HB5.out ho (Nat.ne_of_gt hrb1)); clear hl1; have hl1 := HC6.out; have hB0 := HB6.out.cell.1; have hB1 := HB6.out.cell.2; have hf0 := HB6.out.frozen 0; have hf1 := HB6.out.frozen 1; clear ho hr hv) | (go_at_call 42; go_fit (pick_any rb _ 7 (by omega) _ HPo.out); rintro e w5 ⟨u, rfl, hu, ho, hr⟩; have hu4 : u < 7 := (by omega); have hui : (u : Int) < 7 := (by omega); have hui0 : (0 : Int) ≤ (u : Int) := (by omega); obtain ⟨kq, hkq⟩ : ∃ kq, kd7.getD u 0 = kq := ⟨_, rfl⟩; have HKU := Lib.hid hkq; have HKQ := Lib.hid (kd7_at hkq); clear hkq; have HO5 := Lib.hid (HQo.out.trans ho); have HR5o := Lib.hid hr; have hrb5 : rb < w5.heap.size := hr.1; have hz5 : w1.heap.size ≤ w5.heap.size := HO5.out.size; have hl1 := lit1 w5 u kq hu4 HKU.out; have hl2 := lit3 w5 u kq hu4 HKU.out; have hl3 := lit2 w5 u kq hu4 HKU.out; clear hu ho hr) | (go_at_call 42; go_fit (pick_any rb _ 7 (by omega) _ HPb.out); rintro e w5 ⟨u, rfl, hu, ho, hr⟩; have hu4 : u < 7 := (by omega); have hui : (u : Int) < 7 := (by omega); have hui0 : (0 : Int) ≤ (u : Int) := (by omega); obtain ⟨kq, hkq⟩ : ∃ kq, kd7.getD u 0 = kq := ⟨_, rfl⟩; have HKU := Lib.hid hkq; have HKQ := Lib.hid (kd7_at hkq); clear hkq; have HO5 := Lib.hid (HQb.out.trans ho); have HR5b := Lib.hid hr; have hrb5 : rb < w5.heap.size := hr.1; have hz5 : w1.heap.size ≤ w5.heap.size := HO5.out.size; have HC5 := Lib.hid (cell_only ho (cell_dr (lit1 w1 u kq hu4 HKU.out)) (Nat.ne_of_gt hrb1)); have hl1 := HC5.out; have hl2 := cell_al (.cells #[.int .i64 0, .int .i64 0] 39) hl1; clear hu ho hr) | (go_at_call 42; go_fit (pick_any rb _ 7 (by omega) _ HPa.out); rintro e w5 ⟨u, rfl, hu, ho, hr⟩; have hu4 : u < 7 := (by omega); have hui : (u : Int) < 7 := (by omega); have hui0 : (0 : Int) ≤ (u : Int) := (by omega); obtain ⟨kq, hkq⟩ : ∃ kq, kd7.getD u 0 = kq := ⟨_, rfl⟩; have HKU := Lib.hid hkq; have HKQ := Lib.hid (kd7_at hkq); clear hkq; have HO5 := Lib.hid (HQa.out.trans ho); have HR5a := Lib.hid hr; have hrb5 : rb < w5.heap.size := hr.1; have hz5 : w1.heap.size ≤ w5.heap.size := HO5.out.size; have HB5 := Lib.hid (Blk2.only (Blk2.dr (newa1 w1)) ho (Nat.ne_of_gt hrb1)); have hl1 := lit1 w5 u kq hu4 HKU.out; clear hu ho hr) | (go_at_call 42; go_fit (pick_any rb _ 7 (by omega) _ HPba.out); rintro e w5 ⟨u, rfl, hu, ho, hr⟩; have hu4 : u < 7 := (by omega); have hui : (u : Int) < 7 := (by omega); have hui0 : (0 : Int) ≤ (u : Int) := (by omega); obtain ⟨kq, hkq⟩ : ∃ kq, kd7.getD u 0 = kq := ⟨_, rfl⟩; have HKU := Lib.hid hkq; have HKQ := Lib.hid (kd7_at hkq); clear hkq; have HO5 := Lib.hid (HQba.out.trans ho); have HR5ba := Lib.hid hr; have hrb5 : rb < w5.heap.size := hr.1; have hz5 : w1.heap.size ≤ w5.heap.size := HO5.out.size; have HC5 := Lib.hid (cell_only ho (cell_dr (lit3 w1 u kq hu4 HKU.out)) (Nat.ne_of_gt hrb1)); have HB5 := Lib.hid (Blk2.only (Blk2.dr (newa2 w1)) ho (Nat.ne_of_gt (Nat.lt_succ_of_lt hrb1))); have hl1 := HC5.out; clear hu ho hr) | (go_at_call 42; go_fit (pick_any rb _ 7 (by omega) _ HPab.out); rintro e w5 ⟨u, rfl, hu, ho, hr⟩; have hu4 : u < 7 := (by omega); have hui : (u : Int) < 7 := (by omega); have hui0 : (0 : Int) ≤ (u : Int) := (by omega); obtain ⟨kq, hkq⟩ : ∃ kq, kd7.getD u 0 = kq := ⟨_, rfl⟩; have HKU := Lib.hid hkq; have HKQ := Lib.hid (kd7_at hkq); clear hkq; have HO5 := Lib.hid (HQab.out.trans ho); have HR5ab := Lib.hid hr; have hrb5 : rb < w5.heap.size := hr.1; have hz5 : w1.heap.size ≤ w5.heap.size := HO5.out.size; have HC5 := Lib.hid (cell_only ho (cell_dr (lit2 w1 u kq hu4 HKU.out)) (Nat.ne_of_gt (Nat.lt_succ_of_lt hrb1))); have HB5 := Lib.hid (Blk2.only (Blk2.dr (newa3 w1)) ho (Nat.ne_of_gt hrb1)); have hl1 := HC5.out; clear hu ho hr))
    all_goals go_wp2_with fail
    all_goals go_meet
    all_goals first
      | exact fin_set HO6.out HR6.out HK.out HB6.out hrb1 (by omega)
      | exact fin_set (HO6.out.alloc _) (HR6.out.al _) HK.out HB7.out hrb1 (by omega)
      | exact fin_new HO6.out HR6.out HK.out
      | exact fin_new2 _ HO6.out HR6.out HK.out
      | exact fin_al _ (fin_new HO6.out HR6.out HK.out)
  case rest =>
    obtain ⟨k, B, rfl, hB, hk0, hk9, hbb, ho, hr⟩ := hcut
    have HBB := Lib.hid hbb; have HO := Lib.hid ho; have HR := Lib.hid hr
    have hBr : B ≠ rb := by have := HR.out.1; have := HO0.out.size; have := HSZ.out; omega
    have hcb := HBB.out.cell.1
    clear hbb ho hr
    go_upto_block 0 with fail
    go_cut [] (fun wx => DeedN rb (P + 6) w1 B k wx)
    case first =>
      have hc1 := HBB.out.cell.2
      have hf1 := HBB.out.frozen 1
      by_cases hk : k = 0
      · have hkb : (k == 0) = true := by rw [beq_iff_eq]; exact hk
        clear hk
        go_wp2_with fail
        refine (pick_any rb _ 15 (by omega) _ HR.out).mono ?_
        rintro e w5 ⟨y, rfl, hy, ho, hr⟩
        have hy15 : y < 15 := by omega
        replace HBB := Lib.hid (HBB.out.only ho hBr); replace HO := Lib.hid (HO.out.trans ho); replace HR := Lib.hid hr
        clear hcb hc1 hf1 hy ho hr
        have hc1 := HBB.out.cell.2
        have hf1 := HBB.out.frozen 1
        go_wp2_with fail
        go_meet
        exact deedN_set (1 + (y : Int)) HO.out (HR.out.mono (by omega)) HBB.out hrb1 hB (by unfold I64; omega)
      · have hkb : (k == 0) = false := by rw [beq_eq_false_iff_ne]; exact hk
        clear hk
        by_cases hk' : k = 1
        · have hkb' : (k == 1) = true := by rw [beq_iff_eq]; exact hk'
          clear hk'
          go_wp2_with fail
          refine (pick_any rb _ 15 (by omega) _ HR.out).mono ?_
          rintro e w5 ⟨y, rfl, hy, ho, hr⟩
          have hy15 : y < 15 := by omega
          replace HBB := Lib.hid (HBB.out.only ho hBr); replace HO := Lib.hid (HO.out.trans ho); replace HR := Lib.hid hr
          clear hcb hc1 hf1 hy ho hr
          have hc1 := HBB.out.cell.2
          have hf1 := HBB.out.frozen 1
          have HN := Lib.hid (deedN_set (1 + (y : Int)) HO.out (HR.out.mono (show P + 2 + 1 ≤ P + 4 by omega)) HBB.out hrb1 hB (by unfold I64; omega))
          by_cases hm : 0 < m
          · have hmi : (0 : Int) < (m : Int) := by omega
            have hmb : decide ((0 : Int) < (m : Int)) = true := decide_eq_true hmi
            have hmb2 : decide (0 < m) = true := decide_eq_true hm
            go_wp2_with fail
            obtain ⟨x0, hx0, hbb, ho0, hr0⟩ := HN.out
            have HX0 := Lib.hid hx0; have HBB0 := Lib.hid hbb; have HO0' := Lib.hid ho0; have HR0 := Lib.hid hr0
            clear hx0 hbb ho0 hr0 HN HBB HO HR hc1 hf1
            refine (pick_any rb _ _ (by have := HM.out; omega) _ HR0.out).mono ?_
            rintro e w6 ⟨z, rfl, hz, ho, hr⟩
            have hzm : z < m := by omega
            have HL6 := HL.out.only (HO0'.out.trans ho)
            rcases HL6.2 with h0 | ⟨b, f, ha, hb, hbr, hrow, h64⟩
            · omega
            · subst ha
              have hcz : w6.cell? ⟨b, z, none⟩ = some (.int .i64 (f z)) := by have := hrow z hzm; rwa [Nat.zero_add] at this
              have HBB6 := Lib.hid (HBB0.out.only ho hBr)
              have hc1 := HBB6.out.cell.2
              have hf1 := HBB6.out.frozen 1
              have HFZ := Lib.hid (h64 z hzm)
              have HO6 := Lib.hid (HO0'.out.trans ho); have HR6 := Lib.hid hr
              clear hz HL6 ho hr hrow h64
              go_wp2_with fail
              go_meet
              exact deedN_set (f z) HO6.out (HR6.out.mono (by omega)) HBB6.out hrb1 hB HFZ.out
          · have hmi : ¬ (0 : Int) < (m : Int) := by omega
            have hmb : decide ((0 : Int) < (m : Int)) = false := decide_eq_false hmi
            have hmb2 : decide (0 < m) = false := decide_eq_false hm
            go_wp2_with fail
            go_meet
            obtain ⟨x0, hx0, hbb, ho0, hr0⟩ := HN.out
            exact ⟨x0, hx0, hbb, ho0, hr0.mono (by omega)⟩
        · have hkb' : (k == 1) = false := by rw [beq_eq_false_iff_ne]; exact hk'
          clear hk'
          go_wp2_with fail
          go_meet
          exact ⟨0, by unfold I64; omega, HBB.out, HO.out, HR.out.mono (by omega)⟩
    case rest =>
      obtain ⟨x, hx, hbb, ho, hr⟩ := hcut
      clear hcb HBB HO HR
      have HBB := Lib.hid hbb; have HO := Lib.hid ho; have HR := Lib.hid hr
      clear hbb ho hr
      go_wp2_with fail
      refine (odd_any rb _ 40 (by omega) (by omega) (by omega) _ HR.out).mono ?_
      rintro e w5 ⟨b, rfl, ho, hr⟩
      have HB5 := Lib.hid (HBB.out.only ho hBr)
      have HO5 := Lib.hid (HO.out.trans ho); have HR5 := Lib.hid hr
      have hrne : w.heap.size ≠ rb := by omega
      have HW := Lib.hid (show w.heap.size < w1.heap.size by have := HSZ.out; omega)
      clear HBB HO HR ho hr
      cases b with
      | false =>
        have HRS := Lib.hid (HBL.out.only HO5.out hrne)
        have hr0 := HRS.out.cell.1; have hr1 := HRS.out.cell.2; have hg0 := HRS.out.frozen 0; have hg1 := HRS.out.frozen 1
        have hc0 := HB5.out.cell.1; have hc1 := HB5.out.cell.2
        go_wp2_with fail
        refine bodyPost_ret (results_deed1 rfl _ _ w.heap.size ((HRS.out.set0 (.int .i64 k)).set1 (.int .i64 x)) rfl (by kernel_rfl)) rfl ?_
        exact deedR_end HO0.out HO5.out (HR5.out.mono (by omega)) hrb hk0 hk9 hx
      | true =>
        have HAL := Lib.hid (lit_int w5 [-1, 16, 1] #[.int .i64 (-1), .int .i64 16, .int .i64 1] 3 rfl)
        have hrb5 : rb < w5.heap.size := HR5.out.1
        have HR6 := Lib.hid (HR5.out.al (.cells #[.int .i64 (-1), .int .i64 16, .int .i64 1] 3))
        have HO6 := Lib.hid (HO5.out.alloc (.cells #[.int .i64 (-1), .int .i64 16, .int .i64 1] 3))
        have HB6 := Lib.hid (HB5.out.al (.cells #[.int .i64 (-1), .int .i64 16, .int .i64 1] 3))
        clear HR5 HO5 HB5
        go_wp2_with fail
        refine (pick_any rb _ 3 (by omega) _ HR6.out).mono ?_
        rintro e w6 ⟨u, rfl, hu, ho, hr⟩
        have hu3 : u < 3 := by omega
        have hcu := cell_only ho (HAL.out u hu3) (Nat.ne_of_gt hrb5)
        obtain ⟨y, hy⟩ : ∃ y, ([-1, 16, 1] : List Int).getD u 0 = y := ⟨_, rfl⟩
        have HY := Lib.hid (lit3_I64 u hy)
        rw [hy] at hcu
        have HB7 := Lib.hid (HB6.out.only ho hBr)
        have HO7 := Lib.hid (HO6.out.trans ho); have HR7 := Lib.hid hr
        clear hy ho hr hu HAL HB6 HO6 HR6
        have HRS := Lib.hid ((HBL.out.only HO7.out hrne).other (show w.heap.size ≠ B by have := HW.out; omega) 1 (.int .i64 y))
        have hr0 := HRS.out.cell.1; have hr1 := HRS.out.cell.2; have hg0 := HRS.out.frozen 0; have hg1 := HRS.out.frozen 1
        have hc0 := HB7.out.cell.1; have hc1 := HB7.out.cell.2; have hf1 := HB7.out.frozen 1
        have HB8 := Lib.hid (HB7.out.set1 (.int .i64 y))
        have hd0 := HB8.out.cell.1; have hd1 := HB8.out.cell.2
        have HO8 := Lib.hid (HO7.out.fresh hB 1 (.int .i64 y))
        have HR8 := Lib.hid (HR7.out.belowB ((Below.refl w1.heap.size w6).setCell hB (.int .i64 y) (p := ⟨B, 1, none⟩)) hrb1)
        go_wp2_with fail
        refine bodyPost_ret (results_deed1 rfl _ _ w.heap.size ((HRS.out.set0 (.int .i64 k)).set1 (.int .i64 y)) rfl (by kernel_rfl)) rfl ?_
        exact deedR_end HO0.out HO8.out (HR8.out.mono (by omega)) hrb hk0 hk9 HY.out
end Go.Proofs.YthaickihoagnmaaGreatDoor
