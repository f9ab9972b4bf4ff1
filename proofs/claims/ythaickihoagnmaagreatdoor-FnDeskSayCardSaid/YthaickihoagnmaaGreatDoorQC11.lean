import Derived.Test.YthaickihoagnmaaGreatDoorQC10
import Derived.Maps.Views
import Derived.Deep.DeepFit
set_option linter.unusedVariables false
set_option linter.unusedSimpArgs false
set_option maxHeartbeats 12800000
namespace Go.Proofs.YthaickihoagnmaaGreatDoor
open Go.RowKit Go.Maps
theorem wrap_p8 : ∀ {a : Nat}, a < 8 → IntKind.i64.wrap (2 ^ a) = 2 ^ a := by decide
theorem wrap_low8 : ∀ {a : Nat}, a < 8 → IntKind.i64.wrap (IntKind.i64.wrap (2 ^ a) - 1) = 2 ^ a - 1 := by decide
theorem worldN_of {d : Value} {xs : List Int} {L : List (List Int)} {n : Nat} (hn : xs.length = n) (hf : famL xs = true) (w : World) (h : DeskR w d xs L) :
    Calls Tryz.prog 159 #[d] w fun e w' => ∃ g cap, e = .returned (.slice (some ⟨g, 0, none⟩) n cap) ∧ Ints w' (some ⟨g, 0, none⟩) n (wdF xs) ∧ Below w.heap.size w w' := by
  subst hn
  exact world_any d xs L hf w h
theorem text_of {d : Value} {xs : List Int} {L : List (List Int)} {p : Int} {ok : Bool} {t : ByteArray} (ht : bs (oneW xs p ok) = t) (hp : ok = true → ∃ C : Nat, C < xs.length ∧ p = C) (hf : famL xs = true) (w : World) (h : DeskR w d xs L) :
    Calls Tryz.prog 165 #[d, .int .i64 p, .bool ok] w fun e w' => e = .returned (.string t) ∧ Below w.heap.size w w' := by
  subst ht
  exact text_any d xs L p ok hp hf w h
theorem texts_of {d : Value} {xs : List Int} {L : List (List Int)} {s : Int} {t : ByteArray} (ht : bs (setsW xs s) = t) (hf : famL xs = true) (w : World) (h : DeskR w d xs L) :
    Calls Tryz.prog 157 #[d, .int .i64 s] w fun e w' => e = .returned (.string t) ∧ Below w.heap.size w w' := by
  subst ht
  exact texts_any d xs L s hf w h
set_option maxRecDepth 100000 in
theorem wholeM_any (d : Value) (xs : List Int) (L : List (List Int)) (hf : famL xs = true) (w : World) (h : DeskR w d xs L) (hT : TabW w) :
    Calls Tryz.prog 140 #[d] w (Txt (wholeA xs) w) := by
  have hdd := h
  obtain ⟨a, c, b, c2, rfl, _⟩ := h.parts
  have q1 := alloc_below w (.cells #[.slice a xs.length c, .slice b L.length c2] 31)
  have hv := VarD.new hdd
  have HB := Lib.hid q1
  have HT := Lib.hid (hT.below q1)
  have HF := Lib.hid hf
  have hl := famL_len hf
  obtain ⟨n, hn⟩ : ∃ n, xs.length = n := ⟨_, rfl⟩
  have HN := Lib.hid hn
  have HDR := Lib.hid (show ∀ W, Below (w.alloc (.cells #[.slice a xs.length c, .slice b L.length c2] 31)).heap.size (w.alloc (.cells #[.slice a xs.length c, .slice b L.length c2] 31)) W → DeskR W (.agg #[.slice a xs.length c, .slice b L.length c2]) xs L from fun W hW => hv.d.kept hW)
  have HS := Lib.hid (show ∀ W, Below (w.alloc (.cells #[.slice a xs.length c, .slice b L.length c2] 31)).heap.size (w.alloc (.cells #[.slice a xs.length c, .slice b L.length c2] 31)) W → (W.cell? ⟨w.heap.size, 0, none⟩ = some (.slice a xs.length c) ∧ W.cell? ⟨w.heap.size, 1, none⟩ = some (.slice b L.length c2)) from fun W hW => (hv.kept hW).blk.cell)
  rw [hn] at HB HT HDR HS hl ⊢
  obtain ⟨w1, hw1⟩ : ∃ w1, w.alloc (.cells #[.slice a n c, .slice b L.length c2] 31) = w1 := ⟨_, rfl⟩
  rw [hw1] at HB HT HDR HS
  have HB6 := Lib.hid (Below.refl w1.heap.size w1)
  obtain ⟨hd0, hd1⟩ := HS.out w1 HB6.out
  clear h hdd q1 hf hT hv hn
  have HAT := Lib.hid (fun h => whole_at (xs := xs) HF.out h)
  have HE := Lib.hid (show bs (oneW xs (wholeN xs.length (wdF xs)) (wholeOk xs.length (wdF xs))) = bs (wholeA xs) from rfl)
  unfold Txt
  rw [HN.out] at HAT HE
  obtain ⟨i, hi⟩ : ∃ i, wholeN n (wdF xs) = i := ⟨_, rfl⟩
  obtain ⟨ok, hok⟩ : ∃ ok, wholeOk n (wdF xs) = ok := ⟨_, rfl⟩
  obtain ⟨t, ht⟩ : ∃ t, bs (wholeA xs) = t := ⟨_, rfl⟩
  rw [hi, hok] at HAT
  rw [hi, hok, ht] at HE
  rw [ht]
  rw [← HN.out] at HAT
  have HI1 := Lib.hid hi; have HI2 := Lib.hid hok
  clear hi hok ht
  go_enter Tryz.func140, Tryz.ntmps140
  go_upto_region 1 with fail
  clear hw1 hd0 hd1
  go_region_held3 (fun W => W.cell? ⟨w.heap.size, 0, none⟩ = some (.slice a n c) ∧ W.cell? ⟨w.heap.size, 1, none⟩ = some (.slice b L.length c2)) (first | exact HS.out _ HB6.out | exact HS.out _ HB6.out.drew | exact HS.out _ (below_drewN HB6.out _) | go_keep)
    (first | (go_at_call 159; refine (worldN_of HN.out (HF.out) _ (HDR.out _ (by first | with_reducible exact HB6.out | with_reducible exact HB6.out.drew | with_reducible exact below_drewN HB6.out _))).mono ?_; rintro e w7 ⟨g, cap, rfl, hi, hb⟩; have HI := Lib.hid hi; have HZ := Lib.hid (below_onto (show Below w1.heap.size w1 _ from (by first | with_reducible exact HB6.out | with_reducible exact HB6.out.drew | with_reducible exact below_drewN HB6.out _)) hb); clear HB6; have HB6 := HZ; clear HZ; clear hb; clear hi) | (go_at_call 166; refine (WholeOf_val _ _ _ _ i ok _ HI1.out HI2.out (by first | with_reducible exact HI.out | with_reducible exact HI.out.below (Below.refl _ _).drew (Nat.le_refl _) | with_reducible exact HI.out.below (below_drewN (Below.refl _ _) _) (Nat.le_refl _)) (HT.out.below (by first | with_reducible exact HB6.out | with_reducible exact HB6.out.drew | with_reducible exact below_drewN HB6.out _))).mono ?_; rintro e w8 ⟨rfl, hb⟩; have HZ := Lib.hid (below_onto (show Below w1.heap.size w1 _ from (by first | with_reducible exact HB6.out | with_reducible exact HB6.out.drew | with_reducible exact below_drewN HB6.out _)) hb); clear HB6; have HB6 := HZ; clear HZ; clear hb) | (go_at_call 165; refine (text_of HE.out HAT.out HF.out _ (HDR.out _ (by first | with_reducible exact HB6.out | with_reducible exact HB6.out.drew | with_reducible exact below_drewN HB6.out _))).mono ?_; rintro e w9 ⟨rfl, hb⟩; have HZ := Lib.hid (below_onto (show Below w1.heap.size w1 _ from (by first | with_reducible exact HB6.out | with_reducible exact HB6.out.drew | with_reducible exact below_drewN HB6.out _)) hb); clear HB6; have HB6 := HZ; clear HZ; clear hb))
  all_goals
    go_wp2_with fail
    go_ret
    exact ⟨rfl, below_onto HB.out (by first | with_reducible exact HB6.out | with_reducible exact HB6.out.drew | with_reducible exact below_drewN HB6.out _)⟩
set_option maxRecDepth 100000 in
theorem commonM_any (d : Value) (xs : List Int) (L : List (List Int)) (p q : Int) (hf : famL xs = true) (w : World) (h : DeskR w d xs L) (hT : TabW w) :
    Calls Tryz.prog 142 #[d, .int .i64 p, .int .i64 q] w (Txt (commonA xs p q) w) := by
  have hdd := h
  obtain ⟨a, c, b, c2, rfl, _⟩ := h.parts
  have q1 := alloc_below w (.cells #[.slice a xs.length c, .slice b L.length c2] 31)
  have hv := VarD.new hdd
  have HB := Lib.hid q1
  have HT := Lib.hid (hT.below q1)
  have HF := Lib.hid hf
  have hl := famL_len hf
  obtain ⟨n, hn⟩ : ∃ n, xs.length = n := ⟨_, rfl⟩
  have HN := Lib.hid hn
  have HDR := Lib.hid (show ∀ W, Below (w.alloc (.cells #[.slice a xs.length c, .slice b L.length c2] 31)).heap.size (w.alloc (.cells #[.slice a xs.length c, .slice b L.length c2] 31)) W → DeskR W (.agg #[.slice a xs.length c, .slice b L.length c2]) xs L from fun W hW => hv.d.kept hW)
  have HS := Lib.hid (show ∀ W, Below (w.alloc (.cells #[.slice a xs.length c, .slice b L.length c2] 31)).heap.size (w.alloc (.cells #[.slice a xs.length c, .slice b L.length c2] 31)) W → (W.cell? ⟨w.heap.size, 0, none⟩ = some (.slice a xs.length c) ∧ W.cell? ⟨w.heap.size, 1, none⟩ = some (.slice b L.length c2)) from fun W hW => (hv.kept hW).blk.cell)
  rw [hn] at HB HT HDR HS hl ⊢
  obtain ⟨w1, hw1⟩ : ∃ w1, w.alloc (.cells #[.slice a n c, .slice b L.length c2] 31) = w1 := ⟨_, rfl⟩
  rw [hw1] at HB HT HDR HS
  have HB6 := Lib.hid (Below.refl w1.heap.size w1)
  obtain ⟨hd0, hd1⟩ := HS.out w1 HB6.out
  clear h hdd q1 hf hT hv hn
  have HAT := Lib.hid (fun h => common_at (xs := xs) (p := p) (q := q) HF.out h)
  have HE := Lib.hid (show bs (oneW xs (commonN xs.length (wdF xs) p q) (commonOk xs.length (wdF xs) p q)) = bs (commonA xs p q) from rfl)
  unfold Txt
  rw [HN.out] at HAT HE
  obtain ⟨i, hi⟩ : ∃ i, commonN n (wdF xs) p q = i := ⟨_, rfl⟩
  obtain ⟨ok, hok⟩ : ∃ ok, commonOk n (wdF xs) p q = ok := ⟨_, rfl⟩
  obtain ⟨t, ht⟩ : ∃ t, bs (commonA xs p q) = t := ⟨_, rfl⟩
  rw [hi, hok] at HAT
  rw [hi, hok, ht] at HE
  rw [ht]
  rw [← HN.out] at HAT
  have HI1 := Lib.hid hi; have HI2 := Lib.hid hok
  clear hi hok ht
  go_enter Tryz.func142, Tryz.ntmps142
  go_upto_region 1 with fail
  clear hw1 hd0 hd1
  go_region_held3 (fun W => W.cell? ⟨w.heap.size, 0, none⟩ = some (.slice a n c) ∧ W.cell? ⟨w.heap.size, 1, none⟩ = some (.slice b L.length c2)) (first | exact HS.out _ HB6.out | exact HS.out _ HB6.out.drew | exact HS.out _ (below_drewN HB6.out _) | go_keep)
    (first | (go_at_call 159; refine (worldN_of HN.out (HF.out) _ (HDR.out _ (by first | with_reducible exact HB6.out | with_reducible exact HB6.out.drew | with_reducible exact below_drewN HB6.out _))).mono ?_; rintro e w7 ⟨g, cap, rfl, hi, hb⟩; have HI := Lib.hid hi; have HZ := Lib.hid (below_onto (show Below w1.heap.size w1 _ from (by first | with_reducible exact HB6.out | with_reducible exact HB6.out.drew | with_reducible exact below_drewN HB6.out _)) hb); clear HB6; have HB6 := HZ; clear HZ; clear hb; clear hi) | (go_at_call 168; refine (CommonOf_val _ _ _ _ p q i ok _ HI1.out HI2.out (by first | with_reducible exact HI.out | with_reducible exact HI.out.below (Below.refl _ _).drew (Nat.le_refl _) | with_reducible exact HI.out.below (below_drewN (Below.refl _ _) _) (Nat.le_refl _)) (HT.out.below (by first | with_reducible exact HB6.out | with_reducible exact HB6.out.drew | with_reducible exact below_drewN HB6.out _))).mono ?_; rintro e w8 ⟨rfl, hb⟩; have HZ := Lib.hid (below_onto (show Below w1.heap.size w1 _ from (by first | with_reducible exact HB6.out | with_reducible exact HB6.out.drew | with_reducible exact below_drewN HB6.out _)) hb); clear HB6; have HB6 := HZ; clear HZ; clear hb) | (go_at_call 165; refine (text_of HE.out HAT.out HF.out _ (HDR.out _ (by first | with_reducible exact HB6.out | with_reducible exact HB6.out.drew | with_reducible exact below_drewN HB6.out _))).mono ?_; rintro e w9 ⟨rfl, hb⟩; have HZ := Lib.hid (below_onto (show Below w1.heap.size w1 _ from (by first | with_reducible exact HB6.out | with_reducible exact HB6.out.drew | with_reducible exact below_drewN HB6.out _)) hb); clear HB6; have HB6 := HZ; clear HZ; clear hb))
  all_goals
    go_wp2_with fail
    go_ret
    exact ⟨rfl, below_onto HB.out (by first | with_reducible exact HB6.out | with_reducible exact HB6.out.drew | with_reducible exact below_drewN HB6.out _)⟩
set_option maxRecDepth 100000 in
theorem leftM_any (d : Value) (xs : List Int) (L : List (List Int)) (p q : Int) (hf : famL xs = true) (w : World) (h : DeskR w d xs L) (hT : TabW w) :
    Calls Tryz.prog 143 #[d, .int .i64 p, .int .i64 q] w (Txt (leftA xs p q) w) := by
  have hdd := h
  obtain ⟨a, c, b, c2, rfl, _⟩ := h.parts
  have q1 := alloc_below w (.cells #[.slice a xs.length c, .slice b L.length c2] 31)
  have hv := VarD.new hdd
  have HB := Lib.hid q1
  have HT := Lib.hid (hT.below q1)
  have HF := Lib.hid hf
  have hl := famL_len hf
  obtain ⟨n, hn⟩ : ∃ n, xs.length = n := ⟨_, rfl⟩
  have HN := Lib.hid hn
  have HDR := Lib.hid (show ∀ W, Below (w.alloc (.cells #[.slice a xs.length c, .slice b L.length c2] 31)).heap.size (w.alloc (.cells #[.slice a xs.length c, .slice b L.length c2] 31)) W → DeskR W (.agg #[.slice a xs.length c, .slice b L.length c2]) xs L from fun W hW => hv.d.kept hW)
  have HS := Lib.hid (show ∀ W, Below (w.alloc (.cells #[.slice a xs.length c, .slice b L.length c2] 31)).heap.size (w.alloc (.cells #[.slice a xs.length c, .slice b L.length c2] 31)) W → (W.cell? ⟨w.heap.size, 0, none⟩ = some (.slice a xs.length c) ∧ W.cell? ⟨w.heap.size, 1, none⟩ = some (.slice b L.length c2)) from fun W hW => (hv.kept hW).blk.cell)
  rw [hn] at HB HT HDR HS hl ⊢
  obtain ⟨w1, hw1⟩ : ∃ w1, w.alloc (.cells #[.slice a n c, .slice b L.length c2] 31) = w1 := ⟨_, rfl⟩
  rw [hw1] at HB HT HDR HS
  have HB6 := Lib.hid (Below.refl w1.heap.size w1)
  obtain ⟨hd0, hd1⟩ := HS.out w1 HB6.out
  clear h hdd q1 hf hT hv hn
  have HAT := Lib.hid (fun h => left_at (xs := xs) (p := p) (q := q) HF.out h)
  have HE := Lib.hid (show bs (oneW xs (leftN xs.length (wdF xs) p q) (leftOk xs.length (wdF xs) p q)) = bs (leftA xs p q) from rfl)
  unfold Txt
  rw [HN.out] at HAT HE
  obtain ⟨i, hi⟩ : ∃ i, leftN n (wdF xs) p q = i := ⟨_, rfl⟩
  obtain ⟨ok, hok⟩ : ∃ ok, leftOk n (wdF xs) p q = ok := ⟨_, rfl⟩
  obtain ⟨t, ht⟩ : ∃ t, bs (leftA xs p q) = t := ⟨_, rfl⟩
  rw [hi, hok] at HAT
  rw [hi, hok, ht] at HE
  rw [ht]
  rw [← HN.out] at HAT
  have HI1 := Lib.hid hi; have HI2 := Lib.hid hok
  clear hi hok ht
  go_enter Tryz.func143, Tryz.ntmps143
  go_upto_region 1 with fail
  clear hw1 hd0 hd1
  go_region_held3 (fun W => W.cell? ⟨w.heap.size, 0, none⟩ = some (.slice a n c) ∧ W.cell? ⟨w.heap.size, 1, none⟩ = some (.slice b L.length c2)) (first | exact HS.out _ HB6.out | exact HS.out _ HB6.out.drew | exact HS.out _ (below_drewN HB6.out _) | go_keep)
    (first | (go_at_call 159; refine (worldN_of HN.out (HF.out) _ (HDR.out _ (by first | with_reducible exact HB6.out | with_reducible exact HB6.out.drew | with_reducible exact below_drewN HB6.out _))).mono ?_; rintro e w7 ⟨g, cap, rfl, hi, hb⟩; have HI := Lib.hid hi; have HZ := Lib.hid (below_onto (show Below w1.heap.size w1 _ from (by first | with_reducible exact HB6.out | with_reducible exact HB6.out.drew | with_reducible exact below_drewN HB6.out _)) hb); clear HB6; have HB6 := HZ; clear HZ; clear hb; clear hi) | (go_at_call 169; refine (LeftOf_val _ _ _ _ p q i ok _ HI1.out HI2.out (by first | with_reducible exact HI.out | with_reducible exact HI.out.below (Below.refl _ _).drew (Nat.le_refl _) | with_reducible exact HI.out.below (below_drewN (Below.refl _ _) _) (Nat.le_refl _)) (HT.out.below (by first | with_reducible exact HB6.out | with_reducible exact HB6.out.drew | with_reducible exact below_drewN HB6.out _))).mono ?_; rintro e w8 ⟨rfl, hb⟩; have HZ := Lib.hid (below_onto (show Below w1.heap.size w1 _ from (by first | with_reducible exact HB6.out | with_reducible exact HB6.out.drew | with_reducible exact below_drewN HB6.out _)) hb); clear HB6; have HB6 := HZ; clear HZ; clear hb) | (go_at_call 165; refine (text_of HE.out HAT.out HF.out _ (HDR.out _ (by first | with_reducible exact HB6.out | with_reducible exact HB6.out.drew | with_reducible exact below_drewN HB6.out _))).mono ?_; rintro e w9 ⟨rfl, hb⟩; have HZ := Lib.hid (below_onto (show Below w1.heap.size w1 _ from (by first | with_reducible exact HB6.out | with_reducible exact HB6.out.drew | with_reducible exact below_drewN HB6.out _)) hb); clear HB6; have HB6 := HZ; clear HZ; clear hb))
  all_goals
    go_wp2_with fail
    go_ret
    exact ⟨rfl, below_onto HB.out (by first | with_reducible exact HB6.out | with_reducible exact HB6.out.drew | with_reducible exact below_drewN HB6.out _)⟩
set_option maxRecDepth 100000 in
theorem atomsM_any (d : Value) (xs : List Int) (L : List (List Int)) (hf : famL xs = true) (w : World) (h : DeskR w d xs L) (hT : TabW w) :
    Calls Tryz.prog 139 #[d] w (Txt (atomsA xs) w) := by
  have hdd := h
  obtain ⟨a, c, b, c2, rfl, _⟩ := h.parts
  have q1 := alloc_below w (.cells #[.slice a xs.length c, .slice b L.length c2] 31)
  have hv := VarD.new hdd
  have HB := Lib.hid q1
  have HT := Lib.hid (hT.below q1)
  have HF := Lib.hid hf
  have hl := famL_len hf
  obtain ⟨n, hn⟩ : ∃ n, xs.length = n := ⟨_, rfl⟩
  have HN := Lib.hid hn
  have HDR := Lib.hid (show ∀ W, Below (w.alloc (.cells #[.slice a xs.length c, .slice b L.length c2] 31)).heap.size (w.alloc (.cells #[.slice a xs.length c, .slice b L.length c2] 31)) W → DeskR W (.agg #[.slice a xs.length c, .slice b L.length c2]) xs L from fun W hW => hv.d.kept hW)
  have HS := Lib.hid (show ∀ W, Below (w.alloc (.cells #[.slice a xs.length c, .slice b L.length c2] 31)).heap.size (w.alloc (.cells #[.slice a xs.length c, .slice b L.length c2] 31)) W → (W.cell? ⟨w.heap.size, 0, none⟩ = some (.slice a xs.length c) ∧ W.cell? ⟨w.heap.size, 1, none⟩ = some (.slice b L.length c2)) from fun W hW => (hv.kept hW).blk.cell)
  rw [hn] at HB HT HDR HS hl ⊢
  obtain ⟨w1, hw1⟩ : ∃ w1, w.alloc (.cells #[.slice a n c, .slice b L.length c2] 31) = w1 := ⟨_, rfl⟩
  rw [hw1] at HB HT HDR HS
  have HB6 := Lib.hid (Below.refl w1.heap.size w1)
  obtain ⟨hd0, hd1⟩ := HS.out w1 HB6.out
  clear h hdd q1 hf hT hv hn
  have HE := Lib.hid (show bs (setsW xs (atomsB xs.length (wdF xs))) = bs (atomsA xs) from rfl)
  unfold Txt
  rw [HN.out] at HE
  obtain ⟨i, hi⟩ : ∃ i, atomsB n (wdF xs) = i := ⟨_, rfl⟩
  obtain ⟨t, ht⟩ : ∃ t, bs (atomsA xs) = t := ⟨_, rfl⟩
  rw [hi, ht] at HE
  rw [ht]
  have HI1 := Lib.hid hi
  clear hi ht
  go_enter Tryz.func139, Tryz.ntmps139
  go_upto_region 1 with fail
  clear hw1 hd0 hd1
  go_region_held3 (fun W => W.cell? ⟨w.heap.size, 0, none⟩ = some (.slice a n c) ∧ W.cell? ⟨w.heap.size, 1, none⟩ = some (.slice b L.length c2)) (first | exact HS.out _ HB6.out | exact HS.out _ HB6.out.drew | exact HS.out _ (below_drewN HB6.out _) | go_keep)
    (first | (go_at_call 159; refine (worldN_of HN.out (HF.out) _ (HDR.out _ (by first | with_reducible exact HB6.out | with_reducible exact HB6.out.drew | with_reducible exact below_drewN HB6.out _))).mono ?_; rintro e w7 ⟨g, cap, rfl, hi, hb⟩; have HI := Lib.hid hi; have HZ := Lib.hid (below_onto (show Below w1.heap.size w1 _ from (by first | with_reducible exact HB6.out | with_reducible exact HB6.out.drew | with_reducible exact below_drewN HB6.out _)) hb); clear HB6; have HB6 := HZ; clear HZ; clear hb; clear hi) | (go_at_call 164; refine (AtomsOf_any _ _ _ _ _ (by first | with_reducible exact HI.out | with_reducible exact HI.out.below (Below.refl _ _).drew (Nat.le_refl _) | with_reducible exact HI.out.below (below_drewN (Below.refl _ _) _) (Nat.le_refl _))).mono ?_; rintro e w8 ⟨rfl, hb⟩; rw [HI1.out]; have HZ := Lib.hid (below_onto (show Below w1.heap.size w1 _ from (by first | with_reducible exact HB6.out | with_reducible exact HB6.out.drew | with_reducible exact below_drewN HB6.out _)) hb); clear HB6; have HB6 := HZ; clear HZ; clear hb) | (go_at_call 157; refine (texts_of HE.out HF.out _ (HDR.out _ (by first | with_reducible exact HB6.out | with_reducible exact HB6.out.drew | with_reducible exact below_drewN HB6.out _))).mono ?_; rintro e w9 ⟨rfl, hb⟩; have HZ := Lib.hid (below_onto (show Below w1.heap.size w1 _ from (by first | with_reducible exact HB6.out | with_reducible exact HB6.out.drew | with_reducible exact below_drewN HB6.out _)) hb); clear HB6; have HB6 := HZ; clear HZ; clear hb))
  all_goals
    go_wp2_with fail
    go_ret
    exact ⟨rfl, below_onto HB.out (by first | with_reducible exact HB6.out | with_reducible exact HB6.out.drew | with_reducible exact below_drewN HB6.out _)⟩
set_option maxRecDepth 100000 in
theorem allM_any (d : Value) (xs : List Int) (L : List (List Int)) (hf : famL xs = true) (w : World) (h : DeskR w d xs L) (hT : TabW w) :
    Calls Tryz.prog 133 #[d] w (Txt (allA xs) w) := by
  have hdd := h
  obtain ⟨a, c, b, c2, rfl, _⟩ := h.parts
  have q1 := alloc_below w (.cells #[.slice a xs.length c, .slice b L.length c2] 31)
  have hv := VarD.new hdd
  have HB := Lib.hid q1
  have HT := Lib.hid (hT.below q1)
  have HF := Lib.hid hf
  have hl := famL_len hf
  obtain ⟨n, hn⟩ : ∃ n, xs.length = n := ⟨_, rfl⟩
  have HN := Lib.hid hn
  have HDR := Lib.hid (show ∀ W, Below (w.alloc (.cells #[.slice a xs.length c, .slice b L.length c2] 31)).heap.size (w.alloc (.cells #[.slice a xs.length c, .slice b L.length c2] 31)) W → DeskR W (.agg #[.slice a xs.length c, .slice b L.length c2]) xs L from fun W hW => hv.d.kept hW)
  have HS := Lib.hid (show ∀ W, Below (w.alloc (.cells #[.slice a xs.length c, .slice b L.length c2] 31)).heap.size (w.alloc (.cells #[.slice a xs.length c, .slice b L.length c2] 31)) W → (W.cell? ⟨w.heap.size, 0, none⟩ = some (.slice a xs.length c) ∧ W.cell? ⟨w.heap.size, 1, none⟩ = some (.slice b L.length c2)) from fun W hW => (hv.kept hW).blk.cell)
  rw [hn] at HB HT HDR HS hl ⊢
  obtain ⟨w1, hw1⟩ : ∃ w1, w.alloc (.cells #[.slice a n c, .slice b L.length c2] 31) = w1 := ⟨_, rfl⟩
  rw [hw1] at HB HT HDR HS
  have HB6 := Lib.hid (Below.refl w1.heap.size w1)
  obtain ⟨hd0, hd1⟩ := HS.out w1 HB6.out
  clear h hdd q1 hf hT hv hn
  have HE := Lib.hid (show bs (setsW xs (2 ^ xs.length - 1)) = bs (allA xs) from rfl)
  unfold Txt
  rw [HN.out] at HE
  have hp := pow_bounds n (by omega)
  obtain ⟨t, ht⟩ : ∃ t, bs (allA xs) = t := ⟨_, rfl⟩
  rw [ht] at HE
  rw [ht]
  have hwl := wrap_low8 (a := n) (by omega)
  obtain ⟨sv, hsv⟩ : ∃ sv : Int, (2 : Int) ^ n - 1 = sv := ⟨_, rfl⟩
  rw [hsv] at HE hwl
  have HSV := Lib.hid hwl
  clear ht hwl hsv
  go_enter Tryz.func133, Tryz.ntmps133
  go_upto_region 1 with fail
  clear hw1 hd0 hd1
  go_region_held3 (fun W => W.cell? ⟨w.heap.size, 0, none⟩ = some (.slice a n c) ∧ W.cell? ⟨w.heap.size, 1, none⟩ = some (.slice b L.length c2)) (first | exact HS.out _ HB6.out | exact HS.out _ HB6.out.drew | exact HS.out _ (below_drewN HB6.out _) | go_keep)
    (first | (go_at_call 157; rw [HSV.out]; refine (texts_of HE.out HF.out _ (HDR.out _ (by first | with_reducible exact HB6.out | with_reducible exact HB6.out.drew | with_reducible exact below_drewN HB6.out _))).mono ?_; rintro e w9 ⟨rfl, hb⟩; have HZ := Lib.hid (below_onto (show Below w1.heap.size w1 _ from (by first | with_reducible exact HB6.out | with_reducible exact HB6.out.drew | with_reducible exact below_drewN HB6.out _)) hb); clear HB6; have HB6 := HZ; clear HZ; clear hb))
  all_goals
    go_wp2_with fail
    go_ret
    exact ⟨rfl, below_onto HB.out (by first | with_reducible exact HB6.out | with_reducible exact HB6.out.drew | with_reducible exact below_drewN HB6.out _)⟩
set_option maxRecDepth 100000 in
theorem sumM_any (d : Value) (xs : List Int) (L : List (List Int)) (P Q : Nat) (hP : P < xs.length) (hQ : Q < xs.length) (hf : famL xs = true) (w : World) (h : DeskR w d xs L) (hT : TabW w) :
    Calls Tryz.prog 141 #[d, .int .i64 P, .int .i64 Q] w (Txt (sumA xs P Q) w) := by
  have hdd := h
  obtain ⟨a, c, b, c2, rfl, _⟩ := h.parts
  have q1 := alloc_below w (.cells #[.slice a xs.length c, .slice b L.length c2] 31)
  have hv := VarD.new hdd
  have HB := Lib.hid q1
  have HT := Lib.hid (hT.below q1)
  have HF := Lib.hid hf
  have hl := famL_len hf
  obtain ⟨n, hn⟩ : ∃ n, xs.length = n := ⟨_, rfl⟩
  have HN := Lib.hid hn
  have HDR := Lib.hid (show ∀ W, Below (w.alloc (.cells #[.slice a xs.length c, .slice b L.length c2] 31)).heap.size (w.alloc (.cells #[.slice a xs.length c, .slice b L.length c2] 31)) W → DeskR W (.agg #[.slice a xs.length c, .slice b L.length c2]) xs L from fun W hW => hv.d.kept hW)
  have HS := Lib.hid (show ∀ W, Below (w.alloc (.cells #[.slice a xs.length c, .slice b L.length c2] 31)).heap.size (w.alloc (.cells #[.slice a xs.length c, .slice b L.length c2] 31)) W → (W.cell? ⟨w.heap.size, 0, none⟩ = some (.slice a xs.length c) ∧ W.cell? ⟨w.heap.size, 1, none⟩ = some (.slice b L.length c2)) from fun W hW => (hv.kept hW).blk.cell)
  rw [hn] at HB HT HDR HS hl ⊢
  obtain ⟨w1, hw1⟩ : ∃ w1, w.alloc (.cells #[.slice a n c, .slice b L.length c2] 31) = w1 := ⟨_, rfl⟩
  rw [hw1] at HB HT HDR HS
  have HB6 := Lib.hid (Below.refl w1.heap.size w1)
  obtain ⟨hd0, hd1⟩ := HS.out w1 HB6.out
  clear h hdd q1 hf hT hv hn
  have HE := Lib.hid (show bs (setsW xs (sumsB xs.length (wdF xs) (twoS P Q))) = bs (sumA xs P Q) from rfl)
  unfold Txt
  rw [HN.out] at HE hP hQ
  have hp1 := pow_bounds P (by omega)
  have hp2 := pow_bounds Q (by omega)
  obtain ⟨t, ht⟩ : ∃ t, bs (sumA xs P Q) = t := ⟨_, rfl⟩
  have hs : twoS P Q = bits .or .i64 (IntKind.i64.wrap (2 ^ P)) (IntKind.i64.wrap (2 ^ Q)) := by unfold twoS; rw [Int.toNat_natCast, Int.toNat_natCast, wrap_p8 (by omega), wrap_p8 (by omega)]
  have hs64 : I64 (twoS P Q) := by rw [hs]; exact orI_I64 _ _
  obtain ⟨sv, hsv⟩ : ∃ sv, twoS P Q = sv := ⟨_, rfl⟩
  rw [hsv] at HE hs hs64
  rw [ht] at HE
  rw [ht]
  obtain ⟨i, hi⟩ : ∃ i, sumsB n (wdF xs) sv = i := ⟨_, rfl⟩
  rw [hi] at HE
  have HI1 := Lib.hid hi; have HSV := Lib.hid hs.symm; have HS64 := Lib.hid hs64
  clear hi ht hs hs64 hsv
  go_enter Tryz.func141, Tryz.ntmps141
  go_upto_region 1 with fail
  clear hw1 hd0 hd1
  go_region_held3 (fun W => W.cell? ⟨w.heap.size, 0, none⟩ = some (.slice a n c) ∧ W.cell? ⟨w.heap.size, 1, none⟩ = some (.slice b L.length c2)) (first | exact HS.out _ HB6.out | exact HS.out _ HB6.out.drew | exact HS.out _ (below_drewN HB6.out _) | go_keep)
    (first | (go_at_call 159; refine (worldN_of HN.out (HF.out) _ (HDR.out _ (by first | with_reducible exact HB6.out | with_reducible exact HB6.out.drew | with_reducible exact below_drewN HB6.out _))).mono ?_; rintro e w7 ⟨g, cap, rfl, hi, hb⟩; have HI := Lib.hid hi; have HZ := Lib.hid (below_onto (show Below w1.heap.size w1 _ from (by first | with_reducible exact HB6.out | with_reducible exact HB6.out.drew | with_reducible exact below_drewN HB6.out _)) hb); clear HB6; have HB6 := HZ; clear HZ; clear hb; clear hi) | (go_at_call 167; rw [HSV.out]; refine (SumsOf_val _ _ _ _ sv i HS64.out _ HI1.out (by first | with_reducible exact HI.out | with_reducible exact HI.out.below (Below.refl _ _).drew (Nat.le_refl _) | with_reducible exact HI.out.below (below_drewN (Below.refl _ _) _) (Nat.le_refl _))).mono ?_; rintro e w8 ⟨rfl, hb⟩; have HZ := Lib.hid (below_onto (show Below w1.heap.size w1 _ from (by first | with_reducible exact HB6.out | with_reducible exact HB6.out.drew | with_reducible exact below_drewN HB6.out _)) hb); clear HB6; have HB6 := HZ; clear HZ; clear hb) | (go_at_call 157; refine (texts_of HE.out HF.out _ (HDR.out _ (by first | with_reducible exact HB6.out | with_reducible exact HB6.out.drew | with_reducible exact below_drewN HB6.out _))).mono ?_; rintro e w9 ⟨rfl, hb⟩; have HZ := Lib.hid (below_onto (show Below w1.heap.size w1 _ from (by first | with_reducible exact HB6.out | with_reducible exact HB6.out.drew | with_reducible exact below_drewN HB6.out _)) hb); clear HB6; have HB6 := HZ; clear HZ; clear hb))
  all_goals
    go_wp2_with fail
    go_ret
    exact ⟨rfl, below_onto HB.out (by first | with_reducible exact HB6.out | with_reducible exact HB6.out.drew | with_reducible exact below_drewN HB6.out _)⟩
end Go.Proofs.YthaickihoagnmaaGreatDoor
namespace Go.Proofs.YthaickihoagnmaaGreatDoor
open Go.RowKit Go.WideMaps Go.Maps
def fnElem (v : Value) : Option (DataW Empty × List MemPlace) := match v with
  | .func (.func K) x y => if x.size = 0 ∧ y.size = 0 then some (.lit (.int .i64 (K : Int)), []) else none
  | .nilFunc => some (.lit (.bool false), [])
  | _ => none
theorem fnElem_is {v : Value} {z : DataW Empty × List MemPlace} (h : fnElem v = some z) : (∃ K : Nat, v = .func (.func K) #[] #[] ∧ z = (.lit (.int .i64 (K : Int)), [])) ∨ (v = .nilFunc ∧ z = (.lit (.bool false), [])) := by
  cases v with
  | nilFunc =>
    injection h with h
    exact .inr ⟨rfl, h.symm⟩
  | func f x y =>
    cases f with
    | func K =>
      change (if x.size = 0 ∧ y.size = 0 then some (DataW.lit (Lit.int IntKind.i64 (K : Int)), ([] : List MemPlace)) else none) = some z at h
      split at h
      · rename_i hh
        injection h with h
        have e1 := Array.eq_empty_of_size_eq_zero hh.1
        have e2 := Array.eq_empty_of_size_eq_zero hh.2
        subst e1; subst e2
        exact .inl ⟨K, rfl, h.symm⟩
      · cases h
    | _ => cases h
  | _ => cases h
theorem fnElem_func {v : Value} {K : Nat} {ps : List MemPlace} (h : fnElem v = some (.lit (.int .i64 (K : Int)), ps)) : v = .func (.func K) #[] #[] := by
  rcases fnElem_is h with ⟨K', rfl, e⟩ | ⟨_, e⟩
  · have e1 := congrArg Prod.fst e
    simp only at e1
    injection e1 with e1
    injection e1 with _ e2
    have : K' = K := by omega
    rw [this]
  · have e1 := congrArg Prod.fst e
    simp only at e1
    injection e1 with e1
    cases e1
theorem fnElem_nil {v : Value} {ps : List MemPlace} (h : fnElem v = some (.lit (.bool false), ps)) : v = .nilFunc := by
  rcases fnElem_is h with ⟨K', rfl, e⟩ | ⟨e, _⟩
  · have e1 := congrArg Prod.fst e
    simp only at e1
    injection e1 with e1
    cases e1
  · exact e
def qD0 : DataW Empty := DataW.map []
def qD1 : DataW Empty := qD0.put (.string allW) (.lit (.int .i64 ((133 : Nat) : Int)))
def qD2 : DataW Empty := qD1.put (.string companyW) (.lit (.int .i64 ((134 : Nat) : Int)))
def qD3 : DataW Empty := qD2.put (.string weakW) (.lit (.int .i64 ((135 : Nat) : Int)))
def qD4 : DataW Empty := qD3.put (.string strongW) (.lit (.int .i64 ((136 : Nat) : Int)))
def qD5 : DataW Empty := qD4.put (.string summedW) (.lit (.int .i64 ((137 : Nat) : Int)))
def qD6 : DataW Empty := qD5.put (.string classicalW) (.lit (.int .i64 ((138 : Nat) : Int)))
def qD7 : DataW Empty := qD6.put (.string atomsW) (.lit (.int .i64 ((139 : Nat) : Int)))
def qD8 : DataW Empty := qD7.put (.string wholeW) (.lit (.int .i64 ((140 : Nat) : Int)))
theorem qD0_map : IsMap qD0 := isMap_empty
theorem qD1_map : IsMap qD1 := qD0_map.put _ _
theorem qD2_map : IsMap qD2 := qD1_map.put _ _
theorem qD3_map : IsMap qD3 := qD2_map.put _ _
theorem qD4_map : IsMap qD4 := qD3_map.put _ _
theorem qD5_map : IsMap qD5 := qD4_map.put _ _
theorem qD6_map : IsMap qD6 := qD5_map.put _ _
theorem qD7_map : IsMap qD7 := qD6_map.put _ _
theorem qD_all (z : DataW Empty) : qD8.atKey (.string allW) z = .lit (.int .i64 ((133 : Nat) : Int)) ∧ Maps.has qD8 (.string allW) = true := by
  unfold qD8
  rw [atKey_put_other (show Lit.string allW ≠ Lit.string wholeW from fun e => absurd (by injection e : allW = wholeW) (by decide)), has_put_other (show Lit.string allW ≠ Lit.string wholeW from fun e => absurd (by injection e : allW = wholeW) (by decide))]
  unfold qD7
  rw [atKey_put_other (show Lit.string allW ≠ Lit.string atomsW from fun e => absurd (by injection e : allW = atomsW) (by decide)), has_put_other (show Lit.string allW ≠ Lit.string atomsW from fun e => absurd (by injection e : allW = atomsW) (by decide))]
  unfold qD6
  rw [atKey_put_other (show Lit.string allW ≠ Lit.string classicalW from fun e => absurd (by injection e : allW = classicalW) (by decide)), has_put_other (show Lit.string allW ≠ Lit.string classicalW from fun e => absurd (by injection e : allW = classicalW) (by decide))]
  unfold qD5
  rw [atKey_put_other (show Lit.string allW ≠ Lit.string summedW from fun e => absurd (by injection e : allW = summedW) (by decide)), has_put_other (show Lit.string allW ≠ Lit.string summedW from fun e => absurd (by injection e : allW = summedW) (by decide))]
  unfold qD4
  rw [atKey_put_other (show Lit.string allW ≠ Lit.string strongW from fun e => absurd (by injection e : allW = strongW) (by decide)), has_put_other (show Lit.string allW ≠ Lit.string strongW from fun e => absurd (by injection e : allW = strongW) (by decide))]
  unfold qD3
  rw [atKey_put_other (show Lit.string allW ≠ Lit.string weakW from fun e => absurd (by injection e : allW = weakW) (by decide)), has_put_other (show Lit.string allW ≠ Lit.string weakW from fun e => absurd (by injection e : allW = weakW) (by decide))]
  unfold qD2
  rw [atKey_put_other (show Lit.string allW ≠ Lit.string companyW from fun e => absurd (by injection e : allW = companyW) (by decide)), has_put_other (show Lit.string allW ≠ Lit.string companyW from fun e => absurd (by injection e : allW = companyW) (by decide))]
  unfold qD1
  exact ⟨atKey_put_same qD0_map (by trivial) _ _, has_put_same qD0_map (by trivial) _⟩
theorem qD_company (z : DataW Empty) : qD8.atKey (.string companyW) z = .lit (.int .i64 ((134 : Nat) : Int)) ∧ Maps.has qD8 (.string companyW) = true := by
  unfold qD8
  rw [atKey_put_other (show Lit.string companyW ≠ Lit.string wholeW from fun e => absurd (by injection e : companyW = wholeW) (by decide)), has_put_other (show Lit.string companyW ≠ Lit.string wholeW from fun e => absurd (by injection e : companyW = wholeW) (by decide))]
  unfold qD7
  rw [atKey_put_other (show Lit.string companyW ≠ Lit.string atomsW from fun e => absurd (by injection e : companyW = atomsW) (by decide)), has_put_other (show Lit.string companyW ≠ Lit.string atomsW from fun e => absurd (by injection e : companyW = atomsW) (by decide))]
  unfold qD6
  rw [atKey_put_other (show Lit.string companyW ≠ Lit.string classicalW from fun e => absurd (by injection e : companyW = classicalW) (by decide)), has_put_other (show Lit.string companyW ≠ Lit.string classicalW from fun e => absurd (by injection e : companyW = classicalW) (by decide))]
  unfold qD5
  rw [atKey_put_other (show Lit.string companyW ≠ Lit.string summedW from fun e => absurd (by injection e : companyW = summedW) (by decide)), has_put_other (show Lit.string companyW ≠ Lit.string summedW from fun e => absurd (by injection e : companyW = summedW) (by decide))]
  unfold qD4
  rw [atKey_put_other (show Lit.string companyW ≠ Lit.string strongW from fun e => absurd (by injection e : companyW = strongW) (by decide)), has_put_other (show Lit.string companyW ≠ Lit.string strongW from fun e => absurd (by injection e : companyW = strongW) (by decide))]
  unfold qD3
  rw [atKey_put_other (show Lit.string companyW ≠ Lit.string weakW from fun e => absurd (by injection e : companyW = weakW) (by decide)), has_put_other (show Lit.string companyW ≠ Lit.string weakW from fun e => absurd (by injection e : companyW = weakW) (by decide))]
  unfold qD2
  exact ⟨atKey_put_same qD1_map (by trivial) _ _, has_put_same qD1_map (by trivial) _⟩
theorem qD_weak (z : DataW Empty) : qD8.atKey (.string weakW) z = .lit (.int .i64 ((135 : Nat) : Int)) ∧ Maps.has qD8 (.string weakW) = true := by
  unfold qD8
  rw [atKey_put_other (show Lit.string weakW ≠ Lit.string wholeW from fun e => absurd (by injection e : weakW = wholeW) (by decide)), has_put_other (show Lit.string weakW ≠ Lit.string wholeW from fun e => absurd (by injection e : weakW = wholeW) (by decide))]
  unfold qD7
  rw [atKey_put_other (show Lit.string weakW ≠ Lit.string atomsW from fun e => absurd (by injection e : weakW = atomsW) (by decide)), has_put_other (show Lit.string weakW ≠ Lit.string atomsW from fun e => absurd (by injection e : weakW = atomsW) (by decide))]
  unfold qD6
  rw [atKey_put_other (show Lit.string weakW ≠ Lit.string classicalW from fun e => absurd (by injection e : weakW = classicalW) (by decide)), has_put_other (show Lit.string weakW ≠ Lit.string classicalW from fun e => absurd (by injection e : weakW = classicalW) (by decide))]
  unfold qD5
  rw [atKey_put_other (show Lit.string weakW ≠ Lit.string summedW from fun e => absurd (by injection e : weakW = summedW) (by decide)), has_put_other (show Lit.string weakW ≠ Lit.string summedW from fun e => absurd (by injection e : weakW = summedW) (by decide))]
  unfold qD4
  rw [atKey_put_other (show Lit.string weakW ≠ Lit.string strongW from fun e => absurd (by injection e : weakW = strongW) (by decide)), has_put_other (show Lit.string weakW ≠ Lit.string strongW from fun e => absurd (by injection e : weakW = strongW) (by decide))]
  unfold qD3
  exact ⟨atKey_put_same qD2_map (by trivial) _ _, has_put_same qD2_map (by trivial) _⟩
theorem qD_strong (z : DataW Empty) : qD8.atKey (.string strongW) z = .lit (.int .i64 ((136 : Nat) : Int)) ∧ Maps.has qD8 (.string strongW) = true := by
  unfold qD8
  rw [atKey_put_other (show Lit.string strongW ≠ Lit.string wholeW from fun e => absurd (by injection e : strongW = wholeW) (by decide)), has_put_other (show Lit.string strongW ≠ Lit.string wholeW from fun e => absurd (by injection e : strongW = wholeW) (by decide))]
  unfold qD7
  rw [atKey_put_other (show Lit.string strongW ≠ Lit.string atomsW from fun e => absurd (by injection e : strongW = atomsW) (by decide)), has_put_other (show Lit.string strongW ≠ Lit.string atomsW from fun e => absurd (by injection e : strongW = atomsW) (by decide))]
  unfold qD6
  rw [atKey_put_other (show Lit.string strongW ≠ Lit.string classicalW from fun e => absurd (by injection e : strongW = classicalW) (by decide)), has_put_other (show Lit.string strongW ≠ Lit.string classicalW from fun e => absurd (by injection e : strongW = classicalW) (by decide))]
  unfold qD5
  rw [atKey_put_other (show Lit.string strongW ≠ Lit.string summedW from fun e => absurd (by injection e : strongW = summedW) (by decide)), has_put_other (show Lit.string strongW ≠ Lit.string summedW from fun e => absurd (by injection e : strongW = summedW) (by decide))]
  unfold qD4
  exact ⟨atKey_put_same qD3_map (by trivial) _ _, has_put_same qD3_map (by trivial) _⟩
theorem qD_summed (z : DataW Empty) : qD8.atKey (.string summedW) z = .lit (.int .i64 ((137 : Nat) : Int)) ∧ Maps.has qD8 (.string summedW) = true := by
  unfold qD8
  rw [atKey_put_other (show Lit.string summedW ≠ Lit.string wholeW from fun e => absurd (by injection e : summedW = wholeW) (by decide)), has_put_other (show Lit.string summedW ≠ Lit.string wholeW from fun e => absurd (by injection e : summedW = wholeW) (by decide))]
  unfold qD7
  rw [atKey_put_other (show Lit.string summedW ≠ Lit.string atomsW from fun e => absurd (by injection e : summedW = atomsW) (by decide)), has_put_other (show Lit.string summedW ≠ Lit.string atomsW from fun e => absurd (by injection e : summedW = atomsW) (by decide))]
  unfold qD6
  rw [atKey_put_other (show Lit.string summedW ≠ Lit.string classicalW from fun e => absurd (by injection e : summedW = classicalW) (by decide)), has_put_other (show Lit.string summedW ≠ Lit.string classicalW from fun e => absurd (by injection e : summedW = classicalW) (by decide))]
  unfold qD5
  exact ⟨atKey_put_same qD4_map (by trivial) _ _, has_put_same qD4_map (by trivial) _⟩
theorem qD_classical (z : DataW Empty) : qD8.atKey (.string classicalW) z = .lit (.int .i64 ((138 : Nat) : Int)) ∧ Maps.has qD8 (.string classicalW) = true := by
  unfold qD8
  rw [atKey_put_other (show Lit.string classicalW ≠ Lit.string wholeW from fun e => absurd (by injection e : classicalW = wholeW) (by decide)), has_put_other (show Lit.string classicalW ≠ Lit.string wholeW from fun e => absurd (by injection e : classicalW = wholeW) (by decide))]
  unfold qD7
  rw [atKey_put_other (show Lit.string classicalW ≠ Lit.string atomsW from fun e => absurd (by injection e : classicalW = atomsW) (by decide)), has_put_other (show Lit.string classicalW ≠ Lit.string atomsW from fun e => absurd (by injection e : classicalW = atomsW) (by decide))]
  unfold qD6
  exact ⟨atKey_put_same qD5_map (by trivial) _ _, has_put_same qD5_map (by trivial) _⟩
theorem qD_atoms (z : DataW Empty) : qD8.atKey (.string atomsW) z = .lit (.int .i64 ((139 : Nat) : Int)) ∧ Maps.has qD8 (.string atomsW) = true := by
  unfold qD8
  rw [atKey_put_other (show Lit.string atomsW ≠ Lit.string wholeW from fun e => absurd (by injection e : atomsW = wholeW) (by decide)), has_put_other (show Lit.string atomsW ≠ Lit.string wholeW from fun e => absurd (by injection e : atomsW = wholeW) (by decide))]
  unfold qD7
  exact ⟨atKey_put_same qD6_map (by trivial) _ _, has_put_same qD6_map (by trivial) _⟩
theorem qD_whole (z : DataW Empty) : qD8.atKey (.string wholeW) z = .lit (.int .i64 ((140 : Nat) : Int)) ∧ Maps.has qD8 (.string wholeW) = true := by
  unfold qD8
  exact ⟨atKey_put_same qD7_map (by trivial) _ _, has_put_same qD7_map (by trivial) _⟩
theorem qD_none {l : List UInt8} (h0 : l ≠ allW) (h1 : l ≠ companyW) (h2 : l ≠ weakW) (h3 : l ≠ strongW) (h4 : l ≠ summedW) (h5 : l ≠ classicalW) (h6 : l ≠ atomsW) (h7 : l ≠ wholeW) (z : DataW Empty) : qD8.atKey (.string l) z = z ∧ Maps.has qD8 (.string l) = false := by
  unfold qD8
  rw [atKey_put_other (show Lit.string l ≠ Lit.string wholeW from fun e => h7 (by injection e)), has_put_other (show Lit.string l ≠ Lit.string wholeW from fun e => h7 (by injection e))]
  unfold qD7
  rw [atKey_put_other (show Lit.string l ≠ Lit.string atomsW from fun e => h6 (by injection e)), has_put_other (show Lit.string l ≠ Lit.string atomsW from fun e => h6 (by injection e))]
  unfold qD6
  rw [atKey_put_other (show Lit.string l ≠ Lit.string classicalW from fun e => h5 (by injection e)), has_put_other (show Lit.string l ≠ Lit.string classicalW from fun e => h5 (by injection e))]
  unfold qD5
  rw [atKey_put_other (show Lit.string l ≠ Lit.string summedW from fun e => h4 (by injection e)), has_put_other (show Lit.string l ≠ Lit.string summedW from fun e => h4 (by injection e))]
  unfold qD4
  rw [atKey_put_other (show Lit.string l ≠ Lit.string strongW from fun e => h3 (by injection e)), has_put_other (show Lit.string l ≠ Lit.string strongW from fun e => h3 (by injection e))]
  unfold qD3
  rw [atKey_put_other (show Lit.string l ≠ Lit.string weakW from fun e => h2 (by injection e)), has_put_other (show Lit.string l ≠ Lit.string weakW from fun e => h2 (by injection e))]
  unfold qD2
  rw [atKey_put_other (show Lit.string l ≠ Lit.string companyW from fun e => h1 (by injection e)), has_put_other (show Lit.string l ≠ Lit.string companyW from fun e => h1 (by injection e))]
  unfold qD1
  rw [atKey_put_other (show Lit.string l ≠ Lit.string allW from fun e => h0 (by injection e)), has_put_other (show Lit.string l ≠ Lit.string allW from fun e => h0 (by injection e))]
  exact ⟨rfl, rfl⟩
def questionsEnd (w : World) (e : Ending) (w' : World) : Prop :=
  e = .returned (.map (some w.heap.size)) ∧ w'.ownsMap Tryz.prog 9 fnElem w.heap.size 8 qD8 ∧ Below w.heap.size w w'
theorem questions_zero (w : World) : (zeroValue 123).run Tryz.prog w = .ok .nilFunc w := by kernel_rfl
set_option maxRecDepth 100000 in
theorem questions_any (w : World) : Calls Tryz.prog 112 #[] w (questionsEnd w) := by
  have hmm := @run_makeMap Tryz.prog
  have hmf : ∀ (fn : Fn) (first cap : Array Value) (w : World), (Instr.makeFunc fn first cap).run Tryz.prog w = .ok (.func fn first cap) w := fun _ _ _ _ => rfl
  have o0 : (w.alloc (.map #[] 0)).ownsMap Tryz.prog 9 fnElem w.heap.size 0 qD0 := World.ownsMap_made w Tryz.prog 9 fnElem
  have hb0 := (Below.refl w.heap.size w).alloc (Nat.le_refl _) (.map #[] 0)
  obtain ⟨w1, r1, o1, g1⟩ := o0.update (key := .string { data := #[97, 108, 108] }) (kl := .string allW) (val := .func (.func 133) #[] #[]) law_string Tryz.underlying125 (by unfold maxLen; omega) (key_of { data := #[97, 108, 108] } (by decide)) (show fnElem (.func (.func 133) #[] #[]) = some (.lit (.int .i64 ((133 : Nat) : Int)), []) from rfl)
  have hb1 := hb0.grown g1 hb0.size (fun j hj => by cases hj; exact Nat.le_refl _)
  obtain ⟨w2, r2, o2, g2⟩ := o1.update (key := .string { data := #[99, 111, 109, 112, 97, 110, 121] }) (kl := .string companyW) (val := .func (.func 134) #[] #[]) law_string Tryz.underlying125 (by unfold maxLen; omega) (key_of { data := #[99, 111, 109, 112, 97, 110, 121] } (by decide)) (show fnElem (.func (.func 134) #[] #[]) = some (.lit (.int .i64 ((134 : Nat) : Int)), []) from rfl)
  have hb2 := hb1.grown g2 hb1.size (fun j hj => by cases hj; exact Nat.le_refl _)
  obtain ⟨w3, r3, o3, g3⟩ := o2.update (key := .string { data := #[119, 101, 97, 107] }) (kl := .string weakW) (val := .func (.func 135) #[] #[]) law_string Tryz.underlying125 (by unfold maxLen; omega) (key_of { data := #[119, 101, 97, 107] } (by decide)) (show fnElem (.func (.func 135) #[] #[]) = some (.lit (.int .i64 ((135 : Nat) : Int)), []) from rfl)
  have hb3 := hb2.grown g3 hb2.size (fun j hj => by cases hj; exact Nat.le_refl _)
  obtain ⟨w4, r4, o4, g4⟩ := o3.update (key := .string { data := #[115, 116, 114, 111, 110, 103] }) (kl := .string strongW) (val := .func (.func 136) #[] #[]) law_string Tryz.underlying125 (by unfold maxLen; omega) (key_of { data := #[115, 116, 114, 111, 110, 103] } (by decide)) (show fnElem (.func (.func 136) #[] #[]) = some (.lit (.int .i64 ((136 : Nat) : Int)), []) from rfl)
  have hb4 := hb3.grown g4 hb3.size (fun j hj => by cases hj; exact Nat.le_refl _)
  obtain ⟨w5, r5, o5, g5⟩ := o4.update (key := .string { data := #[115, 117, 109, 109, 101, 100] }) (kl := .string summedW) (val := .func (.func 137) #[] #[]) law_string Tryz.underlying125 (by unfold maxLen; omega) (key_of { data := #[115, 117, 109, 109, 101, 100] } (by decide)) (show fnElem (.func (.func 137) #[] #[]) = some (.lit (.int .i64 ((137 : Nat) : Int)), []) from rfl)
  have hb5 := hb4.grown g5 hb4.size (fun j hj => by cases hj; exact Nat.le_refl _)
  obtain ⟨w6, r6, o6, g6⟩ := o5.update (key := .string { data := #[99, 108, 97, 115, 115, 105, 99, 97, 108] }) (kl := .string classicalW) (val := .func (.func 138) #[] #[]) law_string Tryz.underlying125 (by unfold maxLen; omega) (key_of { data := #[99, 108, 97, 115, 115, 105, 99, 97, 108] } (by decide)) (show fnElem (.func (.func 138) #[] #[]) = some (.lit (.int .i64 ((138 : Nat) : Int)), []) from rfl)
  have hb6 := hb5.grown g6 hb5.size (fun j hj => by cases hj; exact Nat.le_refl _)
  obtain ⟨w7, r7, o7, g7⟩ := o6.update (key := .string { data := #[97, 116, 111, 109, 115] }) (kl := .string atomsW) (val := .func (.func 139) #[] #[]) law_string Tryz.underlying125 (by unfold maxLen; omega) (key_of { data := #[97, 116, 111, 109, 115] } (by decide)) (show fnElem (.func (.func 139) #[] #[]) = some (.lit (.int .i64 ((139 : Nat) : Int)), []) from rfl)
  have hb7 := hb6.grown g7 hb6.size (fun j hj => by cases hj; exact Nat.le_refl _)
  obtain ⟨w8, r8, o8, g8⟩ := o7.update (key := .string { data := #[119, 104, 111, 108, 101] }) (kl := .string wholeW) (val := .func (.func 140) #[] #[]) law_string Tryz.underlying125 (by unfold maxLen; omega) (key_of { data := #[119, 104, 111, 108, 101] } (by decide)) (show fnElem (.func (.func 140) #[] #[]) = some (.lit (.int .i64 ((140 : Nat) : Int)), []) from rfl)
  have hb8 := hb7.grown g8 hb7.size (fun j hj => by cases hj; exact Nat.le_refl _)
  clear g1 g2 g3 g4 g5 g6 g7 g8 hb0 hb1 hb2 hb3 hb4 hb5 hb6 hb7 o0 o1 o2 o3 o4 o5 o6 o7
  have HO := Lib.hid o8; have HB := Lib.hid hb8
  clear o8 hb8
  go_enter Tryz.func112, Tryz.ntmps112
  go_wp2_with fail
  go_ret
  exact ⟨rfl, HO.out, HB.out⟩
theorem questions_look (w : World) (b : Nat) (h : w.ownsMap Tryz.prog 9 fnElem b 8 qD8) (nm : ByteArray) (hs : nm.size ≤ maxLen) (K : Nat)
    (hat : ∀ z, qD8.atKey (.string nm.data.toList) z = .lit (.int .i64 (K : Int)) ∧ Maps.has qD8 (.string nm.data.toList) = true) :
    (Instr.lookup 125 (.map (some b)) (.string nm) true).run Tryz.prog w = .ok (.tuple #[.func (.func K) #[] #[], .bool true]) w := by
  obtain ⟨v, ps, hrun, hv⟩ := h.look_ok law_string Tryz.underlying125 (questions_zero w) (show fnElem .nilFunc = some (.lit (.bool false), []) from rfl) (key_of nm hs)
  rw [(hat _).1] at hv
  rw [(hat (.lit (.bool false))).2, fnElem_func hv] at hrun
  exact hrun
theorem questions_miss (w : World) (b : Nat) (h : w.ownsMap Tryz.prog 9 fnElem b 8 qD8) (nm : ByteArray) (hs : nm.size ≤ maxLen)
    (hat : ∀ z, qD8.atKey (.string nm.data.toList) z = z ∧ Maps.has qD8 (.string nm.data.toList) = false) :
    (Instr.lookup 125 (.map (some b)) (.string nm) true).run Tryz.prog w = .ok (.tuple #[.nilFunc, .bool false]) w := by
  obtain ⟨v, ps, hrun, hv⟩ := h.look_ok law_string Tryz.underlying125 (questions_zero w) (show fnElem .nilFunc = some (.lit (.bool false), []) from rfl) (key_of nm hs)
  rw [(hat _).1] at hv
  rw [(hat (.lit (.bool false))).2, fnElem_nil hv] at hrun
  exact hrun
def tD0 : DataW Empty := DataW.map []
def tD1 : DataW Empty := tD0.put (.string sumW) (.lit (.int .i64 ((141 : Nat) : Int)))
def tD2 : DataW Empty := tD1.put (.string commonW) (.lit (.int .i64 ((142 : Nat) : Int)))
def tD3 : DataW Empty := tD2.put (.string leftW) (.lit (.int .i64 ((143 : Nat) : Int)))
theorem tD0_map : IsMap tD0 := isMap_empty
theorem tD1_map : IsMap tD1 := tD0_map.put _ _
theorem tD2_map : IsMap tD2 := tD1_map.put _ _
theorem tD_sum (z : DataW Empty) : tD3.atKey (.string sumW) z = .lit (.int .i64 ((141 : Nat) : Int)) ∧ Maps.has tD3 (.string sumW) = true := by
  unfold tD3
  rw [atKey_put_other (show Lit.string sumW ≠ Lit.string leftW from fun e => absurd (by injection e : sumW = leftW) (by decide)), has_put_other (show Lit.string sumW ≠ Lit.string leftW from fun e => absurd (by injection e : sumW = leftW) (by decide))]
  unfold tD2
  rw [atKey_put_other (show Lit.string sumW ≠ Lit.string commonW from fun e => absurd (by injection e : sumW = commonW) (by decide)), has_put_other (show Lit.string sumW ≠ Lit.string commonW from fun e => absurd (by injection e : sumW = commonW) (by decide))]
  unfold tD1
  exact ⟨atKey_put_same tD0_map (by trivial) _ _, has_put_same tD0_map (by trivial) _⟩
theorem tD_common (z : DataW Empty) : tD3.atKey (.string commonW) z = .lit (.int .i64 ((142 : Nat) : Int)) ∧ Maps.has tD3 (.string commonW) = true := by
  unfold tD3
  rw [atKey_put_other (show Lit.string commonW ≠ Lit.string leftW from fun e => absurd (by injection e : commonW = leftW) (by decide)), has_put_other (show Lit.string commonW ≠ Lit.string leftW from fun e => absurd (by injection e : commonW = leftW) (by decide))]
  unfold tD2
  exact ⟨atKey_put_same tD1_map (by trivial) _ _, has_put_same tD1_map (by trivial) _⟩
theorem tD_left (z : DataW Empty) : tD3.atKey (.string leftW) z = .lit (.int .i64 ((143 : Nat) : Int)) ∧ Maps.has tD3 (.string leftW) = true := by
  unfold tD3
  exact ⟨atKey_put_same tD2_map (by trivial) _ _, has_put_same tD2_map (by trivial) _⟩
theorem tD_none {l : List UInt8} (h0 : l ≠ sumW) (h1 : l ≠ commonW) (h2 : l ≠ leftW) (z : DataW Empty) : tD3.atKey (.string l) z = z ∧ Maps.has tD3 (.string l) = false := by
  unfold tD3
  rw [atKey_put_other (show Lit.string l ≠ Lit.string leftW from fun e => h2 (by injection e)), has_put_other (show Lit.string l ≠ Lit.string leftW from fun e => h2 (by injection e))]
  unfold tD2
  rw [atKey_put_other (show Lit.string l ≠ Lit.string commonW from fun e => h1 (by injection e)), has_put_other (show Lit.string l ≠ Lit.string commonW from fun e => h1 (by injection e))]
  unfold tD1
  rw [atKey_put_other (show Lit.string l ≠ Lit.string sumW from fun e => h0 (by injection e)), has_put_other (show Lit.string l ≠ Lit.string sumW from fun e => h0 (by injection e))]
  exact ⟨rfl, rfl⟩
def questionsOfTwoEnd (w : World) (e : Ending) (w' : World) : Prop :=
  e = .returned (.map (some w.heap.size)) ∧ w'.ownsMap Tryz.prog 9 fnElem w.heap.size 3 tD3 ∧ Below w.heap.size w w'
theorem questionsOfTwo_zero (w : World) : (zeroValue 127).run Tryz.prog w = .ok .nilFunc w := by kernel_rfl
set_option maxRecDepth 100000 in
theorem questionsOfTwo_any (w : World) : Calls Tryz.prog 113 #[] w (questionsOfTwoEnd w) := by
  have hmm := @run_makeMap Tryz.prog
  have hmf : ∀ (fn : Fn) (first cap : Array Value) (w : World), (Instr.makeFunc fn first cap).run Tryz.prog w = .ok (.func fn first cap) w := fun _ _ _ _ => rfl
  have o0 : (w.alloc (.map #[] 0)).ownsMap Tryz.prog 9 fnElem w.heap.size 0 tD0 := World.ownsMap_made w Tryz.prog 9 fnElem
  have hb0 := (Below.refl w.heap.size w).alloc (Nat.le_refl _) (.map #[] 0)
  obtain ⟨w1, r1, o1, g1⟩ := o0.update (key := .string { data := #[115, 117, 109] }) (kl := .string sumW) (val := .func (.func 141) #[] #[]) law_string Tryz.underlying129 (by unfold maxLen; omega) (key_of { data := #[115, 117, 109] } (by decide)) (show fnElem (.func (.func 141) #[] #[]) = some (.lit (.int .i64 ((141 : Nat) : Int)), []) from rfl)
  have hb1 := hb0.grown g1 hb0.size (fun j hj => by cases hj; exact Nat.le_refl _)
  obtain ⟨w2, r2, o2, g2⟩ := o1.update (key := .string { data := #[99, 111, 109, 109, 111, 110] }) (kl := .string commonW) (val := .func (.func 142) #[] #[]) law_string Tryz.underlying129 (by unfold maxLen; omega) (key_of { data := #[99, 111, 109, 109, 111, 110] } (by decide)) (show fnElem (.func (.func 142) #[] #[]) = some (.lit (.int .i64 ((142 : Nat) : Int)), []) from rfl)
  have hb2 := hb1.grown g2 hb1.size (fun j hj => by cases hj; exact Nat.le_refl _)
  obtain ⟨w3, r3, o3, g3⟩ := o2.update (key := .string { data := #[108, 101, 102, 116] }) (kl := .string leftW) (val := .func (.func 143) #[] #[]) law_string Tryz.underlying129 (by unfold maxLen; omega) (key_of { data := #[108, 101, 102, 116] } (by decide)) (show fnElem (.func (.func 143) #[] #[]) = some (.lit (.int .i64 ((143 : Nat) : Int)), []) from rfl)
  have hb3 := hb2.grown g3 hb2.size (fun j hj => by cases hj; exact Nat.le_refl _)
  clear g1 g2 g3 hb0 hb1 hb2 o0 o1 o2
  have HO := Lib.hid o3; have HB := Lib.hid hb3
  clear o3 hb3
  go_enter Tryz.func113, Tryz.ntmps113
  go_wp2_with fail
  go_ret
  exact ⟨rfl, HO.out, HB.out⟩
theorem questionsOfTwo_look (w : World) (b : Nat) (h : w.ownsMap Tryz.prog 9 fnElem b 3 tD3) (nm : ByteArray) (hs : nm.size ≤ maxLen) (K : Nat)
    (hat : ∀ z, tD3.atKey (.string nm.data.toList) z = .lit (.int .i64 (K : Int)) ∧ Maps.has tD3 (.string nm.data.toList) = true) :
    (Instr.lookup 129 (.map (some b)) (.string nm) true).run Tryz.prog w = .ok (.tuple #[.func (.func K) #[] #[], .bool true]) w := by
  obtain ⟨v, ps, hrun, hv⟩ := h.look_ok law_string Tryz.underlying129 (questionsOfTwo_zero w) (show fnElem .nilFunc = some (.lit (.bool false), []) from rfl) (key_of nm hs)
  rw [(hat _).1] at hv
  rw [(hat (.lit (.bool false))).2, fnElem_func hv] at hrun
  exact hrun
theorem questionsOfTwo_miss (w : World) (b : Nat) (h : w.ownsMap Tryz.prog 9 fnElem b 3 tD3) (nm : ByteArray) (hs : nm.size ≤ maxLen)
    (hat : ∀ z, tD3.atKey (.string nm.data.toList) z = z ∧ Maps.has tD3 (.string nm.data.toList) = false) :
    (Instr.lookup 129 (.map (some b)) (.string nm) true).run Tryz.prog w = .ok (.tuple #[.nilFunc, .bool false]) w := by
  obtain ⟨v, ps, hrun, hv⟩ := h.look_ok law_string Tryz.underlying129 (questionsOfTwo_zero w) (show fnElem .nilFunc = some (.lit (.bool false), []) from rfl) (key_of nm hs)
  rw [(hat _).1] at hv
  rw [(hat (.lit (.bool false))).2, fnElem_nil hv] at hrun
  exact hrun
theorem cut_len (l : List UInt8) : (cut1 l).length ≤ l.length ∧ (cut2 l).length ≤ l.length := by
  rcases cut_parts l with ⟨h1, h2, _⟩ | ⟨h1, _⟩
  · rw [h1, h2]; exact ⟨Nat.le_refl _, Nat.zero_le _⟩
  · have := congrArg List.length h1
    rw [List.length_append, List.length_cons] at this
    exact ⟨by omega, by omega⟩
set_option maxRecDepth 100000 in
theorem answer_ask (K : Nat) (d : Value) (xs : List Int) (L : List (List Int)) (t : ByteArray) (A : List UInt8) (hts : t.size ≤ maxLen)
    (hat : ∀ z, qD8.atKey (.string t.data.toList) z = .lit (.int .i64 (K : Int)) ∧ Maps.has qD8 (.string t.data.toList) = true)
    (hE : ∀ (args : Array Value) (w : World), Sem.run Tryz.prog (callFunc K args) w = .ok (.enter K args) w)
    (hF : Hid (∀ W, DeskR W d xs L → TabW W → Calls Tryz.prog K #[d] W (Txt A W))) (w : World) (h : DeskR w d xs L) (hT : TabW w) :
    Calls Tryz.prog 53 #[d, .string t] w (Txt A w) := by
  have hdd := h
  obtain ⟨a, c, b, c2, rfl, _⟩ := h.parts
  have q1 := alloc_below w (.cells #[.slice a xs.length c, .slice b L.length c2] 31)
  have HV := Lib.hid (VarD.new hdd)
  have HB := Lib.hid q1
  have HT := Lib.hid (hT.below q1)
  obtain ⟨w1, hw1⟩ : ∃ w1, w.alloc (.cells #[.slice a xs.length c, .slice b L.length c2] 31) = w1 := ⟨_, rfl⟩
  rw [hw1] at HV HB HT
  have hd0 := HV.out.blk.cell.1; have hd1 := HV.out.blk.cell.2
  clear h hdd q1 hT
  have HAT := Lib.hid hat
  clear hat
  go_enter Tryz.func53, Tryz.ntmps53
  go_wp2_with fail
  clear hw1
  refine (questions_any _).mono ?_
  rintro e w2 ⟨rfl, hown, hb⟩
  have hlook := questions_look w2 _ hown t hts K HAT.out
  replace HV := Lib.hid (HV.out.kept hb); replace HB := Lib.hid (below_onto HB.out hb); replace HT := Lib.hid (HT.out.below hb)
  clear hown hb hd0 hd1
  have hd0 := HV.out.blk.cell.1; have hd1 := HV.out.blk.cell.2
  go_wp2_with fail
  refine (hF.out _ HV.out.d HT.out).mono ?_
  rintro e w3 ⟨rfl, hb⟩
  replace HB := Lib.hid (below_onto HB.out hb)
  clear hb
  go_wp2_with fail
  go_ret
  exact ⟨rfl, HB.out⟩
set_option maxRecDepth 100000 in
theorem answer_what (d : Value) (xs : List Int) (L : List (List Int)) (t : ByteArray) (v : Value) (okb : Bool) (hts : t.size ≤ 1048600)
    (hat : ∀ z, qD8.atKey (.string t.data.toList) z = z ∧ Maps.has qD8 (.string t.data.toList) = false)
    (hlk : ∀ W b, W.ownsMap Tryz.prog 9 fnElem b 3 tD3 → (Instr.lookup 129 (.map (some b)) (.string (bs (cut1 t.data.toList))) true).run Tryz.prog W = .ok (.tuple #[v, .bool okb]) W)
    (hno : okb = false ∨ pA xs t.data.toList < 0 ∨ pB xs t.data.toList < 0) (hf : famL xs = true) (w : World) (h : DeskR w d xs L) (hT : TabW w) :
    Calls Tryz.prog 53 #[d, .string t] w (Txt whatW w) := by
  obtain ⟨c1, hc1⟩ : ∃ c1, bs (cut1 t.data.toList) = c1 := ⟨_, rfl⟩
  obtain ⟨c2', hc2⟩ : ∃ c2', bs (cut2 t.data.toList) = c2' := ⟨_, rfl⟩
  obtain ⟨u1, hu1⟩ : ∃ u1, bs (cut1 (cut2 t.data.toList)) = u1 := ⟨_, rfl⟩
  obtain ⟨u2, hu2⟩ : ∃ u2, bs (cut2 (cut2 t.data.toList)) = u2 := ⟨_, rfl⟩
  obtain ⟨p, hp⟩ : ∃ p, pA xs t.data.toList = p := ⟨_, rfl⟩
  obtain ⟨q, hq⟩ : ∃ q, pB xs t.data.toList = q := ⟨_, rfl⟩
  have hd2 : c2'.data.toList = cut2 t.data.toList := by rw [← hc2]; rfl
  have hz2 : c2'.size ≤ t.size := by rw [← hc2, bs_size]; exact (cut_len _).2
  have HM := Lib.hid (show ∀ W b, W.ownsMap Tryz.prog 9 fnElem b 8 qD8 → (Instr.lookup 125 (.map (some b)) (.string t) true).run Tryz.prog W = .ok (.tuple #[.nilFunc, .bool false]) W from fun W b hW => questions_miss W b hW t (by unfold maxLen; omega) hat)
  have HL2 := Lib.hid (show ∀ W b, W.ownsMap Tryz.prog 9 fnElem b 3 tD3 → (Instr.lookup 129 (.map (some b)) (.string c1) true).run Tryz.prog W = .ok (.tuple #[v, .bool okb]) W from fun W b hW => by rw [← hc1]; exact hlk W b hW)
  have HCUT1 := Lib.hid (show ∀ W, Calls Tryz.prog 104 #[.string t, .string { data := #[32] }] W fun e w' => ∃ b, e = .returned (.tuple #[.string c1, .string c2', .bool b]) ∧ Below W.heap.size W w' from fun W => (Cut_space t (by omega) W).mono fun e w' ⟨b, he, hd⟩ => ⟨b, by rw [he, hc1, hc2], hd.below⟩)
  have HCUT2 := Lib.hid (show ∀ W, Calls Tryz.prog 104 #[.string c2', .string { data := #[32] }] W fun e w' => ∃ b, e = .returned (.tuple #[.string u1, .string u2, .bool b]) ∧ Below W.heap.size W w' from fun W => (Cut_space c2' (by omega) W).mono fun e w' ⟨b, he, hd⟩ => ⟨b, by rw [he, hd2, hu1, hu2], hd.below⟩)
  have HPL1 := Lib.hid (show ∀ W d, DeskR W d xs L → Calls Tryz.prog 114 #[d, .string u1] W fun e w' => e = .returned (.int .i64 p) ∧ Below W.heap.size W w' from fun W d hW => by
    have := place_any d xs L u1 hf W hW
    rw [show u1.data.toList = cut1 (cut2 t.data.toList) by rw [← hu1]; rfl] at this
    rw [← hp]
    exact this)
  have HPL2 := Lib.hid (show ∀ W d, DeskR W d xs L → Calls Tryz.prog 114 #[d, .string u2] W fun e w' => e = .returned (.int .i64 q) ∧ Below W.heap.size W w' from fun W d hW => by
    have := place_any d xs L u2 hf W hW
    rw [show u2.data.toList = cut2 (cut2 t.data.toList) by rw [← hu2]; rfl] at this
    rw [← hq]
    exact this)
  rw [hp, hq] at hno
  have hvn : ∃ x1 : Bool, okb = x1 := ⟨_, rfl⟩
  have HE := Lib.hid (show ({ data := #[119, 104, 97, 116] } : ByteArray) = bs whatW from rfl)
  clear hc1 hc2 hu1 hu2 hp hq hd2 hz2 hat hlk hvn
  have hdd := h
  obtain ⟨a, c, b, c2, rfl, _⟩ := h.parts
  have q1 := alloc_below w (.cells #[.slice a xs.length c, .slice b L.length c2] 31)
  have HV := Lib.hid (VarD.new hdd)
  have HB := Lib.hid q1
  have HT := Lib.hid (hT.below q1)
  obtain ⟨w1, hw1⟩ : ∃ w1, w.alloc (.cells #[.slice a xs.length c, .slice b L.length c2] 31) = w1 := ⟨_, rfl⟩
  rw [hw1] at HV HB HT
  have hd0 := HV.out.blk.cell.1; have hd1 := HV.out.blk.cell.2
  clear h hdd q1 hT
  go_enter Tryz.func53, Tryz.ntmps53
  go_wp2_with fail
  clear hw1
  refine (questions_any _).mono ?_
  rintro e w2 ⟨rfl, hown, hb⟩
  have hlook := HM.out w2 _ hown
  replace HV := Lib.hid (HV.out.kept hb); replace HB := Lib.hid (below_onto HB.out hb); replace HT := Lib.hid (HT.out.below hb)
  clear hown hb hd0 hd1
  have hd0 := HV.out.blk.cell.1; have hd1 := HV.out.blk.cell.2
  go_wp2_with fail
  refine (HCUT1.out _).mono ?_
  rintro e w3 ⟨b1, rfl, hb⟩
  replace HV := Lib.hid (HV.out.kept hb); replace HB := Lib.hid (below_onto HB.out hb); replace HT := Lib.hid (HT.out.below hb)
  clear hb hlook hd0 hd1
  go_wp2_with fail
  refine (HCUT2.out _).mono ?_
  rintro e w4 ⟨b2, rfl, hb⟩
  replace HV := Lib.hid (HV.out.kept hb); replace HB := Lib.hid (below_onto HB.out hb); replace HT := Lib.hid (HT.out.below hb)
  clear hb
  go_wp2_with fail
  refine (questionsOfTwo_any _).mono ?_
  rintro e w5 ⟨rfl, hown, hb⟩
  have hlook2 := HL2.out w5 _ hown
  replace HV := Lib.hid (HV.out.kept hb); replace HB := Lib.hid (below_onto HB.out hb); replace HT := Lib.hid (HT.out.below hb)
  clear hown hb
  have HS := Lib.hid (show ∀ W, Below w5.heap.size w5 W → (W.cell? ⟨w.heap.size, 0, none⟩ = some (.slice a xs.length c) ∧ W.cell? ⟨w.heap.size, 1, none⟩ = some (.slice b L.length c2)) from fun W hW => (HV.out.kept hW).blk.cell)
  have HB6 := Lib.hid (Below.refl w5.heap.size w5)
  go_upto_region 7 with fail
  clear hlook2
  go_region_held3 (fun W => W.cell? ⟨w.heap.size, 0, none⟩ = some (.slice a xs.length c) ∧ W.cell? ⟨w.heap.size, 1, none⟩ = some (.slice b L.length c2)) (first | exact HS.out _ HB6.out | exact HS.out _ HB6.out.drew | exact HS.out _ (below_drewN HB6.out _) | go_keep)
    (first | (go_at_call 114; go_fit (HPL1.out _ _ (HV.out.d.kept (by first | with_reducible exact HB6.out | with_reducible exact HB6.out.drew | with_reducible exact below_drewN HB6.out _))); rintro e w7 ⟨rfl, hb⟩; have HZ := Lib.hid (below_onto (show Below w5.heap.size w5 _ from (by first | with_reducible exact HB6.out | with_reducible exact HB6.out.drew | with_reducible exact below_drewN HB6.out _)) hb); clear HB6; have HB6 := HZ; clear HZ; clear hb) | (go_at_call 114; go_fit (HPL2.out _ _ (HV.out.d.kept (by first | with_reducible exact HB6.out | with_reducible exact HB6.out.drew | with_reducible exact below_drewN HB6.out _))); rintro e w7 ⟨rfl, hb⟩; have HZ := Lib.hid (below_onto (show Below w5.heap.size w5 _ from (by first | with_reducible exact HB6.out | with_reducible exact HB6.out.drew | with_reducible exact below_drewN HB6.out _)) hb); clear HB6; have HB6 := HZ; clear HZ; clear hb))
  all_goals
    have HBZ := Lib.hid (show Below w.heap.size w _ from below_onto HB.out HB6.out)
    rcases hno with hno | hno | hno
    · subst hno
      go_wp2_with fail
      go_ret
      exact ⟨rets HE.out, by first | exact HBZ.out | exact HBZ.out.drew | exact below_drewN HBZ.out _⟩
    · have h1 : decide (p < 0) = true := decide_eq_true hno
      cases okb <;>
      · go_wp2_with fail
        go_ret
        exact ⟨rets HE.out, by first | exact HBZ.out | exact HBZ.out.drew | exact below_drewN HBZ.out _⟩
    · have h1 : decide (q < 0) = true := decide_eq_true hno
      cases okb with
      | false =>
        go_wp2_with fail
        go_ret
        exact ⟨rets HE.out, by first | exact HBZ.out | exact HBZ.out.drew | exact below_drewN HBZ.out _⟩
      | true =>
        cases hpp : decide (p < 0) <;>
        · go_wp2_with fail
          go_ret
          exact ⟨rets HE.out, by first | exact HBZ.out | exact HBZ.out.drew | exact below_drewN HBZ.out _⟩
set_option maxRecDepth 100000 in
theorem answer_two (K : Nat) (d : Value) (xs : List Int) (L : List (List Int)) (t : ByteArray) (v : Value) (okb : Bool) (A : List UInt8) (hts : t.size ≤ 1048600)
    (hat : ∀ z, qD8.atKey (.string t.data.toList) z = z ∧ Maps.has qD8 (.string t.data.toList) = false)
    (hlk : ∀ W b, W.ownsMap Tryz.prog 9 fnElem b 3 tD3 → (Instr.lookup 129 (.map (some b)) (.string (bs (cut1 t.data.toList))) true).run Tryz.prog W = .ok (.tuple #[v, .bool okb]) W)
    (hv : v = .func (.func K) #[] #[]) (hok : okb = true) (hp0 : 0 ≤ pA xs t.data.toList) (hq0 : 0 ≤ pB xs t.data.toList)
    (hE : ∀ (args : Array Value) (w : World), Sem.run Tryz.prog (callFunc K args) w = .ok (.enter K args) w)
    (hF : Hid (∀ W, DeskR W d xs L → TabW W → Calls Tryz.prog K #[d, .int .i64 (pA xs t.data.toList), .int .i64 (pB xs t.data.toList)] W (Txt A W)))
    (hf : famL xs = true) (w : World) (h : DeskR w d xs L) (hT : TabW w) :
    Calls Tryz.prog 53 #[d, .string t] w (Txt A w) := by
  obtain ⟨c1, hc1⟩ : ∃ c1, bs (cut1 t.data.toList) = c1 := ⟨_, rfl⟩
  obtain ⟨c2', hc2⟩ : ∃ c2', bs (cut2 t.data.toList) = c2' := ⟨_, rfl⟩
  obtain ⟨u1, hu1⟩ : ∃ u1, bs (cut1 (cut2 t.data.toList)) = u1 := ⟨_, rfl⟩
  obtain ⟨u2, hu2⟩ : ∃ u2, bs (cut2 (cut2 t.data.toList)) = u2 := ⟨_, rfl⟩
  obtain ⟨p, hp⟩ : ∃ p, pA xs t.data.toList = p := ⟨_, rfl⟩
  obtain ⟨q, hq⟩ : ∃ q, pB xs t.data.toList = q := ⟨_, rfl⟩
  have hd2 : c2'.data.toList = cut2 t.data.toList := by rw [← hc2]; rfl
  have hz2 : c2'.size ≤ t.size := by rw [← hc2, bs_size]; exact (cut_len _).2
  have HM := Lib.hid (show ∀ W b, W.ownsMap Tryz.prog 9 fnElem b 8 qD8 → (Instr.lookup 125 (.map (some b)) (.string t) true).run Tryz.prog W = .ok (.tuple #[.nilFunc, .bool false]) W from fun W b hW => questions_miss W b hW t (by unfold maxLen; omega) hat)
  have HL2 := Lib.hid (show ∀ W b, W.ownsMap Tryz.prog 9 fnElem b 3 tD3 → (Instr.lookup 129 (.map (some b)) (.string c1) true).run Tryz.prog W = .ok (.tuple #[v, .bool okb]) W from fun W b hW => by rw [← hc1]; exact hlk W b hW)
  have HCUT1 := Lib.hid (show ∀ W, Calls Tryz.prog 104 #[.string t, .string { data := #[32] }] W fun e w' => ∃ b, e = .returned (.tuple #[.string c1, .string c2', .bool b]) ∧ Below W.heap.size W w' from fun W => (Cut_space t (by omega) W).mono fun e w' ⟨b, he, hd⟩ => ⟨b, by rw [he, hc1, hc2], hd.below⟩)
  have HCUT2 := Lib.hid (show ∀ W, Calls Tryz.prog 104 #[.string c2', .string { data := #[32] }] W fun e w' => ∃ b, e = .returned (.tuple #[.string u1, .string u2, .bool b]) ∧ Below W.heap.size W w' from fun W => (Cut_space c2' (by omega) W).mono fun e w' ⟨b, he, hd⟩ => ⟨b, by rw [he, hd2, hu1, hu2], hd.below⟩)
  have HPL1 := Lib.hid (show ∀ W d, DeskR W d xs L → Calls Tryz.prog 114 #[d, .string u1] W fun e w' => e = .returned (.int .i64 p) ∧ Below W.heap.size W w' from fun W d hW => by
    have := place_any d xs L u1 hf W hW
    rw [show u1.data.toList = cut1 (cut2 t.data.toList) by rw [← hu1]; rfl] at this
    rw [← hp]
    exact this)
  have HPL2 := Lib.hid (show ∀ W d, DeskR W d xs L → Calls Tryz.prog 114 #[d, .string u2] W fun e w' => e = .returned (.int .i64 q) ∧ Below W.heap.size W w' from fun W d hW => by
    have := place_any d xs L u2 hf W hW
    rw [show u2.data.toList = cut2 (cut2 t.data.toList) by rw [← hu2]; rfl] at this
    rw [← hq]
    exact this)
  rw [hp] at hp0 hF
  rw [hq] at hq0 hF
  have h1 : decide (p < 0) = false := decide_eq_false (by omega)
  have h2 : decide (q < 0) = false := decide_eq_false (by omega)
  subst hv; subst hok
  clear hc1 hc2 hu1 hu2 hp hq hd2 hz2 hat hlk
  have hdd := h
  obtain ⟨a, c, b, c2, rfl, _⟩ := h.parts
  have q1 := alloc_below w (.cells #[.slice a xs.length c, .slice b L.length c2] 31)
  have HV := Lib.hid (VarD.new hdd)
  have HB := Lib.hid q1
  have HT := Lib.hid (hT.below q1)
  obtain ⟨w1, hw1⟩ : ∃ w1, w.alloc (.cells #[.slice a xs.length c, .slice b L.length c2] 31) = w1 := ⟨_, rfl⟩
  rw [hw1] at HV HB HT
  have hd0 := HV.out.blk.cell.1; have hd1 := HV.out.blk.cell.2
  clear h hdd q1 hT
  go_enter Tryz.func53, Tryz.ntmps53
  go_wp2_with fail
  clear hw1
  refine (questions_any _).mono ?_
  rintro e w2 ⟨rfl, hown, hb⟩
  have hlook := HM.out w2 _ hown
  replace HV := Lib.hid (HV.out.kept hb); replace HB := Lib.hid (below_onto HB.out hb); replace HT := Lib.hid (HT.out.below hb)
  clear hown hb hd0 hd1
  have hd0 := HV.out.blk.cell.1; have hd1 := HV.out.blk.cell.2
  go_wp2_with fail
  refine (HCUT1.out _).mono ?_
  rintro e w3 ⟨b1, rfl, hb⟩
  replace HV := Lib.hid (HV.out.kept hb); replace HB := Lib.hid (below_onto HB.out hb); replace HT := Lib.hid (HT.out.below hb)
  clear hb hlook hd0 hd1
  go_wp2_with fail
  refine (HCUT2.out _).mono ?_
  rintro e w4 ⟨b2, rfl, hb⟩
  replace HV := Lib.hid (HV.out.kept hb); replace HB := Lib.hid (below_onto HB.out hb); replace HT := Lib.hid (HT.out.below hb)
  clear hb
  go_wp2_with fail
  refine (questionsOfTwo_any _).mono ?_
  rintro e w5 ⟨rfl, hown, hb⟩
  have hlook2 := HL2.out w5 _ hown
  replace HV := Lib.hid (HV.out.kept hb); replace HB := Lib.hid (below_onto HB.out hb); replace HT := Lib.hid (HT.out.below hb)
  clear hown hb
  have HS := Lib.hid (show ∀ W, Below w5.heap.size w5 W → (W.cell? ⟨w.heap.size, 0, none⟩ = some (.slice a xs.length c) ∧ W.cell? ⟨w.heap.size, 1, none⟩ = some (.slice b L.length c2)) from fun W hW => (HV.out.kept hW).blk.cell)
  have HB6 := Lib.hid (Below.refl w5.heap.size w5)
  go_upto_region 7 with fail
  clear hlook2
  go_region_held3 (fun W => W.cell? ⟨w.heap.size, 0, none⟩ = some (.slice a xs.length c) ∧ W.cell? ⟨w.heap.size, 1, none⟩ = some (.slice b L.length c2)) (first | exact HS.out _ HB6.out | exact HS.out _ HB6.out.drew | exact HS.out _ (below_drewN HB6.out _) | go_keep)
    (first | (go_at_call 114; go_fit (HPL1.out _ _ (HV.out.d.kept (by first | with_reducible exact HB6.out | with_reducible exact HB6.out.drew | with_reducible exact below_drewN HB6.out _))); rintro e w7 ⟨rfl, hb⟩; have HZ := Lib.hid (below_onto (show Below w5.heap.size w5 _ from (by first | with_reducible exact HB6.out | with_reducible exact HB6.out.drew | with_reducible exact below_drewN HB6.out _)) hb); clear HB6; have HB6 := HZ; clear HZ; clear hb) | (go_at_call 114; go_fit (HPL2.out _ _ (HV.out.d.kept (by first | with_reducible exact HB6.out | with_reducible exact HB6.out.drew | with_reducible exact below_drewN HB6.out _))); rintro e w7 ⟨rfl, hb⟩; have HZ := Lib.hid (below_onto (show Below w5.heap.size w5 _ from (by first | with_reducible exact HB6.out | with_reducible exact HB6.out.drew | with_reducible exact below_drewN HB6.out _)) hb); clear HB6; have HB6 := HZ; clear HZ; clear hb))
  all_goals
    have HV6 := Lib.hid (HV.out.kept (by first | with_reducible exact HB6.out | with_reducible exact HB6.out.drew | with_reducible exact below_drewN HB6.out _))
    have HT6 := Lib.hid (HT.out.below (by first | with_reducible exact HB6.out | with_reducible exact HB6.out.drew | with_reducible exact below_drewN HB6.out _))
    have HBZ := Lib.hid (show Below w.heap.size w _ from below_onto HB.out (by first | with_reducible exact HB6.out | with_reducible exact HB6.out.drew | with_reducible exact below_drewN HB6.out _))
    have hd0 := HV6.out.blk.cell.1; have hd1 := HV6.out.blk.cell.2
    go_wp2_with fail
    refine (hF.out _ HV6.out.d HT6.out).mono ?_
    rintro e w8 ⟨rfl, hb⟩
    replace HBZ := Lib.hid (below_onto HBZ.out hb)
    clear hb
    go_wp2_with fail
    go_ret
    exact ⟨rfl, HBZ.out⟩
theorem answer_any (d : Value) (xs : List Int) (L : List (List Int)) (t : ByteArray) (hts : t.size ≤ 1048600) (hf : famL xs = true) (w : World) (h : DeskR w d xs L) (hT : TabW w) :
    Calls Tryz.prog 53 #[d, .string t] w (Txt (ansW xs t.data.toList) w) := by
  have hm : t.size ≤ maxLen := by unfold maxLen; omega
  by_cases h0 : t.data.toList = allW
  · rw [show ansW xs t.data.toList = allA xs by unfold ansW; rw [if_pos h0]]
    exact answer_ask 133 d xs L t _ hm (fun z => by rw [h0]; exact qD_all z) (enters_of Tryz.func133 (by kernel_rfl) rfl) (Lib.hid (fun W hW hT => allM_any d xs L hf W hW hT)) w h hT
  by_cases h1 : t.data.toList = companyW
  · rw [show ansW xs t.data.toList = companyA xs by unfold ansW; rw [if_neg h0, if_pos h1]]
    exact answer_ask 134 d xs L t _ hm (fun z => by rw [h1]; exact qD_company z) (enters_of Tryz.func134 (by kernel_rfl) rfl) (Lib.hid (fun W hW _ => companyM_any d xs L hf W hW)) w h hT
  by_cases h2 : t.data.toList = weakW
  · rw [show ansW xs t.data.toList = weakA xs by unfold ansW; rw [if_neg h0, if_neg h1, if_pos h2]]
    exact answer_ask 135 d xs L t _ hm (fun z => by rw [h2]; exact qD_weak z) (enters_of Tryz.func135 (by kernel_rfl) rfl) (Lib.hid (fun W hW _ => weakM_any d xs L hf W hW)) w h hT
  by_cases h3 : t.data.toList = strongW
  · rw [show ansW xs t.data.toList = strongA xs by unfold ansW; rw [if_neg h0, if_neg h1, if_neg h2, if_pos h3]]
    exact answer_ask 136 d xs L t _ hm (fun z => by rw [h3]; exact qD_strong z) (enters_of Tryz.func136 (by kernel_rfl) rfl) (Lib.hid (fun W hW _ => strongM_any d xs L hf W hW)) w h hT
  by_cases h4 : t.data.toList = summedW
  · rw [show ansW xs t.data.toList = summedA xs by unfold ansW; rw [if_neg h0, if_neg h1, if_neg h2, if_neg h3, if_pos h4]]
    exact answer_ask 137 d xs L t _ hm (fun z => by rw [h4]; exact qD_summed z) (enters_of Tryz.func137 (by kernel_rfl) rfl) (Lib.hid (fun W hW _ => summedM_any d xs L hf W hW)) w h hT
  by_cases h5 : t.data.toList = classicalW
  · rw [show ansW xs t.data.toList = classicalA xs by unfold ansW; rw [if_neg h0, if_neg h1, if_neg h2, if_neg h3, if_neg h4, if_pos h5]]
    exact answer_ask 138 d xs L t _ hm (fun z => by rw [h5]; exact qD_classical z) (enters_of Tryz.func138 (by kernel_rfl) rfl) (Lib.hid (fun W hW _ => classicalM_any d xs L hf W hW)) w h hT
  by_cases h6 : t.data.toList = atomsW
  · rw [show ansW xs t.data.toList = atomsA xs by unfold ansW; rw [if_neg h0, if_neg h1, if_neg h2, if_neg h3, if_neg h4, if_neg h5, if_pos h6]]
    exact answer_ask 139 d xs L t _ hm (fun z => by rw [h6]; exact qD_atoms z) (enters_of Tryz.func139 (by kernel_rfl) rfl) (Lib.hid (fun W hW hT => atomsM_any d xs L hf W hW hT)) w h hT
  by_cases h7 : t.data.toList = wholeW
  · rw [show ansW xs t.data.toList = wholeA xs by unfold ansW; rw [if_neg h0, if_neg h1, if_neg h2, if_neg h3, if_neg h4, if_neg h5, if_neg h6, if_pos h7]]
    exact answer_ask 140 d xs L t _ hm (fun z => by rw [h7]; exact qD_whole z) (enters_of Tryz.func140 (by kernel_rfl) rfl) (Lib.hid (fun W hW hT => wholeM_any d xs L hf W hW hT)) w h hT
  have hq : ¬ isQ t.data.toList := by
    rintro (e | e | e | e | e | e | e | e)
    · exact h0 e
    · exact h1 e
    · exact h2 e
    · exact h3 e
    · exact h4 e
    · exact h5 e
    · exact h6 e
    · exact h7 e
  rw [ans_two hq]
  have hat : ∀ z, qD8.atKey (.string t.data.toList) z = z ∧ Maps.has qD8 (.string t.data.toList) = false := fun z => qD_none h0 h1 h2 h3 h4 h5 h6 h7 z
  have hcs : (bs (cut1 t.data.toList)).size ≤ maxLen := by
    rw [bs_size]
    have := (cut_len t.data.toList).1
    have hz : t.data.toList.length = t.size := rfl
    unfold maxLen; omega
  have hpl := plI_lt xs (rdI (cut1 (cut2 t.data.toList)))
  have hql := plI_lt xs (rdI (cut2 (cut2 t.data.toList)))
  have hpl : pA xs t.data.toList < xs.length := hpl.2
  have hql : pB xs t.data.toList < xs.length := hql.2
  by_cases g0 : cut1 t.data.toList = sumW
  · have hlk : ∀ W b, W.ownsMap Tryz.prog 9 fnElem b 3 tD3 → (Instr.lookup 129 (.map (some b)) (.string (bs (cut1 t.data.toList))) true).run Tryz.prog W = .ok (.tuple #[.func (.func 141) #[] #[], .bool true]) W :=
      fun W b hW => questionsOfTwo_look W b hW _ hcs _ (fun z => by rw [bs_data, g0]; exact tD_sum z)
    by_cases hno : pA xs t.data.toList < 0 ∨ pB xs t.data.toList < 0
    · rw [if_pos hno]
      exact answer_what d xs L t _ true hts hat hlk (.inr hno) hf w h hT
    · rw [if_neg hno]
      unfold twoW
      rw [if_pos g0]
      exact answer_two 141 d xs L t _ true _ hts hat hlk rfl rfl (by omega) (by omega) (enters_of Tryz.func141 (by kernel_rfl) rfl) (Lib.hid (fun W hW hT => by
        obtain ⟨X, hX⟩ := Int.eq_ofNat_of_zero_le (show 0 ≤ pA xs t.data.toList by omega)
        obtain ⟨Y, hY⟩ := Int.eq_ofNat_of_zero_le (show 0 ≤ pB xs t.data.toList by omega)
        rw [hX] at hpl
        rw [hY] at hql
        rw [hX, hY]
        exact sumM_any d xs L X Y (by omega) (by omega) hf W hW hT)) hf w h hT
  by_cases g1 : cut1 t.data.toList = commonW
  · have hlk : ∀ W b, W.ownsMap Tryz.prog 9 fnElem b 3 tD3 → (Instr.lookup 129 (.map (some b)) (.string (bs (cut1 t.data.toList))) true).run Tryz.prog W = .ok (.tuple #[.func (.func 142) #[] #[], .bool true]) W :=
      fun W b hW => questionsOfTwo_look W b hW _ hcs _ (fun z => by rw [bs_data, g1]; exact tD_common z)
    by_cases hno : pA xs t.data.toList < 0 ∨ pB xs t.data.toList < 0
    · rw [if_pos hno]
      exact answer_what d xs L t _ true hts hat hlk (.inr hno) hf w h hT
    · rw [if_neg hno]
      unfold twoW
      rw [if_neg g0, if_pos g1]
      exact answer_two 142 d xs L t _ true _ hts hat hlk rfl rfl (by omega) (by omega) (enters_of Tryz.func142 (by kernel_rfl) rfl) (Lib.hid (fun W hW hT => commonM_any d xs L _ _ hf W hW hT)) hf w h hT
  by_cases g2 : cut1 t.data.toList = leftW
  · have hlk : ∀ W b, W.ownsMap Tryz.prog 9 fnElem b 3 tD3 → (Instr.lookup 129 (.map (some b)) (.string (bs (cut1 t.data.toList))) true).run Tryz.prog W = .ok (.tuple #[.func (.func 143) #[] #[], .bool true]) W :=
      fun W b hW => questionsOfTwo_look W b hW _ hcs _ (fun z => by rw [bs_data, g2]; exact tD_left z)
    by_cases hno : pA xs t.data.toList < 0 ∨ pB xs t.data.toList < 0
    · rw [if_pos hno]
      exact answer_what d xs L t _ true hts hat hlk (.inr hno) hf w h hT
    · rw [if_neg hno]
      unfold twoW
      rw [if_neg g0, if_neg g1, if_pos g2]
      exact answer_two 143 d xs L t _ true _ hts hat hlk rfl rfl (by omega) (by omega) (enters_of Tryz.func143 (by kernel_rfl) rfl) (Lib.hid (fun W hW hT => leftM_any d xs L _ _ hf W hW hT)) hf w h hT
  have hlk : ∀ W b, W.ownsMap Tryz.prog 9 fnElem b 3 tD3 → (Instr.lookup 129 (.map (some b)) (.string (bs (cut1 t.data.toList))) true).run Tryz.prog W = .ok (.tuple #[.nilFunc, .bool false]) W :=
    fun W b hW => questionsOfTwo_miss W b hW _ hcs (fun z => by rw [bs_data]; exact tD_none g0 g1 g2 z)
  have he : (if pA xs t.data.toList < 0 ∨ pB xs t.data.toList < 0 then whatW else twoW xs (cut1 t.data.toList) (pA xs t.data.toList) (pB xs t.data.toList)) = whatW := by
    unfold twoW
    rw [if_neg g0, if_neg g1, if_neg g2]
    split <;> rfl
  rw [he]
  exact answer_what d xs L t _ false hts hat hlk (.inl rfl) hf w h hT
theorem GivesD.more {xs : List Int} {L : List (List Int)} {w w' W : World} {v1 v2 : Value} (h : GivesD xs L w w' v1 v2) (hb : Below w'.heap.size w' W) : GivesD xs L w W v1 v2 := by
  obtain ⟨rs, h1, h2, h3⟩ := h
  exact ⟨rs, h1.kept hb, h2, below_onto h3 hb⟩
set_option maxRecDepth 100000 in
theorem DeskLine_none (d : Value) (xs : List Int) (L : List (List Int)) (s : ByteArray) (hdk : deskB xs L = false) (w : World) (h : DeskR w d xs L) :
    Calls Tryz.prog 14 #[d, .string s] w (LineD [] [] [] w) := by
  have hdd := h
  obtain ⟨a, c, b, c2, rfl, _⟩ := h.parts
  have q1 := alloc_below w (.cells #[.slice a xs.length c, .slice b L.length c2] 31)
  have q2 := alloc_below (w.alloc (.cells #[.slice a xs.length c, .slice b L.length c2] 31)) (.cells #[.slice none 0 0, .slice none 0 0] 31)
  have HV := Lib.hid ((VarD.new hdd).kept q2)
  have hbr := Blk2.new (w.alloc (.cells #[.slice a xs.length c, .slice b L.length c2] 31)) 31 (.slice none 0 0) (.slice none 0 0)
  rw [alloc_size] at hbr
  have HBR := Lib.hid hbr
  have HB := Lib.hid (below_onto q1 q2)
  obtain ⟨w2, hw2⟩ : ∃ w2, (w.alloc (.cells #[.slice a xs.length c, .slice b L.length c2] 31)).alloc (.cells #[.slice none 0 0, .slice none 0 0] 31) = w2 := ⟨_, rfl⟩
  rw [hw2] at HV HBR HB
  have hd0 := HV.out.blk.cell.1; have hd1 := HV.out.blk.cell.2
  have HDK := Lib.hid hdk
  clear h hdd q1 q2 hbr hdk
  go_enter Tryz.func14, Tryz.ntmps14
  go_wp2_with fail
  clear hw2
  refine (DeskOk_any _ xs L _ HV.out.d).mono ?_
  rintro e w3 ⟨rfl, hb⟩
  rw [HDK.out]
  replace HBR := Lib.hid (HBR.out.kept hb HBR.out.lt); replace HB := Lib.hid (below_onto HB.out hb)
  clear hb hd0 hd1
  have hx0 := HBR.out.cell.1; have hx1 := HBR.out.cell.2; have hx2 := HBR.out.frozen 0; have hx3 := HBR.out.frozen 1
  go_wp2_with fail
  refine bodyPost_ret (results_desk rfl _ _ (w.heap.size + 1) ((HBR.out.set0 (.slice none 0 0)).set1 (.slice none 0 0)) rfl rfl (by kernel_rfl)) rfl ?_
  exact ⟨_, _, rfl, noDesk_gives ((HB.out.setCell (p := ⟨w.heap.size + 1, 0, none⟩) (show w.heap.size ≤ w.heap.size + 1 by omega) _).setCell (p := ⟨w.heap.size + 1, 1, none⟩) (show w.heap.size ≤ w.heap.size + 1 by omega) _)⟩
set_option maxRecDepth 100000 in
theorem DeskLine_ask (d : Value) (xs : List Int) (L : List (List Int)) (s : ByteArray) (hs : s.size ≤ 1048600) (hdk : deskB xs L = true) (hrd : rdDB s.data.toList = false) (w : World) (h : DeskR w d xs L) (hT : TabW w) :
    Calls Tryz.prog 14 #[d, .string s] w (LineD xs L (ansW xs s.data.toList) w) := by
  have hdd := h
  obtain ⟨a, c, b, c2, rfl, _⟩ := h.parts
  have q1 := alloc_below w (.cells #[.slice a xs.length c, .slice b L.length c2] 31)
  have q2 := alloc_below (w.alloc (.cells #[.slice a xs.length c, .slice b L.length c2] 31)) (.cells #[.slice none 0 0, .slice none 0 0] 31)
  have HV := Lib.hid ((VarD.new hdd).kept q2)
  have hbr := Blk2.new (w.alloc (.cells #[.slice a xs.length c, .slice b L.length c2] 31)) 31 (.slice none 0 0) (.slice none 0 0)
  rw [alloc_size] at hbr
  have HBR := Lib.hid hbr
  have HB := Lib.hid (below_onto q1 q2)
  have HT := Lib.hid (hT.below (below_onto q1 q2))
  obtain ⟨w2, hw2⟩ : ∃ w2, (w.alloc (.cells #[.slice a xs.length c, .slice b L.length c2] 31)).alloc (.cells #[.slice none 0 0, .slice none 0 0] 31) = w2 := ⟨_, rfl⟩
  rw [hw2] at HV HBR HB HT
  have hd0 := HV.out.blk.cell.1; have hd1 := HV.out.blk.cell.2
  have HDK := Lib.hid hdk; have HRD := Lib.hid hrd
  have hf := (deskB_iff.1 hdk).1
  obtain ⟨ta, hta⟩ : ∃ ta, bs (ansW xs s.data.toList) = ta := ⟨_, rfl⟩
  have HAN := Lib.hid (show ∀ W d, DeskR W d xs L → TabW W → Calls Tryz.prog 53 #[d, .string s] W fun e w' => e = .returned (.string ta) ∧ Below W.heap.size W w' from fun W d hW hT => by
    have := answer_any d xs L s hs hf W hW hT
    unfold Txt at this
    rw [hta] at this
    exact this)
  unfold LineD
  rw [hta]
  clear h hdd q1 q2 hbr hdk hrd hT hta
  go_enter Tryz.func14, Tryz.ntmps14
  go_wp2_with fail
  clear hw2
  refine (DeskOk_any _ xs L _ HV.out.d).mono ?_
  rintro e w3 ⟨rfl, hb⟩
  rw [HDK.out]
  replace HV := Lib.hid (HV.out.kept hb); replace HBR := Lib.hid (HBR.out.kept hb HBR.out.lt); replace HB := Lib.hid (below_onto HB.out hb); replace HT := Lib.hid (HT.out.below hb)
  clear hb hd0 hd1
  go_wp2_with fail
  refine (ReadDeed_any s (by omega) _).mono ?_
  rintro e w4 ⟨rfl, hb⟩
  rw [HRD.out]
  obtain ⟨rk, hrk⟩ : ∃ rk, rdK s.data.toList = rk := ⟨_, rfl⟩
  obtain ⟨ry, hry⟩ : ∃ ry, rdY s.data.toList = ry := ⟨_, rfl⟩
  rw [hrk, hry]
  have hal := alloc_below w4 (.cells #[.int .i64 rk, .int .i64 ry] 39)
  replace hb := below_onto hb hal
  replace HV := Lib.hid (HV.out.kept hb); replace HBR := Lib.hid (HBR.out.kept hb HBR.out.lt); replace HB := Lib.hid (below_onto HB.out hb); replace HT := Lib.hid (HT.out.below hb)
  obtain ⟨w5, hw5⟩ : ∃ w5, w4.alloc (.cells #[.int .i64 rk, .int .i64 ry] 39) = w5 := ⟨_, rfl⟩
  rw [hw5] at HV HBR HB HT
  have HLT := Lib.hid (show w.heap.size + 1 < w5.heap.size from HBR.out.lt)
  have HKS := Lib.hid (show ∀ W, Below w5.heap.size w5 W → (W.cell? ⟨w.heap.size, 0, none⟩ = some (.slice a xs.length c) ∧ W.cell? ⟨w.heap.size, 1, none⟩ = some (.slice b L.length c2)) from fun W hW => (HV.out.kept hW).blk.cell)
  have hn1 : ¬ w.heap.size = w.heap.size + 1 := by omega
  have HN1 := Lib.hid hn1
  have HKW := Lib.hid (show ∀ W W' : World, Below w5.heap.size w5 W → W'.heap[w.heap.size]? = W.heap[w.heap.size]? → (W'.cell? ⟨w.heap.size, 0, none⟩ = some (.slice a xs.length c) ∧ W'.cell? ⟨w.heap.size, 1, none⟩ = some (.slice b L.length c2)) from fun W W' hW hW' => Blk2.cell (show Blk2 W' w.heap.size 31 _ _ from hW'.trans (HV.out.kept hW).blk))
  have HB6 := Lib.hid (Below.refl w5.heap.size w5)
  clear hb hal hrk hry
  go_upto_region 5 with fail
  clear hw5
  go_region_held3 (fun W => W.cell? ⟨w.heap.size, 0, none⟩ = some (.slice a xs.length c) ∧ W.cell? ⟨w.heap.size, 1, none⟩ = some (.slice b L.length c2)) (first | exact HKS.out _ HB6.out | exact HKS.out _ HB6.out.drew | exact HKS.out _ (below_drewN HB6.out _) | exact HKW.out _ _ HB6.out ((set_blk HN1.out).trans (set_blk HN1.out)) | go_keep)
    (first | (go_at_call 52; refine (copied_any _ xs L HDK.out _ (HV.out.d.kept (by first | with_reducible exact HB6.out | with_reducible exact HB6.out.drew | with_reducible exact below_drewN HB6.out _))).mono ?_; rintro e w6 ⟨v1, v2, rfl, hg⟩; obtain ⟨p1, e1, rfl⟩ := hg.one; obtain ⟨p2, e2, rfl⟩ := hg.two; have HG := Lib.hid hg; have HZ := Lib.hid (below_onto (show Below w5.heap.size w5 _ from (by first | with_reducible exact HB6.out | with_reducible exact HB6.out.drew | with_reducible exact below_drewN HB6.out _)) hg.below); clear HB6; have HB6 := HZ; clear HZ; clear hg) | (go_at_call 53; refine (HAN.out _ _ (HV.out.d.kept (by first | with_reducible exact HB6.out | with_reducible exact HB6.out.drew | with_reducible exact below_drewN HB6.out _)) (HT.out.below (by first | with_reducible exact HB6.out | with_reducible exact HB6.out.drew | with_reducible exact below_drewN HB6.out _))).mono ?_; rintro e w7 ⟨rfl, hb⟩; have HG7 := Lib.hid (HG.out.more (show Below w6.heap.size w6 w7 from (by first | with_reducible exact hb | with_reducible exact below_onto ((Below.refl _ w6).drew) hb | with_reducible exact below_onto (below_drewN (Below.refl _ w6) _) hb))); have HZ := Lib.hid (below_onto (show Below w5.heap.size w5 _ from (by first | with_reducible exact HB6.out | with_reducible exact HB6.out.drew | with_reducible exact below_drewN HB6.out _)) hb); clear HB6; have HB6 := HZ; clear HZ; clear hb; have HR7 := Lib.hid (HBR.out.kept HB6.out HBR.out.lt); have hr0 := HR7.out.cell.1; have hr1 := HR7.out.cell.2; have hr2 := HR7.out.frozen 0; have hr3 := HR7.out.frozen 1))
  all_goals
    go_wp2_with fail
    refine bodyPost_ret (results_desk rfl _ _ (w.heap.size + 1) ((HR7.out.set0 _).set1 _) rfl rfl (by kernel_rfl)) rfl ?_
    first
      | exact ⟨_, _, rfl, HG7.out.fin HB.out (Nat.le_succ _) HLT.out (Below.refl _ _)⟩
      | exact ⟨_, _, rfl, HG7.out.fin HB.out.drew (Nat.le_succ _) HLT.out (Below.refl _ _)⟩
      | exact ⟨_, _, rfl, (HG7.out.fin HB.out (Nat.le_succ _) HLT.out (Below.refl _ _)).drew⟩
      | exact ⟨_, _, rfl, (HG7.out.fin HB.out.drew (Nat.le_succ _) HLT.out (Below.refl _ _)).drew⟩
theorem liT_deed {A : List Int → List UInt8 → List UInt8} {B : List Int → List UInt8 → List UInt8} {xs : List Int} {L : List (List Int)} {l : List UInt8} (h : deskB xs L = true) (hd : rdDB l = true) : liT A xs L l = liT B xs L l := by
  rw [(li_deed (A := A) h hd).2.2, (li_deed (A := B) h hd).2.2]
theorem DeskLine_any (d : Value) (xs : List Int) (L : List (List Int)) (s : ByteArray) (hs : s.size ≤ 1048600) (w : World) (h : DeskR w d xs L) (hT : TabW w) :
    Calls Tryz.prog 14 #[d, .string s] w (LineD (liX xs L s.data.toList) (liL xs L s.data.toList) (liT ansW xs L s.data.toList) w) := by
  cases hdk : deskB xs L with
  | false =>
    obtain ⟨e1, e2, e3⟩ := li_none (A := ansW) (l := s.data.toList) hdk
    rw [e1, e2, e3]
    exact DeskLine_none d xs L s hdk w h
  | true =>
    cases hrd : rdDB s.data.toList with
    | true =>
      rw [liT_deed (A := ansW) (B := fun _ _ => []) hdk hrd]
      exact DeskLine_deed d xs L s hs hdk hrd w h
    | false =>
      obtain ⟨e1, e2, e3⟩ := li_ask (A := ansW) hdk hrd
      rw [e1, e2, e3]
      exact DeskLine_ask d xs L s hs hdk hrd w h hT
end Go.Proofs.YthaickihoagnmaaGreatDoor
namespace Go.Proofs.YthaickihoagnmaaGreatDoor
open Go.RowKit Go.Maps
theorem l12Yes_any (o : Bool) (w : World) :
    Calls Tryz.prog 70 #[.bool o] w fun e w' => e = .returned (.string (bs (ynW o))) ∧ w' = w := by
  cases o with
  | true =>
    have HE := Lib.hid (show ({ data := #[121, 101, 115] } : ByteArray) = bs (ynW true) from rfl)
    go_enter Tryz.func70, Tryz.ntmps70
    go_wp2_with fail
    go_ret
    exact ⟨rets HE.out, rfl⟩
  | false =>
    have HE := Lib.hid (show ({ data := #[110, 111] } : ByteArray) = bs (ynW false) from rfl)
    go_enter Tryz.func70, Tryz.ntmps70
    go_wp2_with fail
    go_ret
    exact ⟨rets HE.out, rfl⟩
set_option maxRecDepth 100000 in
theorem l12Place_any (a : Option Addr) (c : Nat) (xs : List Int) (t : ByteArray) (w : World) (hi : Ints w a xs.length (fun j => xs.getD j 0)) :
    Calls Tryz.prog 79 #[.slice a xs.length c, .string t] w fun e w' => e = .returned (.int .i64 (plI xs (rdI t.data.toList))) ∧ w = w' := by
  have HI := Lib.hid hi
  have hn := hi.1.1
  obtain ⟨x, hx⟩ : ∃ x, rdI t.data.toList = x := ⟨_, rfl⟩
  have HX := Lib.hid hx
  rw [hx]
  obtain ⟨n, hnn⟩ : ∃ n, xs.length = n := ⟨_, rfl⟩
  have HN := Lib.hid hnn
  rw [hnn] at hn HI ⊢
  clear hi hnn hx
  go_enter Tryz.func79, Tryz.ntmps79
  go_wp2_with fail
  refine (specReadSet_any t _).mono ?_
  rintro e w2 ⟨rfl, rfl⟩
  rw [HX.out]
  go_wp2_with fail
  go_loopw [7] (fun i wr => ∃ k : Nat, k ≤ n ∧ i = .int .i64 k ∧ Hid (∀ j, j < k → xs.getD j 0 ≠ x) ∧ w = wr) (fun i _ => n - (intOf i).toNat)
  case atStart => exact ⟨0, Nat.zero_le _, rfl, Lib.hid (fun j hj => absurd hj (Nat.not_lt_zero _)), rfl⟩
  case round =>
    obtain ⟨k, hk, rfl, hall, rfl⟩ := hrel
    by_cases hlt : k < n
    · have hki : (k : Int) < (n : Int) := by omega
      have hk0 : (0 : Int) ≤ (k : Int) := by omega
      obtain ⟨b, o, rfl, hbl, hrow⟩ := HI.out.row (by omega)
      have hc : w.cell? ⟨b, o + k, none⟩ = some (.int .i64 (xs.getD k 0)) := hrow k hlt
      clear hrow hbl
      have HZ := Lib.hid (fun e => plI_at (xs := xs) (x := x) (show k < xs.length by rw [HN.out]; exact hlt) hall.out e)
      obtain ⟨z, hz⟩ : ∃ z, xs.getD k 0 = z := ⟨_, rfl⟩
      have HZZ := Lib.hid hz
      rw [hz] at HZ hc
      cases hv : (z == x) with
      | true =>
        have HE := Lib.hid (HZ.out (by simpa using hv : z = x))
        clear hz
        go_wp2_with fail
        go_ret
        exact ⟨reti HE.out.symm, rfl⟩
      | false =>
        have hne : z ≠ x := by intro e; rw [e] at hv; simp at hv
        have HNE := Lib.hid hne
        clear hz hne
        go_wp2_with fail
        go_roundw
        case rel => exact ⟨k + 1, by omega, by go_num, Lib.hid (fun j hj => by
          by_cases e : j = k
          · subst e; rw [HZZ.out]; exact HNE.out
          · exact hall.out j (by omega)), by first | rfl | trivial⟩
        case measure => simp [intOf]; omega
    · have hki : ¬ (k : Int) < (n : Int) := by omega
      have hkn : k = n := by omega
      have HE := Lib.hid (plI_none (xs := xs) (x := x) (fun j hj => hall.out j (by rw [HN.out] at hj; omega)))
      clear hkn hk
      go_wp2_with fail
      go_ret
      exact ⟨reti HE.out.symm, rfl⟩
theorem emp_bs {l : List UInt8} : (bs l).toList.isEmpty = l.isEmpty := by rw [bs_list]
set_option maxRecDepth 100000 in
theorem l12Sets_any (a : Option Addr) (c : Nat) (xs : List Int) (s : Int) (hs : 0 ≤ s) (hf : famL xs = true) (w : World) (hi : Ints w a xs.length (fun j => xs.getD j 0)) :
    Calls Tryz.prog 69 #[.slice a xs.length c, .int .i64 s] w fun e w' => e = .returned (.string (bs (setsW xs s))) ∧ w = w' := by
  have HI := Lib.hid hi
  have hl := famL_len hf
  have hfl := Lib.hid (atS_ne hf s (Nat.le_refl xs.length))
  obtain ⟨n, hnn⟩ : ∃ n, xs.length = n := ⟨_, rfl⟩
  have HN := Lib.hid hnn
  rw [hnn] at HI hl ⊢
  clear hi hnn
  have HST : Hid (({ data := #[] } : ByteArray) = bs (joinL (atS xs s 0))) := Lib.hid rfl
  go_enter Tryz.func69, Tryz.ntmps69
  go_wp2_with fail
  go_loopw [5, 6] (fun v i wr => ∃ (k : Nat) (o : ByteArray), k ≤ n ∧ i = .int .i64 k ∧ v = .string o ∧ o.size ≤ k * 5 ∧ Hid (o = bs (joinL (atS xs s k))) ∧ w = wr) (fun _ i _ => n - (intOf i).toNat)
  case atStart => exact ⟨0, _, Nat.zero_le _, rfl, rfl, by decide, HST, rfl⟩
  case round =>
    clear HST
    obtain ⟨k, o, hk, rfl, rfl, ho, HO, rfl⟩ := hrel
    by_cases hlt : k < n
    · have hki : (k : Int) < (n : Int) := by omega
      have hk0 : (0 : Int) ≤ (k : Int) := by omega
      have hk6 : k ≤ 63 := by omega
      obtain ⟨g, of, rfl, hbl, hrow⟩ := HI.out.row (by omega)
      have hc : w.cell? ⟨g, of + k, none⟩ = some (.int .i64 (xs.getD k 0)) := hrow k hlt
      obtain ⟨z, hz⟩ : ∃ z, xs.getD k 0 = z := ⟨_, rfl⟩
      have HZ := Lib.hid hz
      rw [hz] at hc
      clear hrow hbl hz
      by_cases hs0 : 0 < s
      · have hsd : decide (0 < s) = true := decide_eq_true hs0
        cases hg : hasB s k with
        | false =>
          have HG := Lib.hid hg
          have HY := Lib.hid (show atS xs s (k + 1) = atS xs s k from by rw [atS, hg]; rfl)
          clear hg
          go_wp2_with fail
          refine (l1Has_val _ _ false _ HG.out hk6 hs).mono ?_
          rintro e w' ⟨rfl, rfl⟩
          go_wp2_with fail
          go_roundw
          case rel => exact ⟨k + 1, o, by omega, by go_num, rfl, by omega, Lib.hid (by rw [HY.out]; exact HO.out), by first | rfl | trivial⟩
          case measure => simp [intOf]; omega
        | true =>
          have HG := Lib.hid hg
          have HY := Lib.hid (show atS xs s (k + 1) = atS xs s k ++ [setL z] from by rw [atS, hg, HZ.out]; rfl)
          have hts : (setT z).size ≤ 4 := by unfold setT; rw [bs_size]; exact setL_len _
          obtain ⟨t, ht⟩ : ∃ t, setT z = t := ⟨_, rfl⟩
          have HT := Lib.hid ht
          rw [ht] at hts
          clear hg ht
          by_cases hem : atS xs s k = []
          · have hoe : o.toList.isEmpty = true := by rw [HO.out, hem, emp_bs]; rfl
            have HN2 : Hid (o ++ t = bs (joinL (atS xs s (k + 1)))) := Lib.hid (by rw [HY.out, hem, HO.out, hem, ← HT.out]; show bs [] ++ bs (setL z) = bs (setL z); rw [bs_app]; rfl)
            have hns : (o ++ t).size ≤ (k + 1) * 5 := by rw [ByteArray.size_append]; omega
            have HNS := Lib.hid hns
            clear hem hns
            go_wp2_with fail
            refine (l1Has_val _ _ true _ HG.out hk6 hs).mono ?_
            rintro e w' ⟨rfl, rfl⟩
            go_wp2_with fail
            refine (specSetText_any z _).mono ?_
            rintro e w' ⟨rfl, rfl⟩
            rw [HT.out]
            go_wp2_with fail
            go_roundw
            case rel => exact ⟨k + 1, _, by omega, by go_num, rfl, HNS.out, HN2, by first | rfl | trivial⟩
            case measure => simp [intOf]; omega
          · have hoe : o.toList.isEmpty = false := by
              rw [HO.out, emp_bs]
              have hj := join_ne hem (fun l hl => (atS_ne hf s (show k ≤ xs.length by rw [HN.out]; omega) l hl).1)
              cases hjj : joinL (atS xs s k) with
              | nil => exact absurd hjj hj
              | cons _ _ => rfl
            have HN2 : Hid (o ++ { data := #[44] } ++ t = bs (joinL (atS xs s (k + 1)))) := Lib.hid (by
              rw [HY.out, join_snoc _ _ hem, HO.out, ← HT.out, show ({ data := #[44] } : ByteArray) = bs [44] from rfl]
              show bs _ ++ bs [44] ++ bs (setL z) = _
              rw [bs_app, bs_app, List.append_assoc]
              rfl)
            have hns : (o ++ { data := #[44] } ++ t).size ≤ (k + 1) * 5 := by
              rw [ByteArray.size_append, ByteArray.size_append]
              have : ({ data := #[44] } : ByteArray).size = 1 := rfl
              omega
            have HNS := Lib.hid hns
            clear hem hns
            go_wp2_with fail
            refine (l1Has_val _ _ true _ HG.out hk6 hs).mono ?_
            rintro e w' ⟨rfl, rfl⟩
            go_wp2_with fail
            refine (specSetText_any z _).mono ?_
            rintro e w' ⟨rfl, rfl⟩
            rw [HT.out]
            go_wp2_with fail
            go_roundw
            case rel => exact ⟨k + 1, _, by omega, by go_num, rfl, HNS.out, HN2, by first | rfl | trivial⟩
            case measure => simp [intOf]; omega
      · have hsd : decide (0 < s) = false := decide_eq_false hs0
        have HY := Lib.hid (show atS xs s (k + 1) = atS xs s k from by rw [atS, show s = 0 by omega, hasB_zero]; rfl)
        go_wp2_with fail
        go_roundw
        case rel => exact ⟨k + 1, o, by omega, by go_num, rfl, by omega, Lib.hid (by rw [HY.out]; exact HO.out), by first | rfl | trivial⟩
        case measure => simp [intOf]; omega
    · have hki : ¬ (k : Int) < (n : Int) := by omega
      have hkn : k = n := by omega
      have hse : setsW xs s = if atS xs s k = [] then noneW else joinL (atS xs s k) := by unfold setsW; rw [HN.out, hkn]
      by_cases hem : atS xs s k = []
      · have hoe : o.toList.isEmpty = true := by rw [HO.out, hem, emp_bs]; rfl
        have HE : Hid (({ data := #[110, 111, 110, 101] } : ByteArray) = bs (setsW xs s)) := Lib.hid (by rw [hse, if_pos hem]; rfl)
        clear hkn hk hse hem
        go_wp2_with fail
        go_ret
        exact ⟨rets HE.out, rfl⟩
      · have hoe : o.toList.isEmpty = false := by
          rw [HO.out, emp_bs]
          have hj := join_ne hem (fun l hl => (atS_ne hf s (show k ≤ xs.length by rw [HN.out]; omega) l hl).1)
          cases hjj : joinL (atS xs s k) with
          | nil => exact absurd hjj hj
          | cons _ _ => rfl
        have HE : Hid (o = bs (setsW xs s)) := Lib.hid (by rw [hse, if_neg hem]; exact HO.out)
        clear hkn hk hse hem
        go_wp2_with fail
        go_ret
        exact ⟨rets HE.out, rfl⟩
end Go.Proofs.YthaickihoagnmaaGreatDoor
