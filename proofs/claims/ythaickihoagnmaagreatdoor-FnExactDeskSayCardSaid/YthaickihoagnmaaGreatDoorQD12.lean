import Derived.Test.YthaickihoagnmaaGreatDoorQD11
set_option linter.unusedVariables false
set_option linter.unusedSimpArgs false
set_option maxHeartbeats 12800000
namespace Go.Proofs.YthaickihoagnmaaGreatDoor
open Go.RowKit Go.WideMaps Go.Maps
theorem answer_any (d : Value) (xs : List Int) (L : List (List Int)) (t : ByteArray) (hts : t.size ≤ 1048600) (hf : famL xs = true) (w : World) (h : DeskR w d xs L) (hT : TabW w) :
    Calls Tryz.prog 53 #[d, .string t] w (Txt (ansW xs t.data.toList) w) := by
  have hm : t.size ≤ maxLen := by unfold maxLen; omega
  by_cases h0 : t.data.toList = allW
  · rw [show ansW xs t.data.toList = allA xs by unfold ansW; rw [if_pos h0]]
    exact answer_ask 133 d xs L t _ hm (fun z => by rw [h0]; exact qD_all z) (enters_of Tryz.func133 (by kernel_rfl) rfl) (Lib.hid (fun W hW hT => allM_any d xs L hf W hW hT)) w h hT
  by_cases h1 : t.data.toList = companyW
  · rw [show ansW xs t.data.toList = companyA xs by unfold ansW; rw [if_neg h0, if_pos h1]]
    exact answer_ask 134 d xs L t _ hm (fun z => by rw [h1]; exact qD_company z) (enters_of Tryz.func134 (by kernel_rfl) rfl) (Lib.hid (fun W hW _ => companyM_any d xs L hf W hW)) w h hT
  by_cases h2 : t.data.toList = weakW
  · rw [show ansW xs t.data.toList = weakA xs by unfold ansW; rw [if_neg h0, if_neg h1, if_pos h2]]
    exact answer_ask 135 d xs L t _ hm (fun z => by rw [h2]; exact qD_weak z) (enters_of Tryz.func135 (by kernel_rfl) rfl) (Lib.hid (fun W hW _ => weakM_any d xs L hf W hW)) w h hT
  by_cases h3 : t.data.toList = strongW
  · rw [show ansW xs t.data.toList = strongA xs by unfold ansW; rw [if_neg h0, if_neg h1, if_neg h2, if_pos h3]]
    exact answer_ask 136 d xs L t _ hm (fun z => by rw [h3]; exact qD_strong z) (enters_of Tryz.func136 (by kernel_rfl) rfl) (Lib.hid (fun W hW _ => strongM_any d xs L hf W hW)) w h hT
  by_cases h4 : t.data.toList = summedW
  · rw [show ansW xs t.data.toList = summedA xs by unfold ansW; rw [if_neg h0, if_neg h1, if_neg h2, if_neg h3, if_pos h4]]
    exact answer_ask 137 d xs L t _ hm (fun z => by rw [h4]; exact qD_summed z) (enters_of Tryz.func137 (by kernel_rfl) rfl) (Lib.hid (fun W hW _ => summedM_any d xs L hf W hW)) w h hT
  by_cases h5 : t.data.toList = classicalW
  · rw [show ansW xs t.data.toList = classicalA xs by unfold ansW; rw [if_neg h0, if_neg h1, if_neg h2, if_neg h3, if_neg h4, if_pos h5]]
    exact answer_ask 138 d xs L t _ hm (fun z => by rw [h5]; exact qD_classical z) (enters_of Tryz.func138 (by kernel_rfl) rfl) (Lib.hid (fun W hW _ => classicalM_any d xs L hf W hW)) w h hT
  by_cases h6 : t.data.toList = atomsW
  · rw [show ansW xs t.data.toList = atomsA xs by unfold ansW; rw [if_neg h0, if_neg h1, if_neg h2, if_neg h3, if_neg h4, if_neg h5, if_pos h6]]
    exact answer_ask 139 d xs L t _ hm (fun z => by rw [h6]; exact qD_atoms z) (enters_of Tryz.func139 (by kernel_rfl) rfl) (Lib.hid (fun W hW hT => atomsM_any d xs L hf W hW hT)) w h hT
  by_cases h7 : t.data.toList = wholeW
  · rw [show ansW xs t.data.toList = wholeA xs by unfold ansW; rw [if_neg h0, if_neg h1, if_neg h2, if_neg h3, if_neg h4, if_neg h5, if_neg h6, if_pos h7]]
    exact answer_ask 140 d xs L t _ hm (fun z => by rw [h7]; exact qD_whole z) (enters_of Tryz.func140 (by kernel_rfl) rfl) (Lib.hid (fun W hW hT => wholeM_any d xs L hf W hW hT)) w h hT
  have hq : ¬ isQ t.data.toList := by
    rintro (e | e | e | e | e | e | e | e)
    · exact h0 e
    · exact h1 e
    · exact h2 e
    · exact h3 e
    · exact h4 e
    · exact h5 e
    · exact h6 e
    · exact h7 e
  rw [ans_two hq]
  have hat : ∀ z, qD8.atKey (.string t.data.toList) z = z ∧ Maps.has qD8 (.string t.data.toList) = false := fun z => qD_none h0 h1 h2 h3 h4 h5 h6 h7 z
  have hcs : (bs (cut1 t.data.toList)).size ≤ maxLen := by
    rw [bs_size]
    have := (cut_len t.data.toList).1
    have hz : t.data.toList.length = t.size := rfl
    unfold maxLen; omega
  have hpl := plI_lt xs (rdI (cut1 (cut2 t.data.toList)))
  have hql := plI_lt xs (rdI (cut2 (cut2 t.data.toList)))
  have hpl : pA xs t.data.toList < xs.length := hpl.2
  have hql : pB xs t.data.toList < xs.length := hql.2
  by_cases g0 : cut1 t.data.toList = sumW
  · have hlk : ∀ W b, W.ownsMap Tryz.prog 9 fnElem b 3 tD3 → (Instr.lookup 129 (.map (some b)) (.string (bs (cut1 t.data.toList))) true).run Tryz.prog W = .ok (.tuple #[.func (.func 141) #[] #[], .bool true]) W :=
      fun W b hW => questionsOfTwo_look W b hW _ hcs _ (fun z => by rw [bs_data, g0]; exact tD_sum z)
    by_cases hno : pA xs t.data.toList < 0 ∨ pB xs t.data.toList < 0
    · rw [if_pos hno]
      exact answer_what d xs L t _ true hts hat hlk (.inr hno) hf w h hT
    · rw [if_neg hno]
      unfold twoW
      rw [if_pos g0]
      exact answer_two 141 d xs L t _ true _ hts hat hlk rfl rfl (by omega) (by omega) (enters_of Tryz.func141 (by kernel_rfl) rfl) (Lib.hid (fun W hW hT => by
        obtain ⟨X, hX⟩ := Int.eq_ofNat_of_zero_le (show 0 ≤ pA xs t.data.toList by omega)
        obtain ⟨Y, hY⟩ := Int.eq_ofNat_of_zero_le (show 0 ≤ pB xs t.data.toList by omega)
        rw [hX] at hpl
        rw [hY] at hql
        rw [hX, hY]
        exact sumM_any d xs L X Y (by omega) (by omega) hf W hW hT)) hf w h hT
  by_cases g1 : cut1 t.data.toList = commonW
  · have hlk : ∀ W b, W.ownsMap Tryz.prog 9 fnElem b 3 tD3 → (Instr.lookup 129 (.map (some b)) (.string (bs (cut1 t.data.toList))) true).run Tryz.prog W = .ok (.tuple #[.func (.func 142) #[] #[], .bool true]) W :=
      fun W b hW => questionsOfTwo_look W b hW _ hcs _ (fun z => by rw [bs_data, g1]; exact tD_common z)
    by_cases hno : pA xs t.data.toList < 0 ∨ pB xs t.data.toList < 0
    · rw [if_pos hno]
      exact answer_what d xs L t _ true hts hat hlk (.inr hno) hf w h hT
    · rw [if_neg hno]
      unfold twoW
      rw [if_neg g0, if_pos g1]
      exact answer_two 142 d xs L t _ true _ hts hat hlk rfl rfl (by omega) (by omega) (enters_of Tryz.func142 (by kernel_rfl) rfl) (Lib.hid (fun W hW hT => commonM_any d xs L _ _ hf W hW hT)) hf w h hT
  by_cases g2 : cut1 t.data.toList = leftW
  · have hlk : ∀ W b, W.ownsMap Tryz.prog 9 fnElem b 3 tD3 → (Instr.lookup 129 (.map (some b)) (.string (bs (cut1 t.data.toList))) true).run Tryz.prog W = .ok (.tuple #[.func (.func 143) #[] #[], .bool true]) W :=
      fun W b hW => questionsOfTwo_look W b hW _ hcs _ (fun z => by rw [bs_data, g2]; exact tD_left z)
    by_cases hno : pA xs t.data.toList < 0 ∨ pB xs t.data.toList < 0
    · rw [if_pos hno]
      exact answer_what d xs L t _ true hts hat hlk (.inr hno) hf w h hT
    · rw [if_neg hno]
      unfold twoW
      rw [if_neg g0, if_neg g1, if_pos g2]
      exact answer_two 143 d xs L t _ true _ hts hat hlk rfl rfl (by omega) (by omega) (enters_of Tryz.func143 (by kernel_rfl) rfl) (Lib.hid (fun W hW hT => leftM_any d xs L _ _ hf W hW hT)) hf w h hT
  have hlk : ∀ W b, W.ownsMap Tryz.prog 9 fnElem b 3 tD3 → (Instr.lookup 129 (.map (some b)) (.string (bs (cut1 t.data.toList))) true).run Tryz.prog W = .ok (.tuple #[.nilFunc, .bool false]) W :=
    fun W b hW => questionsOfTwo_miss W b hW _ hcs (fun z => by rw [bs_data]; exact tD_none g0 g1 g2 z)
  have he : (if pA xs t.data.toList < 0 ∨ pB xs t.data.toList < 0 then whatW else twoW xs (cut1 t.data.toList) (pA xs t.data.toList) (pB xs t.data.toList)) = whatW := by
    unfold twoW
    rw [if_neg g0, if_neg g1, if_neg g2]
    split <;> rfl
  rw [he]
  exact answer_what d xs L t _ false hts hat hlk (.inl rfl) hf w h hT
theorem GivesD.more {xs : List Int} {L : List (List Int)} {w w' W : World} {v1 v2 : Value} (h : GivesD xs L w w' v1 v2) (hb : Below w'.heap.size w' W) : GivesD xs L w W v1 v2 := by
  obtain ⟨rs, h1, h2, h3⟩ := h
  exact ⟨rs, h1.kept hb, h2, below_onto h3 hb⟩
set_option maxRecDepth 100000 in
theorem DeskLine_none (d : Value) (xs : List Int) (L : List (List Int)) (s : ByteArray) (hdk : deskB xs L = false) (w : World) (h : DeskR w d xs L) :
    Calls Tryz.prog 14 #[d, .string s] w (LineD [] [] [] w) := by
  have hdd := h
  obtain ⟨a, c, b, c2, rfl, _⟩ := h.parts
  have q1 := alloc_below w (.cells #[.slice a xs.length c, .slice b L.length c2] 31)
  have q2 := alloc_below (w.alloc (.cells #[.slice a xs.length c, .slice b L.length c2] 31)) (.cells #[.slice none 0 0, .slice none 0 0] 31)
  have HV := Lib.hid ((VarD.new hdd).kept q2)
  have hbr := Blk2.new (w.alloc (.cells #[.slice a xs.length c, .slice b L.length c2] 31)) 31 (.slice none 0 0) (.slice none 0 0)
  rw [alloc_size] at hbr
  have HBR := Lib.hid hbr
  have HB := Lib.hid (below_onto q1 q2)
  obtain ⟨w2, hw2⟩ : ∃ w2, (w.alloc (.cells #[.slice a xs.length c, .slice b L.length c2] 31)).alloc (.cells #[.slice none 0 0, .slice none 0 0] 31) = w2 := ⟨_, rfl⟩
  rw [hw2] at HV HBR HB
  have hd0 := HV.out.blk.cell.1; have hd1 := HV.out.blk.cell.2
  have HDK := Lib.hid hdk
  clear h hdd q1 q2 hbr hdk
  go_enter Tryz.func14, Tryz.ntmps14
  go_wp2_with fail
  clear hw2
  refine (DeskOk_any _ xs L _ HV.out.d).mono ?_
  rintro e w3 ⟨rfl, hb⟩
  rw [HDK.out]
  replace HBR := Lib.hid (HBR.out.kept hb HBR.out.lt); replace HB := Lib.hid (below_onto HB.out hb)
  clear hb hd0 hd1
  have hx0 := HBR.out.cell.1; have hx1 := HBR.out.cell.2; have hx2 := HBR.out.frozen 0; have hx3 := HBR.out.frozen 1
  go_wp2_with fail
  refine bodyPost_ret (results_desk rfl _ _ (w.heap.size + 1) ((HBR.out.set0 (.slice none 0 0)).set1 (.slice none 0 0)) rfl rfl (by kernel_rfl)) rfl ?_
  exact ⟨_, _, rfl, noDesk_gives ((HB.out.setCell (p := ⟨w.heap.size + 1, 0, none⟩) (show w.heap.size ≤ w.heap.size + 1 by omega) _).setCell (p := ⟨w.heap.size + 1, 1, none⟩) (show w.heap.size ≤ w.heap.size + 1 by omega) _)⟩
set_option maxRecDepth 100000 in
theorem DeskLine_ask (d : Value) (xs : List Int) (L : List (List Int)) (s : ByteArray) (hs : s.size ≤ 1048600) (hdk : deskB xs L = true) (hrd : rdDB s.data.toList = false) (w : World) (h : DeskR w d xs L) (hT : TabW w) :
    Calls Tryz.prog 14 #[d, .string s] w (LineD xs L (ansW xs s.data.toList) w) := by
  have hdd := h
  obtain ⟨a, c, b, c2, rfl, _⟩ := h.parts
  have q1 := alloc_below w (.cells #[.slice a xs.length c, .slice b L.length c2] 31)
  have q2 := alloc_below (w.alloc (.cells #[.slice a xs.length c, .slice b L.length c2] 31)) (.cells #[.slice none 0 0, .slice none 0 0] 31)
  have HV := Lib.hid ((VarD.new hdd).kept q2)
  have hbr := Blk2.new (w.alloc (.cells #[.slice a xs.length c, .slice b L.length c2] 31)) 31 (.slice none 0 0) (.slice none 0 0)
  rw [alloc_size] at hbr
  have HBR := Lib.hid hbr
  have HB := Lib.hid (below_onto q1 q2)
  have HT := Lib.hid (hT.below (below_onto q1 q2))
  obtain ⟨w2, hw2⟩ : ∃ w2, (w.alloc (.cells #[.slice a xs.length c, .slice b L.length c2] 31)).alloc (.cells #[.slice none 0 0, .slice none 0 0] 31) = w2 := ⟨_, rfl⟩
  rw [hw2] at HV HBR HB HT
  have hd0 := HV.out.blk.cell.1; have hd1 := HV.out.blk.cell.2
  have HDK := Lib.hid hdk; have HRD := Lib.hid hrd
  have hf := (deskB_iff.1 hdk).1
  obtain ⟨ta, hta⟩ : ∃ ta, bs (ansW xs s.data.toList) = ta := ⟨_, rfl⟩
  have HAN := Lib.hid (show ∀ W d, DeskR W d xs L → TabW W → Calls Tryz.prog 53 #[d, .string s] W fun e w' => e = .returned (.string ta) ∧ Below W.heap.size W w' from fun W d hW hT => by
    have := answer_any d xs L s hs hf W hW hT
    unfold Txt at this
    rw [hta] at this
    exact this)
  unfold LineD
  rw [hta]
  clear h hdd q1 q2 hbr hdk hrd hT hta
  go_enter Tryz.func14, Tryz.ntmps14
  go_wp2_with fail
  clear hw2
  refine (DeskOk_any _ xs L _ HV.out.d).mono ?_
  rintro e w3 ⟨rfl, hb⟩
  rw [HDK.out]
  replace HV := Lib.hid (HV.out.kept hb); replace HBR := Lib.hid (HBR.out.kept hb HBR.out.lt); replace HB := Lib.hid (below_onto HB.out hb); replace HT := Lib.hid (HT.out.below hb)
  clear hb hd0 hd1
  go_wp2_with fail
  refine (ReadDeed_any s (by omega) _).mono ?_
  rintro e w4 ⟨rfl, hb⟩
  rw [HRD.out]
  obtain ⟨rk, hrk⟩ : ∃ rk, rdK s.data.toList = rk := ⟨_, rfl⟩
  obtain ⟨ry, hry⟩ : ∃ ry, rdY s.data.toList = ry := ⟨_, rfl⟩
  rw [hrk, hry]
  have hal := alloc_below w4 (.cells #[.int .i64 rk, .int .i64 ry] 39)
  replace hb := below_onto hb hal
  replace HV := Lib.hid (HV.out.kept hb); replace HBR := Lib.hid (HBR.out.kept hb HBR.out.lt); replace HB := Lib.hid (below_onto HB.out hb); replace HT := Lib.hid (HT.out.below hb)
  obtain ⟨w5, hw5⟩ : ∃ w5, w4.alloc (.cells #[.int .i64 rk, .int .i64 ry] 39) = w5 := ⟨_, rfl⟩
  rw [hw5] at HV HBR HB HT
  have HLT := Lib.hid (show w.heap.size + 1 < w5.heap.size from HBR.out.lt)
  have HKS := Lib.hid (show ∀ W, Below w5.heap.size w5 W → (W.cell? ⟨w.heap.size, 0, none⟩ = some (.slice a xs.length c) ∧ W.cell? ⟨w.heap.size, 1, none⟩ = some (.slice b L.length c2)) from fun W hW => (HV.out.kept hW).blk.cell)
  have hn1 : ¬ w.heap.size = w.heap.size + 1 := by omega
  have HN1 := Lib.hid hn1
  have HKW := Lib.hid (show ∀ W W' : World, Below w5.heap.size w5 W → W'.heap[w.heap.size]? = W.heap[w.heap.size]? → (W'.cell? ⟨w.heap.size, 0, none⟩ = some (.slice a xs.length c) ∧ W'.cell? ⟨w.heap.size, 1, none⟩ = some (.slice b L.length c2)) from fun W W' hW hW' => Blk2.cell (show Blk2 W' w.heap.size 31 _ _ from hW'.trans (HV.out.kept hW).blk))
  have HB6 := Lib.hid (Below.refl w5.heap.size w5)
  clear hb hal hrk hry
  go_upto_region 5 with fail
  clear hw5
  go_region_held3 (fun W => W.cell? ⟨w.heap.size, 0, none⟩ = some (.slice a xs.length c) ∧ W.cell? ⟨w.heap.size, 1, none⟩ = some (.slice b L.length c2)) (first | exact HKS.out _ HB6.out | exact HKS.out _ HB6.out.drew | exact HKS.out _ (below_drewN HB6.out _) | exact HKW.out _ _ HB6.out ((set_blk HN1.out).trans (set_blk HN1.out)) | go_keep)
    (first | (go_at_call 52; refine (copied_any _ xs L HDK.out _ (HV.out.d.kept (by first | with_reducible exact HB6.out | with_reducible exact HB6.out.drew | with_reducible exact below_drewN HB6.out _))).mono ?_; rintro e w6 ⟨v1, v2, rfl, hg⟩; obtain ⟨p1, e1, rfl⟩ := hg.one; obtain ⟨p2, e2, rfl⟩ := hg.two; have HG := Lib.hid hg; have HZ := Lib.hid (below_onto (show Below w5.heap.size w5 _ from (by first | with_reducible exact HB6.out | with_reducible exact HB6.out.drew | with_reducible exact below_drewN HB6.out _)) hg.below); clear HB6; have HB6 := HZ; clear HZ; clear hg) | (go_at_call 53; refine (HAN.out _ _ (HV.out.d.kept (by first | with_reducible exact HB6.out | with_reducible exact HB6.out.drew | with_reducible exact below_drewN HB6.out _)) (HT.out.below (by first | with_reducible exact HB6.out | with_reducible exact HB6.out.drew | with_reducible exact below_drewN HB6.out _))).mono ?_; rintro e w7 ⟨rfl, hb⟩; have HG7 := Lib.hid (HG.out.more (show Below w6.heap.size w6 w7 from (by first | with_reducible exact hb | with_reducible exact below_onto ((Below.refl _ w6).drew) hb | with_reducible exact below_onto (below_drewN (Below.refl _ w6) _) hb))); have HZ := Lib.hid (below_onto (show Below w5.heap.size w5 _ from (by first | with_reducible exact HB6.out | with_reducible exact HB6.out.drew | with_reducible exact below_drewN HB6.out _)) hb); clear HB6; have HB6 := HZ; clear HZ; clear hb; have HR7 := Lib.hid (HBR.out.kept HB6.out HBR.out.lt); have hr0 := HR7.out.cell.1; have hr1 := HR7.out.cell.2; have hr2 := HR7.out.frozen 0; have hr3 := HR7.out.frozen 1))
  all_goals
    go_wp2_with fail
    refine bodyPost_ret (results_desk rfl _ _ (w.heap.size + 1) ((HR7.out.set0 _).set1 _) rfl rfl (by kernel_rfl)) rfl ?_
    first
      | exact ⟨_, _, rfl, HG7.out.fin HB.out (Nat.le_succ _) HLT.out (Below.refl _ _)⟩
      | exact ⟨_, _, rfl, HG7.out.fin HB.out.drew (Nat.le_succ _) HLT.out (Below.refl _ _)⟩
      | exact ⟨_, _, rfl, (HG7.out.fin HB.out (Nat.le_succ _) HLT.out (Below.refl _ _)).drew⟩
      | exact ⟨_, _, rfl, (HG7.out.fin HB.out.drew (Nat.le_succ _) HLT.out (Below.refl _ _)).drew⟩
theorem liT_deed {A : List Int → List UInt8 → List UInt8} {B : List Int → List UInt8 → List UInt8} {xs : List Int} {L : List (List Int)} {l : List UInt8} (h : deskB xs L = true) (hd : rdDB l = true) : liT A xs L l = liT B xs L l := by
  rw [(li_deed (A := A) h hd).2.2, (li_deed (A := B) h hd).2.2]
theorem DeskLine_any (d : Value) (xs : List Int) (L : List (List Int)) (s : ByteArray) (hs : s.size ≤ 1048600) (w : World) (h : DeskR w d xs L) (hT : TabW w) :
    Calls Tryz.prog 14 #[d, .string s] w (LineD (liX xs L s.data.toList) (liL xs L s.data.toList) (liT ansW xs L s.data.toList) w) := by
  cases hdk : deskB xs L with
  | false =>
    obtain ⟨e1, e2, e3⟩ := li_none (A := ansW) (l := s.data.toList) hdk
    rw [e1, e2, e3]
    exact DeskLine_none d xs L s hdk w h
  | true =>
    cases hrd : rdDB s.data.toList with
    | true =>
      rw [liT_deed (A := ansW) (B := fun _ _ => []) hdk hrd]
      exact DeskLine_deed d xs L s hs hdk hrd w h
    | false =>
      obtain ⟨e1, e2, e3⟩ := li_ask (A := ansW) hdk hrd
      rw [e1, e2, e3]
      exact DeskLine_ask d xs L s hs hdk hrd w h hT
end Go.Proofs.YthaickihoagnmaaGreatDoor
namespace Go.Proofs.YthaickihoagnmaaGreatDoor
open Go.RowKit Go.Maps
theorem l12Yes_any (o : Bool) (w : World) :
    Calls Tryz.prog 70 #[.bool o] w fun e w' => e = .returned (.string (bs (ynW o))) ∧ w' = w := by
  cases o with
  | true =>
    have HE := Lib.hid (show ({ data := #[121, 101, 115] } : ByteArray) = bs (ynW true) from rfl)
    go_enter Tryz.func70, Tryz.ntmps70
    go_wp2_with fail
    go_ret
    exact ⟨rets HE.out, rfl⟩
  | false =>
    have HE := Lib.hid (show ({ data := #[110, 111] } : ByteArray) = bs (ynW false) from rfl)
    go_enter Tryz.func70, Tryz.ntmps70
    go_wp2_with fail
    go_ret
    exact ⟨rets HE.out, rfl⟩
set_option maxRecDepth 100000 in
theorem l12Place_any (a : Option Addr) (c : Nat) (xs : List Int) (t : ByteArray) (w : World) (hi : Ints w a xs.length (fun j => xs.getD j 0)) :
    Calls Tryz.prog 79 #[.slice a xs.length c, .string t] w fun e w' => e = .returned (.int .i64 (plI xs (rdI t.data.toList))) ∧ w = w' := by
  have HI := Lib.hid hi
  have hn := hi.1.1
  obtain ⟨x, hx⟩ : ∃ x, rdI t.data.toList = x := ⟨_, rfl⟩
  have HX := Lib.hid hx
  rw [hx]
  obtain ⟨n, hnn⟩ : ∃ n, xs.length = n := ⟨_, rfl⟩
  have HN := Lib.hid hnn
  rw [hnn] at hn HI ⊢
  clear hi hnn hx
  go_enter Tryz.func79, Tryz.ntmps79
  go_wp2_with fail
  refine (specReadSet_any t _).mono ?_
  rintro e w2 ⟨rfl, rfl⟩
  rw [HX.out]
  go_wp2_with fail
  go_loopw [7] (fun i wr => ∃ k : Nat, k ≤ n ∧ i = .int .i64 k ∧ Hid (∀ j, j < k → xs.getD j 0 ≠ x) ∧ w = wr) (fun i _ => n - (intOf i).toNat)
  case atStart => exact ⟨0, Nat.zero_le _, rfl, Lib.hid (fun j hj => absurd hj (Nat.not_lt_zero _)), rfl⟩
  case round =>
    obtain ⟨k, hk, rfl, hall, rfl⟩ := hrel
    by_cases hlt : k < n
    · have hki : (k : Int) < (n : Int) := by omega
      have hk0 : (0 : Int) ≤ (k : Int) := by omega
      obtain ⟨b, o, rfl, hbl, hrow⟩ := HI.out.row (by omega)
      have hc : w.cell? ⟨b, o + k, none⟩ = some (.int .i64 (xs.getD k 0)) := hrow k hlt
      clear hrow hbl
      have HZ := Lib.hid (fun e => plI_at (xs := xs) (x := x) (show k < xs.length by rw [HN.out]; exact hlt) hall.out e)
      obtain ⟨z, hz⟩ : ∃ z, xs.getD k 0 = z := ⟨_, rfl⟩
      have HZZ := Lib.hid hz
      rw [hz] at HZ hc
      cases hv : (z == x) with
      | true =>
        have HE := Lib.hid (HZ.out (by simpa using hv : z = x))
        clear hz
        go_wp2_with fail
        go_ret
        exact ⟨reti HE.out.symm, rfl⟩
      | false =>
        have hne : z ≠ x := by intro e; rw [e] at hv; simp at hv
        have HNE := Lib.hid hne
        clear hz hne
        go_wp2_with fail
        go_roundw
        case rel => exact ⟨k + 1, by omega, by go_num, Lib.hid (fun j hj => by
          by_cases e : j = k
          · subst e; rw [HZZ.out]; exact HNE.out
          · exact hall.out j (by omega)), by first | rfl | trivial⟩
        case measure => simp [intOf]; omega
    · have hki : ¬ (k : Int) < (n : Int) := by omega
      have hkn : k = n := by omega
      have HE := Lib.hid (plI_none (xs := xs) (x := x) (fun j hj => hall.out j (by rw [HN.out] at hj; omega)))
      clear hkn hk
      go_wp2_with fail
      go_ret
      exact ⟨reti HE.out.symm, rfl⟩
theorem emp_bs {l : List UInt8} : (bs l).toList.isEmpty = l.isEmpty := by rw [bs_list]
set_option maxRecDepth 100000 in
theorem l12Sets_any (a : Option Addr) (c : Nat) (xs : List Int) (s : Int) (hs : 0 ≤ s) (hf : famL xs = true) (w : World) (hi : Ints w a xs.length (fun j => xs.getD j 0)) :
    Calls Tryz.prog 69 #[.slice a xs.length c, .int .i64 s] w fun e w' => e = .returned (.string (bs (setsW xs s))) ∧ w = w' := by
  have HI := Lib.hid hi
  have hl := famL_len hf
  have hfl := Lib.hid (atS_ne hf s (Nat.le_refl xs.length))
  obtain ⟨n, hnn⟩ : ∃ n, xs.length = n := ⟨_, rfl⟩
  have HN := Lib.hid hnn
  rw [hnn] at HI hl ⊢
  clear hi hnn
  have HST : Hid (({ data := #[] } : ByteArray) = bs (joinL (atS xs s 0))) := Lib.hid rfl
  go_enter Tryz.func69, Tryz.ntmps69
  go_wp2_with fail
  go_loopw [5, 6] (fun v i wr => ∃ (k : Nat) (o : ByteArray), k ≤ n ∧ i = .int .i64 k ∧ v = .string o ∧ o.size ≤ k * 5 ∧ Hid (o = bs (joinL (atS xs s k))) ∧ w = wr) (fun _ i _ => n - (intOf i).toNat)
  case atStart => exact ⟨0, _, Nat.zero_le _, rfl, rfl, by decide, HST, rfl⟩
  case round =>
    clear HST
    obtain ⟨k, o, hk, rfl, rfl, ho, HO, rfl⟩ := hrel
    by_cases hlt : k < n
    · have hki : (k : Int) < (n : Int) := by omega
      have hk0 : (0 : Int) ≤ (k : Int) := by omega
      have hk6 : k ≤ 63 := by omega
      obtain ⟨g, of, rfl, hbl, hrow⟩ := HI.out.row (by omega)
      have hc : w.cell? ⟨g, of + k, none⟩ = some (.int .i64 (xs.getD k 0)) := hrow k hlt
      obtain ⟨z, hz⟩ : ∃ z, xs.getD k 0 = z := ⟨_, rfl⟩
      have HZ := Lib.hid hz
      rw [hz] at hc
      clear hrow hbl hz
      by_cases hs0 : 0 < s
      · have hsd : decide (0 < s) = true := decide_eq_true hs0
        cases hg : hasB s k with
        | false =>
          have HG := Lib.hid hg
          have HY := Lib.hid (show atS xs s (k + 1) = atS xs s k from by rw [atS, hg]; rfl)
          clear hg
          go_wp2_with fail
          refine (l1Has_val _ _ false _ HG.out hk6 hs).mono ?_
          rintro e w' ⟨rfl, rfl⟩
          go_wp2_with fail
          go_roundw
          case rel => exact ⟨k + 1, o, by omega, by go_num, rfl, by omega, Lib.hid (by rw [HY.out]; exact HO.out), by first | rfl | trivial⟩
          case measure => simp [intOf]; omega
        | true =>
          have HG := Lib.hid hg
          have HY := Lib.hid (show atS xs s (k + 1) = atS xs s k ++ [setL z] from by rw [atS, hg, HZ.out]; rfl)
          have hts : (setT z).size ≤ 4 := by unfold setT; rw [bs_size]; exact setL_len _
          obtain ⟨t, ht⟩ : ∃ t, setT z = t := ⟨_, rfl⟩
          have HT := Lib.hid ht
          rw [ht] at hts
          clear hg ht
          by_cases hem : atS xs s k = []
          · have hoe : o.toList.isEmpty = true := by rw [HO.out, hem, emp_bs]; rfl
            have HN2 : Hid (o ++ t = bs (joinL (atS xs s (k + 1)))) := Lib.hid (by rw [HY.out, hem, HO.out, hem, ← HT.out]; show bs [] ++ bs (setL z) = bs (setL z); rw [bs_app]; rfl)
            have hns : (o ++ t).size ≤ (k + 1) * 5 := by rw [ByteArray.size_append]; omega
            have HNS := Lib.hid hns
            clear hem hns
            go_wp2_with fail
            refine (l1Has_val _ _ true _ HG.out hk6 hs).mono ?_
            rintro e w' ⟨rfl, rfl⟩
            go_wp2_with fail
            refine (specSetText_any z _).mono ?_
            rintro e w' ⟨rfl, rfl⟩
            rw [HT.out]
            go_wp2_with fail
            go_roundw
            case rel => exact ⟨k + 1, _, by omega, by go_num, rfl, HNS.out, HN2, by first | rfl | trivial⟩
            case measure => simp [intOf]; omega
          · have hoe : o.toList.isEmpty = false := by
              rw [HO.out, emp_bs]
              have hj := join_ne hem (fun l hl => (atS_ne hf s (show k ≤ xs.length by rw [HN.out]; omega) l hl).1)
              cases hjj : joinL (atS xs s k) with
              | nil => exact absurd hjj hj
              | cons _ _ => rfl
            have HN2 : Hid (o ++ { data := #[44] } ++ t = bs (joinL (atS xs s (k + 1)))) := Lib.hid (by
              rw [HY.out, join_snoc _ _ hem, HO.out, ← HT.out, show ({ data := #[44] } : ByteArray) = bs [44] from rfl]
              show bs _ ++ bs [44] ++ bs (setL z) = _
              rw [bs_app, bs_app, List.append_assoc]
              rfl)
            have hns : (o ++ { data := #[44] } ++ t).size ≤ (k + 1) * 5 := by
              rw [ByteArray.size_append, ByteArray.size_append]
              have : ({ data := #[44] } : ByteArray).size = 1 := rfl
              omega
            have HNS := Lib.hid hns
            clear hem hns
            go_wp2_with fail
            refine (l1Has_val _ _ true _ HG.out hk6 hs).mono ?_
            rintro e w' ⟨rfl, rfl⟩
            go_wp2_with fail
            refine (specSetText_any z _).mono ?_
            rintro e w' ⟨rfl, rfl⟩
            rw [HT.out]
            go_wp2_with fail
            go_roundw
            case rel => exact ⟨k + 1, _, by omega, by go_num, rfl, HNS.out, HN2, by first | rfl | trivial⟩
            case measure => simp [intOf]; omega
      · have hsd : decide (0 < s) = false := decide_eq_false hs0
        have HY := Lib.hid (show atS xs s (k + 1) = atS xs s k from by rw [atS, show s = 0 by omega, hasB_zero]; rfl)
        go_wp2_with fail
        go_roundw
        case rel => exact ⟨k + 1, o, by omega, by go_num, rfl, by omega, Lib.hid (by rw [HY.out]; exact HO.out), by first | rfl | trivial⟩
        case measure => simp [intOf]; omega
    · have hki : ¬ (k : Int) < (n : Int) := by omega
      have hkn : k = n := by omega
      have hse : setsW xs s = if atS xs s k = [] then noneW else joinL (atS xs s k) := by unfold setsW; rw [HN.out, hkn]
      by_cases hem : atS xs s k = []
      · have hoe : o.toList.isEmpty = true := by rw [HO.out, hem, emp_bs]; rfl
        have HE : Hid (({ data := #[110, 111, 110, 101] } : ByteArray) = bs (setsW xs s)) := Lib.hid (by rw [hse, if_pos hem]; rfl)
        clear hkn hk hse hem
        go_wp2_with fail
        go_ret
        exact ⟨rets HE.out, rfl⟩
      · have hoe : o.toList.isEmpty = false := by
          rw [HO.out, emp_bs]
          have hj := join_ne hem (fun l hl => (atS_ne hf s (show k ≤ xs.length by rw [HN.out]; omega) l hl).1)
          cases hjj : joinL (atS xs s k) with
          | nil => exact absurd hjj hj
          | cons _ _ => rfl
        have HE : Hid (o = bs (setsW xs s)) := Lib.hid (by rw [hse, if_neg hem]; exact HO.out)
        clear hkn hk hse hem
        go_wp2_with fail
        go_ret
        exact ⟨rets HE.out, rfl⟩
theorem eqW {t : ByteArray} {l : List UInt8} : (t.toList == l) = decide (t.data.toList = l) := by
  rw [toList_data']
  by_cases h : t.data.toList = l
  · rw [decide_eq_true h, h]; simp
  · rw [decide_eq_false h]; simpa using h
set_option maxRecDepth 100000 in
theorem specLine_all (d : Value) (xs : List Int) (L : List (List Int)) (s : ByteArray) (hs : s.size ≤ 1048600) (hdk : deskB xs L = true) (hrd : rdDB s.data.toList = false) (h0 : s.data.toList = allW) (w : World) (h : DeskR w d xs L) :
    Calls Tryz.prog 21 #[d, .string s] w (LineD xs L (allA xs) w) := by
  have HDK := Lib.hid hdk; have HRD := Lib.hid hrd
  have hf := (deskB_iff.1 hdk).1
  have HF := Lib.hid hf
  have hl := famL_len hf
  obtain ⟨ta, hta⟩ : ∃ ta, bs (allA xs) = ta := ⟨_, rfl⟩
  unfold LineD
  rw [hta]
  have kh0 : (s.toList == [97, 108, 108]) = true := by rw [eqW]; exact decide_eq_true h0
  have hwl := wrap_low8 (a := xs.length) (by omega)
  have hpw := pow_bounds xs.length (by omega)
  obtain ⟨sv, hsv⟩ : ∃ sv : Int, (2 : Int) ^ xs.length - 1 = sv := ⟨_, rfl⟩
  have HSE := Lib.hid (show bs (setsW xs sv) = ta from by rw [← hta, ← hsv]; rfl)
  rw [hsv] at hwl
  have HSV := Lib.hid hwl; have HS0 := Lib.hid (show 0 ≤ sv by rw [← hsv]; omega)
  clear hwl hsv
  clear hdk hrd hta
  have hdd := h
  obtain ⟨a, c, b, c2, rfl, _⟩ := h.parts
  have q1 := alloc_below w (.cells #[.slice a xs.length c, .slice b L.length c2] 31)
  have q2 := alloc_below (w.alloc (.cells #[.slice a xs.length c, .slice b L.length c2] 31)) (.cells #[.slice none 0 0, .slice none 0 0] 31)
  have HV := Lib.hid ((VarD.new hdd).kept q2)
  have hbr := Blk2.new (w.alloc (.cells #[.slice a xs.length c, .slice b L.length c2] 31)) 31 (.slice none 0 0) (.slice none 0 0)
  rw [alloc_size] at hbr
  have HBR := Lib.hid hbr
  have HB := Lib.hid (below_onto q1 q2)
  obtain ⟨w2, hw2⟩ : ∃ w2, (w.alloc (.cells #[.slice a xs.length c, .slice b L.length c2] 31)).alloc (.cells #[.slice none 0 0, .slice none 0 0] 31) = w2 := ⟨_, rfl⟩
  rw [hw2] at HV HBR HB
  have hd0 := HV.out.blk.cell.1; have hd1 := HV.out.blk.cell.2
  clear h hdd q1 q2 hbr
  go_enter Tryz.func21, Tryz.ntmps21
  go_wp2_with fail
  clear hw2
  refine (specDeskOk_any _ xs L _ HV.out.d).mono ?_
  rintro e w3 ⟨rfl, hb⟩
  rw [HDK.out]
  replace HV := Lib.hid (HV.out.kept hb); replace HBR := Lib.hid (HBR.out.kept hb HBR.out.lt); replace HB := Lib.hid (below_onto HB.out hb)
  clear hb hd0 hd1
  have hd0 := HV.out.blk.cell.1; have hd1 := HV.out.blk.cell.2
  have HB3 := HB
  have HLT := Lib.hid (show w.heap.size + 1 < w3.heap.size from HBR.out.lt)
  go_wp2_with fail
  refine (l12Copy_any _ xs L HDK.out _ HV.out.d).mono ?_
  rintro e w4 ⟨v1, v2, rfl, hgo⟩
  have hg := hgo.desk
  obtain ⟨p1, e1, rfl⟩ := hg.one
  obtain ⟨p2, e2, rfl⟩ := hg.two
  have HG := Lib.hid hg
  have hal := alloc_below w4 (.cells #[.slice p1 xs.length e1, .slice p2 L.length e2] 31)
  have HO := Lib.hid (Blk2.new w4 31 (.slice p1 xs.length e1) (.slice p2 L.length e2))
  have HB4 := Lib.hid hal
  have hb := below_onto hg.below hal
  have HNO := Lib.hid (show w.heap.size + 1 < w4.heap.size from Nat.lt_of_lt_of_le HLT.out hg.below.size)
  replace HV := Lib.hid (HV.out.kept hb); replace HBR := Lib.hid (HBR.out.kept hb HBR.out.lt); replace HB := Lib.hid (below_onto HB.out hb)
  obtain ⟨w5, hw5⟩ : ∃ w5, w4.alloc (.cells #[.slice p1 xs.length e1, .slice p2 L.length e2] 31) = w5 := ⟨_, rfl⟩
  obtain ⟨O, hO⟩ : ∃ O, w4.heap.size = O := ⟨_, rfl⟩
  rw [hw5] at HV HBR HB HO HB4
  rw [hO] at HO HNO
  clear hgo hg hal hb hd0 hd1
  go_wp2_with fail
  clear hw5 hO
  refine (specReadDeed_any s hs _).mono ?_
  rintro e w6 ⟨rfl, hb⟩
  rw [HRD.out]
  obtain ⟨rk, hrk⟩ : ∃ rk, rdK s.data.toList = rk := ⟨_, rfl⟩
  obtain ⟨ry, hry⟩ : ∃ ry, rdY s.data.toList = ry := ⟨_, rfl⟩
  rw [hrk, hry]
  have hal := alloc_below w6 (.cells #[.int .i64 rk, .int .i64 ry] 39)
  have HE7 := Lib.hid (Blk2.new w6 39 (.int .i64 rk) (.int .i64 ry))
  replace hb := below_onto hb hal
  replace HV := Lib.hid (HV.out.kept hb); replace HBR := Lib.hid (HBR.out.kept hb HBR.out.lt); replace HB := Lib.hid (below_onto HB.out hb)
  replace HO := Lib.hid (HO.out.kept hb HO.out.lt); replace HB4 := Lib.hid (below_onto HB4.out hb)
  obtain ⟨w7, hw7⟩ : ∃ w7, w6.alloc (.cells #[.int .i64 rk, .int .i64 ry] 39) = w7 := ⟨_, rfl⟩
  obtain ⟨E, hE⟩ : ∃ E, w6.heap.size = E := ⟨_, rfl⟩
  rw [hw7] at HV HBR HB HO HB4 HE7
  rw [hE] at HE7
  have hd0 := HV.out.blk.cell.1; have hd1 := HV.out.blk.cell.2
  have HRK := Lib.hid hrk; have HRY := Lib.hid hry
  clear hb hal hrk hry
  go_wp2_with fail
  clear hw7 hE
  refine (specWorldFrom_any a xs.length c (fun j => xs.getD j 0) _ HV.out.d.now).mono ?_
  intro e w8 hg8
  obtain ⟨g, cap, rfl, hi, hb⟩ := wd_gives HF.out hg8
  have HI := Lib.hid hi
  replace HV := Lib.hid (HV.out.kept hb); replace HBR := Lib.hid (HBR.out.kept hb HBR.out.lt); replace HB := Lib.hid (below_onto HB.out hb)
  replace HO := Lib.hid (HO.out.kept hb HO.out.lt); replace HB4 := Lib.hid (below_onto HB4.out hb)
  clear hg8 hi hb hd0 hd1
  have HR := Lib.hid (show ∀ W', Below w8.heap.size w8 W' → Blk2 W' (w.heap.size + 1) 31 (.slice none 0 0) (.slice none 0 0) from fun W' hW => HBR.out.kept hW HBR.out.lt)
  have HKS := Lib.hid (show ∀ W', Below w8.heap.size w8 W' → (W'.cell? ⟨O, 0, none⟩ = some (.slice p1 xs.length e1) ∧ W'.cell? ⟨O, 1, none⟩ = some (.slice p2 L.length e2)) from fun W' hW => (HO.out.kept hW HO.out.lt).cell)
  have HKW := Lib.hid (show ∀ W' W'' : World, Below w8.heap.size w8 W' → W''.heap[O]? = W'.heap[O]? → (W''.cell? ⟨O, 0, none⟩ = some (.slice p1 xs.length e1) ∧ W''.cell? ⟨O, 1, none⟩ = some (.slice p2 L.length e2)) from fun W' W'' hW hW' => Blk2.cell (show Blk2 W'' O 31 _ _ from hW'.trans (HO.out.kept hW HO.out.lt)))
  have hn1 : ¬ O = w.heap.size + 1 := by have := HNO.out; omega
  have HN1 := Lib.hid hn1
  have HB6 := Lib.hid (Below.refl w8.heap.size w8)
  have hr0 := (HR.out _ HB6.out).cell.1; have hr1 := (HR.out _ HB6.out).cell.2; have hr2 := (HR.out _ HB6.out).frozen 0; have hr3 := (HR.out _ HB6.out).frozen 1
  go_upto_region 14 with fail
  go_region_held3 (fun W => W.cell? ⟨O, 0, none⟩ = some (.slice p1 xs.length e1) ∧ W.cell? ⟨O, 1, none⟩ = some (.slice p2 L.length e2)) (first | exact HKS.out _ HB6.out | exact HKS.out _ HB6.out.drew | exact HKS.out _ (below_drewN HB6.out _) | exact HKW.out _ _ HB6.out ((set_blk HN1.out).trans (set_blk HN1.out)) | go_keep)
    (first | (go_at_call 69; rw [HSV.out]; refine (l12Sets_any a c xs sv HS0.out HF.out _ (HV.out.d.now.below (by first | with_reducible exact HB6.out | with_reducible exact HB6.out.drew | with_reducible exact below_drewN HB6.out _) (Nat.le_refl _))).mono ?_; rintro e w9 ⟨rfl, rfl⟩; rw [HSE.out]))
  all_goals
    go_wp2_with fail
    refine bodyPost_ret (results_desk rfl _ _ (w.heap.size + 1) (((HR.out _ HB6.out).set0 _).set1 _) rfl rfl (by kernel_rfl)) rfl ?_
    first
      | exact ⟨_, _, rfl, HG.out.fin HB3.out (Nat.le_succ _) HLT.out (below_onto HB4.out HB6.out)⟩
      | exact ⟨_, _, rfl, (HG.out.fin HB3.out (Nat.le_succ _) HLT.out (below_onto HB4.out HB6.out)).drew⟩
set_option maxRecDepth 100000 in
theorem specLine_company (d : Value) (xs : List Int) (L : List (List Int)) (s : ByteArray) (hs : s.size ≤ 1048600) (hdk : deskB xs L = true) (hrd : rdDB s.data.toList = false) (h0 : s.data.toList ≠ allW) (h1 : s.data.toList = companyW) (w : World) (h : DeskR w d xs L) :
    Calls Tryz.prog 21 #[d, .string s] w (LineD xs L (companyA xs) w) := by
  have HDK := Lib.hid hdk; have HRD := Lib.hid hrd
  have hf := (deskB_iff.1 hdk).1
  have HF := Lib.hid hf
  have hl := famL_len hf
  obtain ⟨ta, hta⟩ : ∃ ta, bs (companyA xs) = ta := ⟨_, rfl⟩
  unfold LineD
  rw [hta]
  have kh0 : (s.toList == [97, 108, 108]) = false := by rw [eqW]; exact decide_eq_false h0
  have kh1 : (s.toList == [99, 111, 109, 112, 97, 110, 121]) = true := by rw [eqW]; exact decide_eq_true h1
  obtain ⟨ok, hok⟩ : ∃ ok, companyB xs.length (wdF xs) = ok := ⟨_, rfl⟩
  have HOK := Lib.hid hok
  have HE := Lib.hid (show bs (ynW ok) = ta from by rw [← hta, ← hok]; rfl)
  clear hok
  clear hdk hrd hta
  have hdd := h
  obtain ⟨a, c, b, c2, rfl, _⟩ := h.parts
  have q1 := alloc_below w (.cells #[.slice a xs.length c, .slice b L.length c2] 31)
  have q2 := alloc_below (w.alloc (.cells #[.slice a xs.length c, .slice b L.length c2] 31)) (.cells #[.slice none 0 0, .slice none 0 0] 31)
  have HV := Lib.hid ((VarD.new hdd).kept q2)
  have hbr := Blk2.new (w.alloc (.cells #[.slice a xs.length c, .slice b L.length c2] 31)) 31 (.slice none 0 0) (.slice none 0 0)
  rw [alloc_size] at hbr
  have HBR := Lib.hid hbr
  have HB := Lib.hid (below_onto q1 q2)
  obtain ⟨w2, hw2⟩ : ∃ w2, (w.alloc (.cells #[.slice a xs.length c, .slice b L.length c2] 31)).alloc (.cells #[.slice none 0 0, .slice none 0 0] 31) = w2 := ⟨_, rfl⟩
  rw [hw2] at HV HBR HB
  have hd0 := HV.out.blk.cell.1; have hd1 := HV.out.blk.cell.2
  clear h hdd q1 q2 hbr
  go_enter Tryz.func21, Tryz.ntmps21
  go_wp2_with fail
  clear hw2
  refine (specDeskOk_any _ xs L _ HV.out.d).mono ?_
  rintro e w3 ⟨rfl, hb⟩
  rw [HDK.out]
  replace HV := Lib.hid (HV.out.kept hb); replace HBR := Lib.hid (HBR.out.kept hb HBR.out.lt); replace HB := Lib.hid (below_onto HB.out hb)
  clear hb hd0 hd1
  have hd0 := HV.out.blk.cell.1; have hd1 := HV.out.blk.cell.2
  have HB3 := HB
  have HLT := Lib.hid (show w.heap.size + 1 < w3.heap.size from HBR.out.lt)
  go_wp2_with fail
  refine (l12Copy_any _ xs L HDK.out _ HV.out.d).mono ?_
  rintro e w4 ⟨v1, v2, rfl, hgo⟩
  have hg := hgo.desk
  obtain ⟨p1, e1, rfl⟩ := hg.one
  obtain ⟨p2, e2, rfl⟩ := hg.two
  have HG := Lib.hid hg
  have hal := alloc_below w4 (.cells #[.slice p1 xs.length e1, .slice p2 L.length e2] 31)
  have HO := Lib.hid (Blk2.new w4 31 (.slice p1 xs.length e1) (.slice p2 L.length e2))
  have HB4 := Lib.hid hal
  have hb := below_onto hg.below hal
  have HNO := Lib.hid (show w.heap.size + 1 < w4.heap.size from Nat.lt_of_lt_of_le HLT.out hg.below.size)
  replace HV := Lib.hid (HV.out.kept hb); replace HBR := Lib.hid (HBR.out.kept hb HBR.out.lt); replace HB := Lib.hid (below_onto HB.out hb)
  obtain ⟨w5, hw5⟩ : ∃ w5, w4.alloc (.cells #[.slice p1 xs.length e1, .slice p2 L.length e2] 31) = w5 := ⟨_, rfl⟩
  obtain ⟨O, hO⟩ : ∃ O, w4.heap.size = O := ⟨_, rfl⟩
  rw [hw5] at HV HBR HB HO HB4
  rw [hO] at HO HNO
  clear hgo hg hal hb hd0 hd1
  go_wp2_with fail
  clear hw5 hO
  refine (specReadDeed_any s hs _).mono ?_
  rintro e w6 ⟨rfl, hb⟩
  rw [HRD.out]
  obtain ⟨rk, hrk⟩ : ∃ rk, rdK s.data.toList = rk := ⟨_, rfl⟩
  obtain ⟨ry, hry⟩ : ∃ ry, rdY s.data.toList = ry := ⟨_, rfl⟩
  rw [hrk, hry]
  have hal := alloc_below w6 (.cells #[.int .i64 rk, .int .i64 ry] 39)
  have HE7 := Lib.hid (Blk2.new w6 39 (.int .i64 rk) (.int .i64 ry))
  replace hb := below_onto hb hal
  replace HV := Lib.hid (HV.out.kept hb); replace HBR := Lib.hid (HBR.out.kept hb HBR.out.lt); replace HB := Lib.hid (below_onto HB.out hb)
  replace HO := Lib.hid (HO.out.kept hb HO.out.lt); replace HB4 := Lib.hid (below_onto HB4.out hb)
  obtain ⟨w7, hw7⟩ : ∃ w7, w6.alloc (.cells #[.int .i64 rk, .int .i64 ry] 39) = w7 := ⟨_, rfl⟩
  obtain ⟨E, hE⟩ : ∃ E, w6.heap.size = E := ⟨_, rfl⟩
  rw [hw7] at HV HBR HB HO HB4 HE7
  rw [hE] at HE7
  have hd0 := HV.out.blk.cell.1; have hd1 := HV.out.blk.cell.2
  have HRK := Lib.hid hrk; have HRY := Lib.hid hry
  clear hb hal hrk hry
  go_wp2_with fail
  clear hw7 hE
  refine (specWorldFrom_any a xs.length c (fun j => xs.getD j 0) _ HV.out.d.now).mono ?_
  intro e w8 hg8
  obtain ⟨g, cap, rfl, hi, hb⟩ := wd_gives HF.out hg8
  have HI := Lib.hid hi
  replace HV := Lib.hid (HV.out.kept hb); replace HBR := Lib.hid (HBR.out.kept hb HBR.out.lt); replace HB := Lib.hid (below_onto HB.out hb)
  replace HO := Lib.hid (HO.out.kept hb HO.out.lt); replace HB4 := Lib.hid (below_onto HB4.out hb)
  clear hg8 hi hb hd0 hd1
  have HR := Lib.hid (show ∀ W', Below w8.heap.size w8 W' → Blk2 W' (w.heap.size + 1) 31 (.slice none 0 0) (.slice none 0 0) from fun W' hW => HBR.out.kept hW HBR.out.lt)
  have HKS := Lib.hid (show ∀ W', Below w8.heap.size w8 W' → (W'.cell? ⟨O, 0, none⟩ = some (.slice p1 xs.length e1) ∧ W'.cell? ⟨O, 1, none⟩ = some (.slice p2 L.length e2)) from fun W' hW => (HO.out.kept hW HO.out.lt).cell)
  have HKW := Lib.hid (show ∀ W' W'' : World, Below w8.heap.size w8 W' → W''.heap[O]? = W'.heap[O]? → (W''.cell? ⟨O, 0, none⟩ = some (.slice p1 xs.length e1) ∧ W''.cell? ⟨O, 1, none⟩ = some (.slice p2 L.length e2)) from fun W' W'' hW hW' => Blk2.cell (show Blk2 W'' O 31 _ _ from hW'.trans (HO.out.kept hW HO.out.lt)))
  have hn1 : ¬ O = w.heap.size + 1 := by have := HNO.out; omega
  have HN1 := Lib.hid hn1
  have HB6 := Lib.hid (Below.refl w8.heap.size w8)
  have hr0 := (HR.out _ HB6.out).cell.1; have hr1 := (HR.out _ HB6.out).cell.2; have hr2 := (HR.out _ HB6.out).frozen 0; have hr3 := (HR.out _ HB6.out).frozen 1
  go_upto_region 16 with fail
  go_region_held3 (fun W => W.cell? ⟨O, 0, none⟩ = some (.slice p1 xs.length e1) ∧ W.cell? ⟨O, 1, none⟩ = some (.slice p2 L.length e2)) (first | exact HKS.out _ HB6.out | exact HKS.out _ HB6.out.drew | exact HKS.out _ (below_drewN HB6.out _) | exact HKW.out _ _ HB6.out ((set_blk HN1.out).trans (set_blk HN1.out)) | go_keep)
    (first | (go_at_call 71; refine (specCompanyOk_any _ _ _ _ _ (by first | with_reducible exact HI.out.below HB6.out (Nat.le_refl _) | with_reducible exact HI.out.below HB6.out.drew (Nat.le_refl _) | with_reducible exact HI.out.below (below_drewN HB6.out _) (Nat.le_refl _))).mono ?_; rintro e w9 ⟨rfl, hd⟩; have hb := hd.below; clear hd; rw [HOK.out]; have HZ := Lib.hid (below_onto (show Below w8.heap.size w8 _ from (by first | with_reducible exact HB6.out | with_reducible exact HB6.out.drew | with_reducible exact below_drewN HB6.out _)) hb); clear HB6; have HB6 := HZ; clear HZ; clear hb; clear hr0 hr1 hr2 hr3; have hr0 := (HR.out _ HB6.out).cell.1; have hr1 := (HR.out _ HB6.out).cell.2; have hr2 := (HR.out _ HB6.out).frozen 0; have hr3 := (HR.out _ HB6.out).frozen 1) | (go_at_call 70; refine (l12Yes_any ok _).mono ?_; rintro e w10 ⟨rfl, rfl⟩; rw [HE.out]))
  all_goals
    go_wp2_with fail
    refine bodyPost_ret (results_desk rfl _ _ (w.heap.size + 1) (((HR.out _ HB6.out).set0 _).set1 _) rfl rfl (by kernel_rfl)) rfl ?_
    first
      | exact ⟨_, _, rfl, HG.out.fin HB3.out (Nat.le_succ _) HLT.out (below_onto HB4.out HB6.out)⟩
      | exact ⟨_, _, rfl, (HG.out.fin HB3.out (Nat.le_succ _) HLT.out (below_onto HB4.out HB6.out)).drew⟩
set_option maxRecDepth 100000 in
theorem specLine_weak (d : Value) (xs : List Int) (L : List (List Int)) (s : ByteArray) (hs : s.size ≤ 1048600) (hdk : deskB xs L = true) (hrd : rdDB s.data.toList = false) (h0 : s.data.toList ≠ allW) (h1 : s.data.toList ≠ companyW) (h2 : s.data.toList = weakW) (w : World) (h : DeskR w d xs L) :
    Calls Tryz.prog 21 #[d, .string s] w (LineD xs L (weakA xs) w) := by
  have HDK := Lib.hid hdk; have HRD := Lib.hid hrd
  have hf := (deskB_iff.1 hdk).1
  have HF := Lib.hid hf
  have hl := famL_len hf
  obtain ⟨ta, hta⟩ : ∃ ta, bs (weakA xs) = ta := ⟨_, rfl⟩
  unfold LineD
  rw [hta]
  have kh0 : (s.toList == [97, 108, 108]) = false := by rw [eqW]; exact decide_eq_false h0
  have kh1 : (s.toList == [99, 111, 109, 112, 97, 110, 121]) = false := by rw [eqW]; exact decide_eq_false h1
  have kh2 : (s.toList == [119, 101, 97, 107]) = true := by rw [eqW]; exact decide_eq_true h2
  obtain ⟨ok, hok⟩ : ∃ ok, weakB xs.length (wdF xs) = ok := ⟨_, rfl⟩
  have HOK := Lib.hid hok
  have HE := Lib.hid (show bs (ynW ok) = ta from by rw [← hta, ← hok]; rfl)
  clear hok
  clear hdk hrd hta
  have hdd := h
  obtain ⟨a, c, b, c2, rfl, _⟩ := h.parts
  have q1 := alloc_below w (.cells #[.slice a xs.length c, .slice b L.length c2] 31)
  have q2 := alloc_below (w.alloc (.cells #[.slice a xs.length c, .slice b L.length c2] 31)) (.cells #[.slice none 0 0, .slice none 0 0] 31)
  have HV := Lib.hid ((VarD.new hdd).kept q2)
  have hbr := Blk2.new (w.alloc (.cells #[.slice a xs.length c, .slice b L.length c2] 31)) 31 (.slice none 0 0) (.slice none 0 0)
  rw [alloc_size] at hbr
  have HBR := Lib.hid hbr
  have HB := Lib.hid (below_onto q1 q2)
  obtain ⟨w2, hw2⟩ : ∃ w2, (w.alloc (.cells #[.slice a xs.length c, .slice b L.length c2] 31)).alloc (.cells #[.slice none 0 0, .slice none 0 0] 31) = w2 := ⟨_, rfl⟩
  rw [hw2] at HV HBR HB
  have hd0 := HV.out.blk.cell.1; have hd1 := HV.out.blk.cell.2
  clear h hdd q1 q2 hbr
  go_enter Tryz.func21, Tryz.ntmps21
  go_wp2_with fail
  clear hw2
  refine (specDeskOk_any _ xs L _ HV.out.d).mono ?_
  rintro e w3 ⟨rfl, hb⟩
  rw [HDK.out]
  replace HV := Lib.hid (HV.out.kept hb); replace HBR := Lib.hid (HBR.out.kept hb HBR.out.lt); replace HB := Lib.hid (below_onto HB.out hb)
  clear hb hd0 hd1
  have hd0 := HV.out.blk.cell.1; have hd1 := HV.out.blk.cell.2
  have HB3 := HB
  have HLT := Lib.hid (show w.heap.size + 1 < w3.heap.size from HBR.out.lt)
  go_wp2_with fail
  refine (l12Copy_any _ xs L HDK.out _ HV.out.d).mono ?_
  rintro e w4 ⟨v1, v2, rfl, hgo⟩
  have hg := hgo.desk
  obtain ⟨p1, e1, rfl⟩ := hg.one
  obtain ⟨p2, e2, rfl⟩ := hg.two
  have HG := Lib.hid hg
  have hal := alloc_below w4 (.cells #[.slice p1 xs.length e1, .slice p2 L.length e2] 31)
  have HO := Lib.hid (Blk2.new w4 31 (.slice p1 xs.length e1) (.slice p2 L.length e2))
  have HB4 := Lib.hid hal
  have hb := below_onto hg.below hal
  have HNO := Lib.hid (show w.heap.size + 1 < w4.heap.size from Nat.lt_of_lt_of_le HLT.out hg.below.size)
  replace HV := Lib.hid (HV.out.kept hb); replace HBR := Lib.hid (HBR.out.kept hb HBR.out.lt); replace HB := Lib.hid (below_onto HB.out hb)
  obtain ⟨w5, hw5⟩ : ∃ w5, w4.alloc (.cells #[.slice p1 xs.length e1, .slice p2 L.length e2] 31) = w5 := ⟨_, rfl⟩
  obtain ⟨O, hO⟩ : ∃ O, w4.heap.size = O := ⟨_, rfl⟩
  rw [hw5] at HV HBR HB HO HB4
  rw [hO] at HO HNO
  clear hgo hg hal hb hd0 hd1
  go_wp2_with fail
  clear hw5 hO
  refine (specReadDeed_any s hs _).mono ?_
  rintro e w6 ⟨rfl, hb⟩
  rw [HRD.out]
  obtain ⟨rk, hrk⟩ : ∃ rk, rdK s.data.toList = rk := ⟨_, rfl⟩
  obtain ⟨ry, hry⟩ : ∃ ry, rdY s.data.toList = ry := ⟨_, rfl⟩
  rw [hrk, hry]
  have hal := alloc_below w6 (.cells #[.int .i64 rk, .int .i64 ry] 39)
  have HE7 := Lib.hid (Blk2.new w6 39 (.int .i64 rk) (.int .i64 ry))
  replace hb := below_onto hb hal
  replace HV := Lib.hid (HV.out.kept hb); replace HBR := Lib.hid (HBR.out.kept hb HBR.out.lt); replace HB := Lib.hid (below_onto HB.out hb)
  replace HO := Lib.hid (HO.out.kept hb HO.out.lt); replace HB4 := Lib.hid (below_onto HB4.out hb)
  obtain ⟨w7, hw7⟩ : ∃ w7, w6.alloc (.cells #[.int .i64 rk, .int .i64 ry] 39) = w7 := ⟨_, rfl⟩
  obtain ⟨E, hE⟩ : ∃ E, w6.heap.size = E := ⟨_, rfl⟩
  rw [hw7] at HV HBR HB HO HB4 HE7
  rw [hE] at HE7
  have hd0 := HV.out.blk.cell.1; have hd1 := HV.out.blk.cell.2
  have HRK := Lib.hid hrk; have HRY := Lib.hid hry
  clear hb hal hrk hry
  go_wp2_with fail
  clear hw7 hE
  refine (specWorldFrom_any a xs.length c (fun j => xs.getD j 0) _ HV.out.d.now).mono ?_
  intro e w8 hg8
  obtain ⟨g, cap, rfl, hi, hb⟩ := wd_gives HF.out hg8
  have HI := Lib.hid hi
  replace HV := Lib.hid (HV.out.kept hb); replace HBR := Lib.hid (HBR.out.kept hb HBR.out.lt); replace HB := Lib.hid (below_onto HB.out hb)
  replace HO := Lib.hid (HO.out.kept hb HO.out.lt); replace HB4 := Lib.hid (below_onto HB4.out hb)
  clear hg8 hi hb hd0 hd1
  have HR := Lib.hid (show ∀ W', Below w8.heap.size w8 W' → Blk2 W' (w.heap.size + 1) 31 (.slice none 0 0) (.slice none 0 0) from fun W' hW => HBR.out.kept hW HBR.out.lt)
  have HKS := Lib.hid (show ∀ W', Below w8.heap.size w8 W' → (W'.cell? ⟨O, 0, none⟩ = some (.slice p1 xs.length e1) ∧ W'.cell? ⟨O, 1, none⟩ = some (.slice p2 L.length e2)) from fun W' hW => (HO.out.kept hW HO.out.lt).cell)
  have HKW := Lib.hid (show ∀ W' W'' : World, Below w8.heap.size w8 W' → W''.heap[O]? = W'.heap[O]? → (W''.cell? ⟨O, 0, none⟩ = some (.slice p1 xs.length e1) ∧ W''.cell? ⟨O, 1, none⟩ = some (.slice p2 L.length e2)) from fun W' W'' hW hW' => Blk2.cell (show Blk2 W'' O 31 _ _ from hW'.trans (HO.out.kept hW HO.out.lt)))
  have hn1 : ¬ O = w.heap.size + 1 := by have := HNO.out; omega
  have HN1 := Lib.hid hn1
  have HB6 := Lib.hid (Below.refl w8.heap.size w8)
  have hr0 := (HR.out _ HB6.out).cell.1; have hr1 := (HR.out _ HB6.out).cell.2; have hr2 := (HR.out _ HB6.out).frozen 0; have hr3 := (HR.out _ HB6.out).frozen 1
  go_upto_region 18 with fail
  go_region_held3 (fun W => W.cell? ⟨O, 0, none⟩ = some (.slice p1 xs.length e1) ∧ W.cell? ⟨O, 1, none⟩ = some (.slice p2 L.length e2)) (first | exact HKS.out _ HB6.out | exact HKS.out _ HB6.out.drew | exact HKS.out _ (below_drewN HB6.out _) | exact HKW.out _ _ HB6.out ((set_blk HN1.out).trans (set_blk HN1.out)) | go_keep)
    (first | (go_at_call 72; refine (specWeakOk_any _ _ _ _ _ (by first | with_reducible exact HI.out.below HB6.out (Nat.le_refl _) | with_reducible exact HI.out.below HB6.out.drew (Nat.le_refl _) | with_reducible exact HI.out.below (below_drewN HB6.out _) (Nat.le_refl _))).mono ?_; rintro e w9 ⟨rfl, hd⟩; have hb := hd.below; clear hd; rw [HOK.out]; have HZ := Lib.hid (below_onto (show Below w8.heap.size w8 _ from (by first | with_reducible exact HB6.out | with_reducible exact HB6.out.drew | with_reducible exact below_drewN HB6.out _)) hb); clear HB6; have HB6 := HZ; clear HZ; clear hb; clear hr0 hr1 hr2 hr3; have hr0 := (HR.out _ HB6.out).cell.1; have hr1 := (HR.out _ HB6.out).cell.2; have hr2 := (HR.out _ HB6.out).frozen 0; have hr3 := (HR.out _ HB6.out).frozen 1) | (go_at_call 70; refine (l12Yes_any ok _).mono ?_; rintro e w10 ⟨rfl, rfl⟩; rw [HE.out]))
  all_goals
    go_wp2_with fail
    refine bodyPost_ret (results_desk rfl _ _ (w.heap.size + 1) (((HR.out _ HB6.out).set0 _).set1 _) rfl rfl (by kernel_rfl)) rfl ?_
    first
      | exact ⟨_, _, rfl, HG.out.fin HB3.out (Nat.le_succ _) HLT.out (below_onto HB4.out HB6.out)⟩
      | exact ⟨_, _, rfl, (HG.out.fin HB3.out (Nat.le_succ _) HLT.out (below_onto HB4.out HB6.out)).drew⟩
set_option maxRecDepth 100000 in
theorem specLine_strong (d : Value) (xs : List Int) (L : List (List Int)) (s : ByteArray) (hs : s.size ≤ 1048600) (hdk : deskB xs L = true) (hrd : rdDB s.data.toList = false) (h0 : s.data.toList ≠ allW) (h1 : s.data.toList ≠ companyW) (h2 : s.data.toList ≠ weakW) (h3 : s.data.toList = strongW) (w : World) (h : DeskR w d xs L) :
    Calls Tryz.prog 21 #[d, .string s] w (LineD xs L (strongA xs) w) := by
  have HDK := Lib.hid hdk; have HRD := Lib.hid hrd
  have hf := (deskB_iff.1 hdk).1
  have HF := Lib.hid hf
  have hl := famL_len hf
  obtain ⟨ta, hta⟩ : ∃ ta, bs (strongA xs) = ta := ⟨_, rfl⟩
  unfold LineD
  rw [hta]
  have kh0 : (s.toList == [97, 108, 108]) = false := by rw [eqW]; exact decide_eq_false h0
  have kh1 : (s.toList == [99, 111, 109, 112, 97, 110, 121]) = false := by rw [eqW]; exact decide_eq_false h1
  have kh2 : (s.toList == [119, 101, 97, 107]) = false := by rw [eqW]; exact decide_eq_false h2
  have kh3 : (s.toList == [115, 116, 114, 111, 110, 103]) = true := by rw [eqW]; exact decide_eq_true h3
  obtain ⟨ok, hok⟩ : ∃ ok, strongB xs.length (wdF xs) = ok := ⟨_, rfl⟩
  have HOK := Lib.hid hok
  have HE := Lib.hid (show bs (ynW ok) = ta from by rw [← hta, ← hok]; rfl)
  clear hok
  clear hdk hrd hta
  have hdd := h
  obtain ⟨a, c, b, c2, rfl, _⟩ := h.parts
  have q1 := alloc_below w (.cells #[.slice a xs.length c, .slice b L.length c2] 31)
  have q2 := alloc_below (w.alloc (.cells #[.slice a xs.length c, .slice b L.length c2] 31)) (.cells #[.slice none 0 0, .slice none 0 0] 31)
  have HV := Lib.hid ((VarD.new hdd).kept q2)
  have hbr := Blk2.new (w.alloc (.cells #[.slice a xs.length c, .slice b L.length c2] 31)) 31 (.slice none 0 0) (.slice none 0 0)
  rw [alloc_size] at hbr
  have HBR := Lib.hid hbr
  have HB := Lib.hid (below_onto q1 q2)
  obtain ⟨w2, hw2⟩ : ∃ w2, (w.alloc (.cells #[.slice a xs.length c, .slice b L.length c2] 31)).alloc (.cells #[.slice none 0 0, .slice none 0 0] 31) = w2 := ⟨_, rfl⟩
  rw [hw2] at HV HBR HB
  have hd0 := HV.out.blk.cell.1; have hd1 := HV.out.blk.cell.2
  clear h hdd q1 q2 hbr
  go_enter Tryz.func21, Tryz.ntmps21
  go_wp2_with fail
  clear hw2
  refine (specDeskOk_any _ xs L _ HV.out.d).mono ?_
  rintro e w3 ⟨rfl, hb⟩
  rw [HDK.out]
  replace HV := Lib.hid (HV.out.kept hb); replace HBR := Lib.hid (HBR.out.kept hb HBR.out.lt); replace HB := Lib.hid (below_onto HB.out hb)
  clear hb hd0 hd1
  have hd0 := HV.out.blk.cell.1; have hd1 := HV.out.blk.cell.2
  have HB3 := HB
  have HLT := Lib.hid (show w.heap.size + 1 < w3.heap.size from HBR.out.lt)
  go_wp2_with fail
  refine (l12Copy_any _ xs L HDK.out _ HV.out.d).mono ?_
  rintro e w4 ⟨v1, v2, rfl, hgo⟩
  have hg := hgo.desk
  obtain ⟨p1, e1, rfl⟩ := hg.one
  obtain ⟨p2, e2, rfl⟩ := hg.two
  have HG := Lib.hid hg
  have hal := alloc_below w4 (.cells #[.slice p1 xs.length e1, .slice p2 L.length e2] 31)
  have HO := Lib.hid (Blk2.new w4 31 (.slice p1 xs.length e1) (.slice p2 L.length e2))
  have HB4 := Lib.hid hal
  have hb := below_onto hg.below hal
  have HNO := Lib.hid (show w.heap.size + 1 < w4.heap.size from Nat.lt_of_lt_of_le HLT.out hg.below.size)
  replace HV := Lib.hid (HV.out.kept hb); replace HBR := Lib.hid (HBR.out.kept hb HBR.out.lt); replace HB := Lib.hid (below_onto HB.out hb)
  obtain ⟨w5, hw5⟩ : ∃ w5, w4.alloc (.cells #[.slice p1 xs.length e1, .slice p2 L.length e2] 31) = w5 := ⟨_, rfl⟩
  obtain ⟨O, hO⟩ : ∃ O, w4.heap.size = O := ⟨_, rfl⟩
  rw [hw5] at HV HBR HB HO HB4
  rw [hO] at HO HNO
  clear hgo hg hal hb hd0 hd1
  go_wp2_with fail
  clear hw5 hO
  refine (specReadDeed_any s hs _).mono ?_
  rintro e w6 ⟨rfl, hb⟩
  rw [HRD.out]
  obtain ⟨rk, hrk⟩ : ∃ rk, rdK s.data.toList = rk := ⟨_, rfl⟩
  obtain ⟨ry, hry⟩ : ∃ ry, rdY s.data.toList = ry := ⟨_, rfl⟩
  rw [hrk, hry]
  have hal := alloc_below w6 (.cells #[.int .i64 rk, .int .i64 ry] 39)
  have HE7 := Lib.hid (Blk2.new w6 39 (.int .i64 rk) (.int .i64 ry))
  replace hb := below_onto hb hal
  replace HV := Lib.hid (HV.out.kept hb); replace HBR := Lib.hid (HBR.out.kept hb HBR.out.lt); replace HB := Lib.hid (below_onto HB.out hb)
  replace HO := Lib.hid (HO.out.kept hb HO.out.lt); replace HB4 := Lib.hid (below_onto HB4.out hb)
  obtain ⟨w7, hw7⟩ : ∃ w7, w6.alloc (.cells #[.int .i64 rk, .int .i64 ry] 39) = w7 := ⟨_, rfl⟩
  obtain ⟨E, hE⟩ : ∃ E, w6.heap.size = E := ⟨_, rfl⟩
  rw [hw7] at HV HBR HB HO HB4 HE7
  rw [hE] at HE7
  have hd0 := HV.out.blk.cell.1; have hd1 := HV.out.blk.cell.2
  have HRK := Lib.hid hrk; have HRY := Lib.hid hry
  clear hb hal hrk hry
  go_wp2_with fail
  clear hw7 hE
  refine (specWorldFrom_any a xs.length c (fun j => xs.getD j 0) _ HV.out.d.now).mono ?_
  intro e w8 hg8
  obtain ⟨g, cap, rfl, hi, hb⟩ := wd_gives HF.out hg8
  have HI := Lib.hid hi
  replace HV := Lib.hid (HV.out.kept hb); replace HBR := Lib.hid (HBR.out.kept hb HBR.out.lt); replace HB := Lib.hid (below_onto HB.out hb)
  replace HO := Lib.hid (HO.out.kept hb HO.out.lt); replace HB4 := Lib.hid (below_onto HB4.out hb)
  clear hg8 hi hb hd0 hd1
  have HR := Lib.hid (show ∀ W', Below w8.heap.size w8 W' → Blk2 W' (w.heap.size + 1) 31 (.slice none 0 0) (.slice none 0 0) from fun W' hW => HBR.out.kept hW HBR.out.lt)
  have HKS := Lib.hid (show ∀ W', Below w8.heap.size w8 W' → (W'.cell? ⟨O, 0, none⟩ = some (.slice p1 xs.length e1) ∧ W'.cell? ⟨O, 1, none⟩ = some (.slice p2 L.length e2)) from fun W' hW => (HO.out.kept hW HO.out.lt).cell)
  have HKW := Lib.hid (show ∀ W' W'' : World, Below w8.heap.size w8 W' → W''.heap[O]? = W'.heap[O]? → (W''.cell? ⟨O, 0, none⟩ = some (.slice p1 xs.length e1) ∧ W''.cell? ⟨O, 1, none⟩ = some (.slice p2 L.length e2)) from fun W' W'' hW hW' => Blk2.cell (show Blk2 W'' O 31 _ _ from hW'.trans (HO.out.kept hW HO.out.lt)))
  have hn1 : ¬ O = w.heap.size + 1 := by have := HNO.out; omega
  have HN1 := Lib.hid hn1
  have HB6 := Lib.hid (Below.refl w8.heap.size w8)
  have hr0 := (HR.out _ HB6.out).cell.1; have hr1 := (HR.out _ HB6.out).cell.2; have hr2 := (HR.out _ HB6.out).frozen 0; have hr3 := (HR.out _ HB6.out).frozen 1
  go_upto_region 20 with fail
  go_region_held3 (fun W => W.cell? ⟨O, 0, none⟩ = some (.slice p1 xs.length e1) ∧ W.cell? ⟨O, 1, none⟩ = some (.slice p2 L.length e2)) (first | exact HKS.out _ HB6.out | exact HKS.out _ HB6.out.drew | exact HKS.out _ (below_drewN HB6.out _) | exact HKW.out _ _ HB6.out ((set_blk HN1.out).trans (set_blk HN1.out)) | go_keep)
    (first | (go_at_call 73; refine (specStrongOk_any _ _ _ _ _ (by first | with_reducible exact HI.out.below HB6.out (Nat.le_refl _) | with_reducible exact HI.out.below HB6.out.drew (Nat.le_refl _) | with_reducible exact HI.out.below (below_drewN HB6.out _) (Nat.le_refl _))).mono ?_; rintro e w9 ⟨rfl, hd⟩; have hb := hd.below; clear hd; rw [HOK.out]; have HZ := Lib.hid (below_onto (show Below w8.heap.size w8 _ from (by first | with_reducible exact HB6.out | with_reducible exact HB6.out.drew | with_reducible exact below_drewN HB6.out _)) hb); clear HB6; have HB6 := HZ; clear HZ; clear hb; clear hr0 hr1 hr2 hr3; have hr0 := (HR.out _ HB6.out).cell.1; have hr1 := (HR.out _ HB6.out).cell.2; have hr2 := (HR.out _ HB6.out).frozen 0; have hr3 := (HR.out _ HB6.out).frozen 1) | (go_at_call 70; refine (l12Yes_any ok _).mono ?_; rintro e w10 ⟨rfl, rfl⟩; rw [HE.out]))
  all_goals
    go_wp2_with fail
    refine bodyPost_ret (results_desk rfl _ _ (w.heap.size + 1) (((HR.out _ HB6.out).set0 _).set1 _) rfl rfl (by kernel_rfl)) rfl ?_
    first
      | exact ⟨_, _, rfl, HG.out.fin HB3.out (Nat.le_succ _) HLT.out (below_onto HB4.out HB6.out)⟩
      | exact ⟨_, _, rfl, (HG.out.fin HB3.out (Nat.le_succ _) HLT.out (below_onto HB4.out HB6.out)).drew⟩
set_option maxRecDepth 100000 in
theorem specLine_summed (d : Value) (xs : List Int) (L : List (List Int)) (s : ByteArray) (hs : s.size ≤ 1048600) (hdk : deskB xs L = true) (hrd : rdDB s.data.toList = false) (h0 : s.data.toList ≠ allW) (h1 : s.data.toList ≠ companyW) (h2 : s.data.toList ≠ weakW) (h3 : s.data.toList ≠ strongW) (h4 : s.data.toList = summedW) (w : World) (h : DeskR w d xs L) :
    Calls Tryz.prog 21 #[d, .string s] w (LineD xs L (summedA xs) w) := by
  have HDK := Lib.hid hdk; have HRD := Lib.hid hrd
  have hf := (deskB_iff.1 hdk).1
  have HF := Lib.hid hf
  have hl := famL_len hf
  obtain ⟨ta, hta⟩ : ∃ ta, bs (summedA xs) = ta := ⟨_, rfl⟩
  unfold LineD
  rw [hta]
  have kh0 : (s.toList == [97, 108, 108]) = false := by rw [eqW]; exact decide_eq_false h0
  have kh1 : (s.toList == [99, 111, 109, 112, 97, 110, 121]) = false := by rw [eqW]; exact decide_eq_false h1
  have kh2 : (s.toList == [119, 101, 97, 107]) = false := by rw [eqW]; exact decide_eq_false h2
  have kh3 : (s.toList == [115, 116, 114, 111, 110, 103]) = false := by rw [eqW]; exact decide_eq_false h3
  have kh4 : (s.toList == [115, 117, 109, 109, 101, 100]) = true := by rw [eqW]; exact decide_eq_true h4
  obtain ⟨ok, hok⟩ : ∃ ok, summedB xs.length (wdF xs) = ok := ⟨_, rfl⟩
  have HOK := Lib.hid hok
  have HE := Lib.hid (show bs (ynW ok) = ta from by rw [← hta, ← hok]; rfl)
  clear hok
  clear hdk hrd hta
  have hdd := h
  obtain ⟨a, c, b, c2, rfl, _⟩ := h.parts
  have q1 := alloc_below w (.cells #[.slice a xs.length c, .slice b L.length c2] 31)
  have q2 := alloc_below (w.alloc (.cells #[.slice a xs.length c, .slice b L.length c2] 31)) (.cells #[.slice none 0 0, .slice none 0 0] 31)
  have HV := Lib.hid ((VarD.new hdd).kept q2)
  have hbr := Blk2.new (w.alloc (.cells #[.slice a xs.length c, .slice b L.length c2] 31)) 31 (.slice none 0 0) (.slice none 0 0)
  rw [alloc_size] at hbr
  have HBR := Lib.hid hbr
  have HB := Lib.hid (below_onto q1 q2)
  obtain ⟨w2, hw2⟩ : ∃ w2, (w.alloc (.cells #[.slice a xs.length c, .slice b L.length c2] 31)).alloc (.cells #[.slice none 0 0, .slice none 0 0] 31) = w2 := ⟨_, rfl⟩
  rw [hw2] at HV HBR HB
  have hd0 := HV.out.blk.cell.1; have hd1 := HV.out.blk.cell.2
  clear h hdd q1 q2 hbr
  go_enter Tryz.func21, Tryz.ntmps21
  go_wp2_with fail
  clear hw2
  refine (specDeskOk_any _ xs L _ HV.out.d).mono ?_
  rintro e w3 ⟨rfl, hb⟩
  rw [HDK.out]
  replace HV := Lib.hid (HV.out.kept hb); replace HBR := Lib.hid (HBR.out.kept hb HBR.out.lt); replace HB := Lib.hid (below_onto HB.out hb)
  clear hb hd0 hd1
  have hd0 := HV.out.blk.cell.1; have hd1 := HV.out.blk.cell.2
  have HB3 := HB
  have HLT := Lib.hid (show w.heap.size + 1 < w3.heap.size from HBR.out.lt)
  go_wp2_with fail
  refine (l12Copy_any _ xs L HDK.out _ HV.out.d).mono ?_
  rintro e w4 ⟨v1, v2, rfl, hgo⟩
  have hg := hgo.desk
  obtain ⟨p1, e1, rfl⟩ := hg.one
  obtain ⟨p2, e2, rfl⟩ := hg.two
  have HG := Lib.hid hg
  have hal := alloc_below w4 (.cells #[.slice p1 xs.length e1, .slice p2 L.length e2] 31)
  have HO := Lib.hid (Blk2.new w4 31 (.slice p1 xs.length e1) (.slice p2 L.length e2))
  have HB4 := Lib.hid hal
  have hb := below_onto hg.below hal
  have HNO := Lib.hid (show w.heap.size + 1 < w4.heap.size from Nat.lt_of_lt_of_le HLT.out hg.below.size)
  replace HV := Lib.hid (HV.out.kept hb); replace HBR := Lib.hid (HBR.out.kept hb HBR.out.lt); replace HB := Lib.hid (below_onto HB.out hb)
  obtain ⟨w5, hw5⟩ : ∃ w5, w4.alloc (.cells #[.slice p1 xs.length e1, .slice p2 L.length e2] 31) = w5 := ⟨_, rfl⟩
  obtain ⟨O, hO⟩ : ∃ O, w4.heap.size = O := ⟨_, rfl⟩
  rw [hw5] at HV HBR HB HO HB4
  rw [hO] at HO HNO
  clear hgo hg hal hb hd0 hd1
  go_wp2_with fail
  clear hw5 hO
  refine (specReadDeed_any s hs _).mono ?_
  rintro e w6 ⟨rfl, hb⟩
  rw [HRD.out]
  obtain ⟨rk, hrk⟩ : ∃ rk, rdK s.data.toList = rk := ⟨_, rfl⟩
  obtain ⟨ry, hry⟩ : ∃ ry, rdY s.data.toList = ry := ⟨_, rfl⟩
  rw [hrk, hry]
  have hal := alloc_below w6 (.cells #[.int .i64 rk, .int .i64 ry] 39)
  have HE7 := Lib.hid (Blk2.new w6 39 (.int .i64 rk) (.int .i64 ry))
  replace hb := below_onto hb hal
  replace HV := Lib.hid (HV.out.kept hb); replace HBR := Lib.hid (HBR.out.kept hb HBR.out.lt); replace HB := Lib.hid (below_onto HB.out hb)
  replace HO := Lib.hid (HO.out.kept hb HO.out.lt); replace HB4 := Lib.hid (below_onto HB4.out hb)
  obtain ⟨w7, hw7⟩ : ∃ w7, w6.alloc (.cells #[.int .i64 rk, .int .i64 ry] 39) = w7 := ⟨_, rfl⟩
  obtain ⟨E, hE⟩ : ∃ E, w6.heap.size = E := ⟨_, rfl⟩
  rw [hw7] at HV HBR HB HO HB4 HE7
  rw [hE] at HE7
  have hd0 := HV.out.blk.cell.1; have hd1 := HV.out.blk.cell.2
  have HRK := Lib.hid hrk; have HRY := Lib.hid hry
  clear hb hal hrk hry
  go_wp2_with fail
  clear hw7 hE
  refine (specWorldFrom_any a xs.length c (fun j => xs.getD j 0) _ HV.out.d.now).mono ?_
  intro e w8 hg8
  obtain ⟨g, cap, rfl, hi, hb⟩ := wd_gives HF.out hg8
  have HI := Lib.hid hi
  replace HV := Lib.hid (HV.out.kept hb); replace HBR := Lib.hid (HBR.out.kept hb HBR.out.lt); replace HB := Lib.hid (below_onto HB.out hb)
  replace HO := Lib.hid (HO.out.kept hb HO.out.lt); replace HB4 := Lib.hid (below_onto HB4.out hb)
  clear hg8 hi hb hd0 hd1
  have HR := Lib.hid (show ∀ W', Below w8.heap.size w8 W' → Blk2 W' (w.heap.size + 1) 31 (.slice none 0 0) (.slice none 0 0) from fun W' hW => HBR.out.kept hW HBR.out.lt)
  have HKS := Lib.hid (show ∀ W', Below w8.heap.size w8 W' → (W'.cell? ⟨O, 0, none⟩ = some (.slice p1 xs.length e1) ∧ W'.cell? ⟨O, 1, none⟩ = some (.slice p2 L.length e2)) from fun W' hW => (HO.out.kept hW HO.out.lt).cell)
  have HKW := Lib.hid (show ∀ W' W'' : World, Below w8.heap.size w8 W' → W''.heap[O]? = W'.heap[O]? → (W''.cell? ⟨O, 0, none⟩ = some (.slice p1 xs.length e1) ∧ W''.cell? ⟨O, 1, none⟩ = some (.slice p2 L.length e2)) from fun W' W'' hW hW' => Blk2.cell (show Blk2 W'' O 31 _ _ from hW'.trans (HO.out.kept hW HO.out.lt)))
  have hn1 : ¬ O = w.heap.size + 1 := by have := HNO.out; omega
  have HN1 := Lib.hid hn1
  have HB6 := Lib.hid (Below.refl w8.heap.size w8)
  have hr0 := (HR.out _ HB6.out).cell.1; have hr1 := (HR.out _ HB6.out).cell.2; have hr2 := (HR.out _ HB6.out).frozen 0; have hr3 := (HR.out _ HB6.out).frozen 1
  go_upto_region 22 with fail
  go_region_held3 (fun W => W.cell? ⟨O, 0, none⟩ = some (.slice p1 xs.length e1) ∧ W.cell? ⟨O, 1, none⟩ = some (.slice p2 L.length e2)) (first | exact HKS.out _ HB6.out | exact HKS.out _ HB6.out.drew | exact HKS.out _ (below_drewN HB6.out _) | exact HKW.out _ _ HB6.out ((set_blk HN1.out).trans (set_blk HN1.out)) | go_keep)
    (first | (go_at_call 74; refine (specSummedOk_any _ _ _ _ _ (by first | with_reducible exact HI.out.below HB6.out (Nat.le_refl _) | with_reducible exact HI.out.below HB6.out.drew (Nat.le_refl _) | with_reducible exact HI.out.below (below_drewN HB6.out _) (Nat.le_refl _))).mono ?_; rintro e w9 ⟨rfl, hd⟩; have hb := hd.below; clear hd; rw [HOK.out]; have HZ := Lib.hid (below_onto (show Below w8.heap.size w8 _ from (by first | with_reducible exact HB6.out | with_reducible exact HB6.out.drew | with_reducible exact below_drewN HB6.out _)) hb); clear HB6; have HB6 := HZ; clear HZ; clear hb; clear hr0 hr1 hr2 hr3; have hr0 := (HR.out _ HB6.out).cell.1; have hr1 := (HR.out _ HB6.out).cell.2; have hr2 := (HR.out _ HB6.out).frozen 0; have hr3 := (HR.out _ HB6.out).frozen 1) | (go_at_call 70; refine (l12Yes_any ok _).mono ?_; rintro e w10 ⟨rfl, rfl⟩; rw [HE.out]))
  all_goals
    go_wp2_with fail
    refine bodyPost_ret (results_desk rfl _ _ (w.heap.size + 1) (((HR.out _ HB6.out).set0 _).set1 _) rfl rfl (by kernel_rfl)) rfl ?_
    first
      | exact ⟨_, _, rfl, HG.out.fin HB3.out (Nat.le_succ _) HLT.out (below_onto HB4.out HB6.out)⟩
      | exact ⟨_, _, rfl, (HG.out.fin HB3.out (Nat.le_succ _) HLT.out (below_onto HB4.out HB6.out)).drew⟩
set_option maxRecDepth 100000 in
theorem specLine_classical (d : Value) (xs : List Int) (L : List (List Int)) (s : ByteArray) (hs : s.size ≤ 1048600) (hdk : deskB xs L = true) (hrd : rdDB s.data.toList = false) (h0 : s.data.toList ≠ allW) (h1 : s.data.toList ≠ companyW) (h2 : s.data.toList ≠ weakW) (h3 : s.data.toList ≠ strongW) (h4 : s.data.toList ≠ summedW) (h5 : s.data.toList = classicalW) (w : World) (h : DeskR w d xs L) :
    Calls Tryz.prog 21 #[d, .string s] w (LineD xs L (classicalA xs) w) := by
  have HDK := Lib.hid hdk; have HRD := Lib.hid hrd
  have hf := (deskB_iff.1 hdk).1
  have HF := Lib.hid hf
  have hl := famL_len hf
  obtain ⟨ta, hta⟩ : ∃ ta, bs (classicalA xs) = ta := ⟨_, rfl⟩
  unfold LineD
  rw [hta]
  have kh0 : (s.toList == [97, 108, 108]) = false := by rw [eqW]; exact decide_eq_false h0
  have kh1 : (s.toList == [99, 111, 109, 112, 97, 110, 121]) = false := by rw [eqW]; exact decide_eq_false h1
  have kh2 : (s.toList == [119, 101, 97, 107]) = false := by rw [eqW]; exact decide_eq_false h2
  have kh3 : (s.toList == [115, 116, 114, 111, 110, 103]) = false := by rw [eqW]; exact decide_eq_false h3
  have kh4 : (s.toList == [115, 117, 109, 109, 101, 100]) = false := by rw [eqW]; exact decide_eq_false h4
  have kh5 : (s.toList == [99, 108, 97, 115, 115, 105, 99, 97, 108]) = true := by rw [eqW]; exact decide_eq_true h5
  obtain ⟨ok, hok⟩ : ∃ ok, classB xs.length (wdF xs) = ok := ⟨_, rfl⟩
  have HOK := Lib.hid hok
  have HE := Lib.hid (show bs (ynW ok) = ta from by rw [← hta, ← hok]; rfl)
  clear hok
  clear hdk hrd hta
  have hdd := h
  obtain ⟨a, c, b, c2, rfl, _⟩ := h.parts
  have q1 := alloc_below w (.cells #[.slice a xs.length c, .slice b L.length c2] 31)
  have q2 := alloc_below (w.alloc (.cells #[.slice a xs.length c, .slice b L.length c2] 31)) (.cells #[.slice none 0 0, .slice none 0 0] 31)
  have HV := Lib.hid ((VarD.new hdd).kept q2)
  have hbr := Blk2.new (w.alloc (.cells #[.slice a xs.length c, .slice b L.length c2] 31)) 31 (.slice none 0 0) (.slice none 0 0)
  rw [alloc_size] at hbr
  have HBR := Lib.hid hbr
  have HB := Lib.hid (below_onto q1 q2)
  obtain ⟨w2, hw2⟩ : ∃ w2, (w.alloc (.cells #[.slice a xs.length c, .slice b L.length c2] 31)).alloc (.cells #[.slice none 0 0, .slice none 0 0] 31) = w2 := ⟨_, rfl⟩
  rw [hw2] at HV HBR HB
  have hd0 := HV.out.blk.cell.1; have hd1 := HV.out.blk.cell.2
  clear h hdd q1 q2 hbr
  go_enter Tryz.func21, Tryz.ntmps21
  go_wp2_with fail
  clear hw2
  refine (specDeskOk_any _ xs L _ HV.out.d).mono ?_
  rintro e w3 ⟨rfl, hb⟩
  rw [HDK.out]
  replace HV := Lib.hid (HV.out.kept hb); replace HBR := Lib.hid (HBR.out.kept hb HBR.out.lt); replace HB := Lib.hid (below_onto HB.out hb)
  clear hb hd0 hd1
  have hd0 := HV.out.blk.cell.1; have hd1 := HV.out.blk.cell.2
  have HB3 := HB
  have HLT := Lib.hid (show w.heap.size + 1 < w3.heap.size from HBR.out.lt)
  go_wp2_with fail
  refine (l12Copy_any _ xs L HDK.out _ HV.out.d).mono ?_
  rintro e w4 ⟨v1, v2, rfl, hgo⟩
  have hg := hgo.desk
  obtain ⟨p1, e1, rfl⟩ := hg.one
  obtain ⟨p2, e2, rfl⟩ := hg.two
  have HG := Lib.hid hg
  have hal := alloc_below w4 (.cells #[.slice p1 xs.length e1, .slice p2 L.length e2] 31)
  have HO := Lib.hid (Blk2.new w4 31 (.slice p1 xs.length e1) (.slice p2 L.length e2))
  have HB4 := Lib.hid hal
  have hb := below_onto hg.below hal
  have HNO := Lib.hid (show w.heap.size + 1 < w4.heap.size from Nat.lt_of_lt_of_le HLT.out hg.below.size)
  replace HV := Lib.hid (HV.out.kept hb); replace HBR := Lib.hid (HBR.out.kept hb HBR.out.lt); replace HB := Lib.hid (below_onto HB.out hb)
  obtain ⟨w5, hw5⟩ : ∃ w5, w4.alloc (.cells #[.slice p1 xs.length e1, .slice p2 L.length e2] 31) = w5 := ⟨_, rfl⟩
  obtain ⟨O, hO⟩ : ∃ O, w4.heap.size = O := ⟨_, rfl⟩
  rw [hw5] at HV HBR HB HO HB4
  rw [hO] at HO HNO
  clear hgo hg hal hb hd0 hd1
  go_wp2_with fail
  clear hw5 hO
  refine (specReadDeed_any s hs _).mono ?_
  rintro e w6 ⟨rfl, hb⟩
  rw [HRD.out]
  obtain ⟨rk, hrk⟩ : ∃ rk, rdK s.data.toList = rk := ⟨_, rfl⟩
  obtain ⟨ry, hry⟩ : ∃ ry, rdY s.data.toList = ry := ⟨_, rfl⟩
  rw [hrk, hry]
  have hal := alloc_below w6 (.cells #[.int .i64 rk, .int .i64 ry] 39)
  have HE7 := Lib.hid (Blk2.new w6 39 (.int .i64 rk) (.int .i64 ry))
  replace hb := below_onto hb hal
  replace HV := Lib.hid (HV.out.kept hb); replace HBR := Lib.hid (HBR.out.kept hb HBR.out.lt); replace HB := Lib.hid (below_onto HB.out hb)
  replace HO := Lib.hid (HO.out.kept hb HO.out.lt); replace HB4 := Lib.hid (below_onto HB4.out hb)
  obtain ⟨w7, hw7⟩ : ∃ w7, w6.alloc (.cells #[.int .i64 rk, .int .i64 ry] 39) = w7 := ⟨_, rfl⟩
  obtain ⟨E, hE⟩ : ∃ E, w6.heap.size = E := ⟨_, rfl⟩
  rw [hw7] at HV HBR HB HO HB4 HE7
  rw [hE] at HE7
  have hd0 := HV.out.blk.cell.1; have hd1 := HV.out.blk.cell.2
  have HRK := Lib.hid hrk; have HRY := Lib.hid hry
  clear hb hal hrk hry
  go_wp2_with fail
  clear hw7 hE
  refine (specWorldFrom_any a xs.length c (fun j => xs.getD j 0) _ HV.out.d.now).mono ?_
  intro e w8 hg8
  obtain ⟨g, cap, rfl, hi, hb⟩ := wd_gives HF.out hg8
  have HI := Lib.hid hi
  replace HV := Lib.hid (HV.out.kept hb); replace HBR := Lib.hid (HBR.out.kept hb HBR.out.lt); replace HB := Lib.hid (below_onto HB.out hb)
  replace HO := Lib.hid (HO.out.kept hb HO.out.lt); replace HB4 := Lib.hid (below_onto HB4.out hb)
  clear hg8 hi hb hd0 hd1
  have HR := Lib.hid (show ∀ W', Below w8.heap.size w8 W' → Blk2 W' (w.heap.size + 1) 31 (.slice none 0 0) (.slice none 0 0) from fun W' hW => HBR.out.kept hW HBR.out.lt)
  have HKS := Lib.hid (show ∀ W', Below w8.heap.size w8 W' → (W'.cell? ⟨O, 0, none⟩ = some (.slice p1 xs.length e1) ∧ W'.cell? ⟨O, 1, none⟩ = some (.slice p2 L.length e2)) from fun W' hW => (HO.out.kept hW HO.out.lt).cell)
  have HKW := Lib.hid (show ∀ W' W'' : World, Below w8.heap.size w8 W' → W''.heap[O]? = W'.heap[O]? → (W''.cell? ⟨O, 0, none⟩ = some (.slice p1 xs.length e1) ∧ W''.cell? ⟨O, 1, none⟩ = some (.slice p2 L.length e2)) from fun W' W'' hW hW' => Blk2.cell (show Blk2 W'' O 31 _ _ from hW'.trans (HO.out.kept hW HO.out.lt)))
  have hn1 : ¬ O = w.heap.size + 1 := by have := HNO.out; omega
  have HN1 := Lib.hid hn1
  have HB6 := Lib.hid (Below.refl w8.heap.size w8)
  have hr0 := (HR.out _ HB6.out).cell.1; have hr1 := (HR.out _ HB6.out).cell.2; have hr2 := (HR.out _ HB6.out).frozen 0; have hr3 := (HR.out _ HB6.out).frozen 1
  go_upto_region 24 with fail
  go_region_held3 (fun W => W.cell? ⟨O, 0, none⟩ = some (.slice p1 xs.length e1) ∧ W.cell? ⟨O, 1, none⟩ = some (.slice p2 L.length e2)) (first | exact HKS.out _ HB6.out | exact HKS.out _ HB6.out.drew | exact HKS.out _ (below_drewN HB6.out _) | exact HKW.out _ _ HB6.out ((set_blk HN1.out).trans (set_blk HN1.out)) | go_keep)
    (first | (go_at_call 75; refine (specClassicalOk_any _ _ _ _ _ (by first | with_reducible exact HI.out.below HB6.out (Nat.le_refl _) | with_reducible exact HI.out.below HB6.out.drew (Nat.le_refl _) | with_reducible exact HI.out.below (below_drewN HB6.out _) (Nat.le_refl _))).mono ?_; rintro e w9 ⟨rfl, hd⟩; have hb := hd.below; clear hd; rw [HOK.out]; have HZ := Lib.hid (below_onto (show Below w8.heap.size w8 _ from (by first | with_reducible exact HB6.out | with_reducible exact HB6.out.drew | with_reducible exact below_drewN HB6.out _)) hb); clear HB6; have HB6 := HZ; clear HZ; clear hb; clear hr0 hr1 hr2 hr3; have hr0 := (HR.out _ HB6.out).cell.1; have hr1 := (HR.out _ HB6.out).cell.2; have hr2 := (HR.out _ HB6.out).frozen 0; have hr3 := (HR.out _ HB6.out).frozen 1) | (go_at_call 70; refine (l12Yes_any ok _).mono ?_; rintro e w10 ⟨rfl, rfl⟩; rw [HE.out]))
  all_goals
    go_wp2_with fail
    refine bodyPost_ret (results_desk rfl _ _ (w.heap.size + 1) (((HR.out _ HB6.out).set0 _).set1 _) rfl rfl (by kernel_rfl)) rfl ?_
    first
      | exact ⟨_, _, rfl, HG.out.fin HB3.out (Nat.le_succ _) HLT.out (below_onto HB4.out HB6.out)⟩
      | exact ⟨_, _, rfl, (HG.out.fin HB3.out (Nat.le_succ _) HLT.out (below_onto HB4.out HB6.out)).drew⟩
set_option maxRecDepth 100000 in
theorem specLine_atoms (d : Value) (xs : List Int) (L : List (List Int)) (s : ByteArray) (hs : s.size ≤ 1048600) (hdk : deskB xs L = true) (hrd : rdDB s.data.toList = false) (h0 : s.data.toList ≠ allW) (h1 : s.data.toList ≠ companyW) (h2 : s.data.toList ≠ weakW) (h3 : s.data.toList ≠ strongW) (h4 : s.data.toList ≠ summedW) (h5 : s.data.toList ≠ classicalW) (h6 : s.data.toList = atomsW) (w : World) (h : DeskR w d xs L) :
    Calls Tryz.prog 21 #[d, .string s] w (LineD xs L (atomsA xs) w) := by
  have HDK := Lib.hid hdk; have HRD := Lib.hid hrd
  have hf := (deskB_iff.1 hdk).1
  have HF := Lib.hid hf
  have hl := famL_len hf
  obtain ⟨ta, hta⟩ : ∃ ta, bs (atomsA xs) = ta := ⟨_, rfl⟩
  unfold LineD
  rw [hta]
  have kh0 : (s.toList == [97, 108, 108]) = false := by rw [eqW]; exact decide_eq_false h0
  have kh1 : (s.toList == [99, 111, 109, 112, 97, 110, 121]) = false := by rw [eqW]; exact decide_eq_false h1
  have kh2 : (s.toList == [119, 101, 97, 107]) = false := by rw [eqW]; exact decide_eq_false h2
  have kh3 : (s.toList == [115, 116, 114, 111, 110, 103]) = false := by rw [eqW]; exact decide_eq_false h3
  have kh4 : (s.toList == [115, 117, 109, 109, 101, 100]) = false := by rw [eqW]; exact decide_eq_false h4
  have kh5 : (s.toList == [99, 108, 97, 115, 115, 105, 99, 97, 108]) = false := by rw [eqW]; exact decide_eq_false h5
  have kh6 : (s.toList == [97, 116, 111, 109, 115]) = true := by rw [eqW]; exact decide_eq_true h6
  obtain ⟨sv, hsv⟩ : ∃ sv, atomsB xs.length (wdF xs) = sv := ⟨_, rfl⟩
  have HSE := Lib.hid (show bs (setsW xs sv) = ta from by rw [← hta, ← hsv]; rfl)
  have HSV := Lib.hid hsv; have HS0 := Lib.hid (show 0 ≤ sv by rw [← hsv]; unfold atomsB; rw [if_pos (wd_world hf)]; exact (setOf_rng _ _ (by omega)).1)
  clear hsv
  clear hdk hrd hta
  have hdd := h
  obtain ⟨a, c, b, c2, rfl, _⟩ := h.parts
  have q1 := alloc_below w (.cells #[.slice a xs.length c, .slice b L.length c2] 31)
  have q2 := alloc_below (w.alloc (.cells #[.slice a xs.length c, .slice b L.length c2] 31)) (.cells #[.slice none 0 0, .slice none 0 0] 31)
  have HV := Lib.hid ((VarD.new hdd).kept q2)
  have hbr := Blk2.new (w.alloc (.cells #[.slice a xs.length c, .slice b L.length c2] 31)) 31 (.slice none 0 0) (.slice none 0 0)
  rw [alloc_size] at hbr
  have HBR := Lib.hid hbr
  have HB := Lib.hid (below_onto q1 q2)
  obtain ⟨w2, hw2⟩ : ∃ w2, (w.alloc (.cells #[.slice a xs.length c, .slice b L.length c2] 31)).alloc (.cells #[.slice none 0 0, .slice none 0 0] 31) = w2 := ⟨_, rfl⟩
  rw [hw2] at HV HBR HB
  have hd0 := HV.out.blk.cell.1; have hd1 := HV.out.blk.cell.2
  clear h hdd q1 q2 hbr
  go_enter Tryz.func21, Tryz.ntmps21
  go_wp2_with fail
  clear hw2
  refine (specDeskOk_any _ xs L _ HV.out.d).mono ?_
  rintro e w3 ⟨rfl, hb⟩
  rw [HDK.out]
  replace HV := Lib.hid (HV.out.kept hb); replace HBR := Lib.hid (HBR.out.kept hb HBR.out.lt); replace HB := Lib.hid (below_onto HB.out hb)
  clear hb hd0 hd1
  have hd0 := HV.out.blk.cell.1; have hd1 := HV.out.blk.cell.2
  have HB3 := HB
  have HLT := Lib.hid (show w.heap.size + 1 < w3.heap.size from HBR.out.lt)
  go_wp2_with fail
  refine (l12Copy_any _ xs L HDK.out _ HV.out.d).mono ?_
  rintro e w4 ⟨v1, v2, rfl, hgo⟩
  have hg := hgo.desk
  obtain ⟨p1, e1, rfl⟩ := hg.one
  obtain ⟨p2, e2, rfl⟩ := hg.two
  have HG := Lib.hid hg
  have hal := alloc_below w4 (.cells #[.slice p1 xs.length e1, .slice p2 L.length e2] 31)
  have HO := Lib.hid (Blk2.new w4 31 (.slice p1 xs.length e1) (.slice p2 L.length e2))
  have HB4 := Lib.hid hal
  have hb := below_onto hg.below hal
  have HNO := Lib.hid (show w.heap.size + 1 < w4.heap.size from Nat.lt_of_lt_of_le HLT.out hg.below.size)
  replace HV := Lib.hid (HV.out.kept hb); replace HBR := Lib.hid (HBR.out.kept hb HBR.out.lt); replace HB := Lib.hid (below_onto HB.out hb)
  obtain ⟨w5, hw5⟩ : ∃ w5, w4.alloc (.cells #[.slice p1 xs.length e1, .slice p2 L.length e2] 31) = w5 := ⟨_, rfl⟩
  obtain ⟨O, hO⟩ : ∃ O, w4.heap.size = O := ⟨_, rfl⟩
  rw [hw5] at HV HBR HB HO HB4
  rw [hO] at HO HNO
  clear hgo hg hal hb hd0 hd1
  go_wp2_with fail
  clear hw5 hO
  refine (specReadDeed_any s hs _).mono ?_
  rintro e w6 ⟨rfl, hb⟩
  rw [HRD.out]
  obtain ⟨rk, hrk⟩ : ∃ rk, rdK s.data.toList = rk := ⟨_, rfl⟩
  obtain ⟨ry, hry⟩ : ∃ ry, rdY s.data.toList = ry := ⟨_, rfl⟩
  rw [hrk, hry]
  have hal := alloc_below w6 (.cells #[.int .i64 rk, .int .i64 ry] 39)
  have HE7 := Lib.hid (Blk2.new w6 39 (.int .i64 rk) (.int .i64 ry))
  replace hb := below_onto hb hal
  replace HV := Lib.hid (HV.out.kept hb); replace HBR := Lib.hid (HBR.out.kept hb HBR.out.lt); replace HB := Lib.hid (below_onto HB.out hb)
  replace HO := Lib.hid (HO.out.kept hb HO.out.lt); replace HB4 := Lib.hid (below_onto HB4.out hb)
  obtain ⟨w7, hw7⟩ : ∃ w7, w6.alloc (.cells #[.int .i64 rk, .int .i64 ry] 39) = w7 := ⟨_, rfl⟩
  obtain ⟨E, hE⟩ : ∃ E, w6.heap.size = E := ⟨_, rfl⟩
  rw [hw7] at HV HBR HB HO HB4 HE7
  rw [hE] at HE7
  have hd0 := HV.out.blk.cell.1; have hd1 := HV.out.blk.cell.2
  have HRK := Lib.hid hrk; have HRY := Lib.hid hry
  clear hb hal hrk hry
  go_wp2_with fail
  clear hw7 hE
  refine (specWorldFrom_any a xs.length c (fun j => xs.getD j 0) _ HV.out.d.now).mono ?_
  intro e w8 hg8
  obtain ⟨g, cap, rfl, hi, hb⟩ := wd_gives HF.out hg8
  have HI := Lib.hid hi
  replace HV := Lib.hid (HV.out.kept hb); replace HBR := Lib.hid (HBR.out.kept hb HBR.out.lt); replace HB := Lib.hid (below_onto HB.out hb)
  replace HO := Lib.hid (HO.out.kept hb HO.out.lt); replace HB4 := Lib.hid (below_onto HB4.out hb)
  clear hg8 hi hb hd0 hd1
  have HR := Lib.hid (show ∀ W', Below w8.heap.size w8 W' → Blk2 W' (w.heap.size + 1) 31 (.slice none 0 0) (.slice none 0 0) from fun W' hW => HBR.out.kept hW HBR.out.lt)
  have HKS := Lib.hid (show ∀ W', Below w8.heap.size w8 W' → (W'.cell? ⟨O, 0, none⟩ = some (.slice p1 xs.length e1) ∧ W'.cell? ⟨O, 1, none⟩ = some (.slice p2 L.length e2)) from fun W' hW => (HO.out.kept hW HO.out.lt).cell)
  have HKW := Lib.hid (show ∀ W' W'' : World, Below w8.heap.size w8 W' → W''.heap[O]? = W'.heap[O]? → (W''.cell? ⟨O, 0, none⟩ = some (.slice p1 xs.length e1) ∧ W''.cell? ⟨O, 1, none⟩ = some (.slice p2 L.length e2)) from fun W' W'' hW hW' => Blk2.cell (show Blk2 W'' O 31 _ _ from hW'.trans (HO.out.kept hW HO.out.lt)))
  have hn1 : ¬ O = w.heap.size + 1 := by have := HNO.out; omega
  have HN1 := Lib.hid hn1
  have HB6 := Lib.hid (Below.refl w8.heap.size w8)
  have hr0 := (HR.out _ HB6.out).cell.1; have hr1 := (HR.out _ HB6.out).cell.2; have hr2 := (HR.out _ HB6.out).frozen 0; have hr3 := (HR.out _ HB6.out).frozen 1
  go_upto_region 26 with fail
  go_region_held3 (fun W => W.cell? ⟨O, 0, none⟩ = some (.slice p1 xs.length e1) ∧ W.cell? ⟨O, 1, none⟩ = some (.slice p2 L.length e2)) (first | exact HKS.out _ HB6.out | exact HKS.out _ HB6.out.drew | exact HKS.out _ (below_drewN HB6.out _) | exact HKW.out _ _ HB6.out ((set_blk HN1.out).trans (set_blk HN1.out)) | go_keep)
    (first | (go_at_call 76; refine (specAtomsOf_any _ _ _ _ _ (by first | with_reducible exact HI.out.below HB6.out (Nat.le_refl _) | with_reducible exact HI.out.below HB6.out.drew (Nat.le_refl _) | with_reducible exact HI.out.below (below_drewN HB6.out _) (Nat.le_refl _))).mono ?_; rintro e w9 ⟨rfl, hd⟩; have hb := hd.below; clear hd; rw [HSV.out]; have HZ := Lib.hid (below_onto (show Below w8.heap.size w8 _ from (by first | with_reducible exact HB6.out | with_reducible exact HB6.out.drew | with_reducible exact below_drewN HB6.out _)) hb); clear HB6; have HB6 := HZ; clear HZ; clear hb; clear hr0 hr1 hr2 hr3; have hr0 := (HR.out _ HB6.out).cell.1; have hr1 := (HR.out _ HB6.out).cell.2; have hr2 := (HR.out _ HB6.out).frozen 0; have hr3 := (HR.out _ HB6.out).frozen 1) | (go_at_call 69; refine (l12Sets_any a c xs sv HS0.out HF.out _ (HV.out.d.now.below (by first | with_reducible exact HB6.out | with_reducible exact HB6.out.drew | with_reducible exact below_drewN HB6.out _) (Nat.le_refl _))).mono ?_; rintro e w10 ⟨rfl, rfl⟩; rw [HSE.out]))
  all_goals
    go_wp2_with fail
    refine bodyPost_ret (results_desk rfl _ _ (w.heap.size + 1) (((HR.out _ HB6.out).set0 _).set1 _) rfl rfl (by kernel_rfl)) rfl ?_
    first
      | exact ⟨_, _, rfl, HG.out.fin HB3.out (Nat.le_succ _) HLT.out (below_onto HB4.out HB6.out)⟩
      | exact ⟨_, _, rfl, (HG.out.fin HB3.out (Nat.le_succ _) HLT.out (below_onto HB4.out HB6.out)).drew⟩
end Go.Proofs.YthaickihoagnmaaGreatDoor
