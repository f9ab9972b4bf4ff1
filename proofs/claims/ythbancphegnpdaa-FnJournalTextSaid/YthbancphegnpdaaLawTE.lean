import Derived.Test.YthbancphegnpdaaTxAH
namespace Go.Proofs.Ythbancphegnpdaa
set_option linter.unusedVariables false
set_option linter.unusedSimpArgs false
open Go.RowKit Go.Maps

set_option maxRecDepth 100000 in
set_option maxHeartbeats 1600000 in
theorem sameDeeds_any (a1 a2 : Option Addr) (ds : List (Int × Int)) (c1 c2 : Nat) (hn : ds.length ≤ 1048576) (w : World) (h1 : Dds w a1 ds) (h2 : Dds w a2 ds) :
    Calls Try.prog 31 #[.slice a1 ds.length c1, .slice a2 ds.length c2] w fun e w' => e = .returned (.bool true) ∧ Below w.heap.size w w' := by
  have H1 := Lib.hid h1; have H2 := Lib.hid h2; clear h1 h2
  have hnn : (((ds.length : Nat) : Int) != ((ds.length : Nat) : Int)) = false := by simp
  obtain ⟨n, hn2⟩ : ∃ n, ds.length = n := ⟨_, rfl⟩
  have HN := Lib.hid hn2
  rw [hn2] at hnn hn ⊢
  clear hn2
  go_enter Try.func31, Try.ntmps31
  go_wp2_with fail
  go_loopw [5] (fun i wr => ∃ k : Nat, k ≤ n ∧ i = .int .i64 k ∧ Hid (Below w.heap.size w wr)) (fun i _ => n - (intOf i).toNat)
  case atStart => exact ⟨0, Nat.zero_le _, rfl, Lib.hid (Below.refl _ _)⟩
  case round =>
    obtain ⟨k, hk, rfl, HB⟩ := hrel
    by_cases hlt : k < n
    · have hki : (k : Int) < (n : Int) := by omega
      have hk0 : (0 : Int) ≤ (k : Int) := by omega
      have hkl : k < ds.length := by rw [HN.out]; exact hlt
      obtain ⟨b1, o1, rfl, hbl1, hr1⟩ := H1.out.row (by omega)
      obtain ⟨b2, o2, rfl, hbl2, hr2⟩ := H2.out.row (by omega)
      have q1 := hr1.kept HB.out hbl1 k hkl
      have q2 := hr2.kept HB.out hbl2 k hkl
      obtain ⟨dk, hdk⟩ : ∃ dk, ds[k] = dk := ⟨_, rfl⟩
      rw [hdk] at q1 q2
      obtain ⟨kk, xx⟩ := dk
      dsimp only at q1 q2
      obtain ⟨hc0, hc1⟩ := q1
      obtain ⟨hd0, hd1⟩ := q2
      have hne := fun w => neDeedV kk xx w
      clear hr1 hr2 hbl1 hbl2 hdk hkl
      go_wp2_with fail
      go_quiet (fail)
      all_goals
        go_wp2_with fail
        go_roundw
        case rel => exact ⟨k + 1, by omega, by go_num, Lib.hid (by first | exact HB.out | exact HB.out.drew | exact below_drewN HB.out _)⟩
        case measure => simp [intOf]; omega
    · have hki : ¬ (k : Int) < (n : Int) := by omega
      go_wp2_with fail
      go_ret
      exact ⟨rfl, HB.out⟩

theorem jtR_ne {ds : List (Int × Int)} (h : ds ≠ []) : jtR ds ≠ [] := by
  cases ds with
  | nil => exact absurd rfl h
  | cons d ds => rw [jtR_cons]; simp
theorem bs_emp {l : List UInt8} (h : l = []) : (bs l).toList.isEmpty = true := by subst h; rw [bs_list]; rfl
theorem bs_emp' {l : List UInt8} (h : l ≠ []) : (bs l).toList.isEmpty = false := by rw [bs_list]; simpa using h

set_option maxRecDepth 100000 in
set_option maxHeartbeats 1600000 in
theorem lawJournalText (a : Option Addr) (n cap : Nat) (w : World) (h : BytesIn w a n cap) :
    Calls Try.prog 7 #[.slice a n cap] w (TrueEnd w) := by
  have hlen := h.len
  have H := Lib.hid h; clear h
  by_cases hn : 1048576 < n
  · go_enter Try.func7, Try.ntmps7
    go_wp2_with fail
    go_ret
    exact ⟨rfl, Below.refl _ _⟩
  · go_enter Try.func7, Try.ntmps7
    go_wp2_with fail
    refine (DrawJournalText_any _ _ _ _ H.out).mono ?_
    rintro e w1 ⟨la, lc, ds, rfl, hdl, hd, hb1⟩
    have HB := Lib.hid hb1; have HD := Lib.hid hd
    clear H hb1 hd
    go_wp2_with fail
    refine (JournalText_any la ds lc (by omega) _ HD.out).mono ?_
    rintro e w2 ⟨rfl, hb2⟩
    replace HD := Lib.hid (HD.out.kept hb2)
    replace HB := Lib.hid (below_onto HB.out hb2)
    clear hb2
    have hsn := sameN (bs (jtL ds))
    obtain ⟨t, ht⟩ : ∃ t, bs (jtL ds) = t := ⟨_, rfl⟩
    have HT := Lib.hid ht
    rw [ht] at hsn
    by_cases he : jtL ds = []
    · have hem : t.toList.isEmpty = true := by rw [← ht]; exact bs_emp he
      rw [ht]
      clear ht he
      go_wp2_with fail
      refine (specJournalText_any la ds lc (by omega) _ HD.out).mono ?_
      rintro e w3 ⟨rfl, hb2⟩
      rw [HT.out]
      replace HB := Lib.hid (below_onto HB.out hb2)
      clear hb2
      go_wp2_with fail
      refine (alive_any _).mono ?_
      rintro e w7 ⟨rfl, hb2⟩
      replace HB := Lib.hid (below_onto HB.out hb2); clear hb2
      go_wp2_with fail
      go_ret
      exact ⟨rfl, HB.out⟩
    · have hem : t.toList.isEmpty = false := by rw [← ht]; exact bs_emp' he
      have hok : jtB ds = true := by
        cases hb : jtB ds with
        | true => rfl
        | false => exact absurd (show jtL ds = [] by unfold jtL; rw [hb]; rfl) he
      have hjl : jtL ds = jtR ds := by unfold jtL; rw [hok]; rfl
      have HDT := Lib.hid (show t.data.toList = jtR ds by rw [← ht, ← hjl]; rfl)
      have hsz : t.size = (jtR ds).length := by rw [← ht, hjl]; rfl
      have HSZ := Lib.hid (show t.size ≤ 1048600 by have := jtR_len ds; omega)
      have HOK := Lib.hid hok
      have HLE := Lib.hid hsz
      rw [ht]
      clear ht he hok hjl hsz
      go_wp2_with fail
      refine (specJournalText_any la ds lc (by omega) _ HD.out).mono ?_
      rintro e w3 ⟨rfl, hb2⟩
      rw [HT.out]
      replace HD := Lib.hid (HD.out.kept hb2)
      replace HB := Lib.hid (below_onto HB.out hb2)
      clear hb2
      go_wp2_with fail
      refine (ReadJournal_any t HSZ.out _).mono ?_
      rintro e w4 ⟨v, es, rfl, hrj, hown, hb2⟩
      rw [HDT.out] at hrj
      have hes : es = ds := (hrj.uniq (IsRj.of ds HOK.out))
      subst hes
      replace HD := Lib.hid (HD.out.kept hb2)
      replace HB := Lib.hid (below_onto HB.out hb2)
      obtain ⟨av, cv, rfl, hdv⟩ := hown.dds HD.out.1.2 (by omega)
      have HDV := Lib.hid hdv
      clear hb2 hown hdv hrj
      go_wp2_with fail
      refine (sameDeeds_any av la es cv lc (by omega) _ HDV.out HD.out).mono ?_
      rintro e w5 ⟨rfl, hb2⟩
      replace HB := Lib.hid (below_onto HB.out hb2)
      have hq : ((((jtR es).length : Nat) : Int) == (t.size : Int)) = true := by rw [HLE.out]; simp
      have hq2 : ((jtR es).length == t.size) = true := by rw [HLE.out]; simp
      clear hb2
      go_wp2_with fail
      go_ret
      exact ⟨rfl, HB.out⟩
end Go.Proofs.Ythbancphegnpdaa
