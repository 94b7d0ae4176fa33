/- The document's Rates (package fairref1): sorted, one by one. -/
import Derived.Test.YtcleeepbpibcfacDoorPlains
import Derived.Test.YtcleeepbpibcfacDoorRefA0
import Derived.Deep.RegionLaw
import Derived.OwnWalk
import Derived.Laws.AppendOwnNone
namespace Go.Proofs.YtcleeepbpibcfacDoor
namespace Fl
open Go.RowKit Fr Ns Ld
set_option linter.unusedSimpArgs false
set_option linter.unusedVariables false

theorem ownsF_later {w w' : World} {base : Nat} {e : TypeId} {size n : Nat} {v : Value} {xs : List Value} (hb : Below w.heap.size w w') (h : w.ownsRow base e size v n xs) : w'.ownsRow base e size v n xs := by
  refine ⟨h.1, ?_⟩
  rcases h.2 with h' | ⟨g', cap', cur, h', hg, hc, r⟩
  · exact .inl h'
  · have hlt : g' < w.heap.size := (Array.getElem?_eq_some_iff.1 hc).1
    exact .inr ⟨g', cap', cur, h', hg, by rw [hb.block g' hlt]; exact hc, r⟩
theorem owns_mono {w : World} {base base' : Nat} {e : TypeId} {size n : Nat} {v : Value} {xs : List Value} (hb : base ≤ base') (h : w.ownsRow base' e size v n xs) : w.ownsRow base e size v n xs := by
  refine ⟨h.1, ?_⟩
  rcases h.2 with h' | ⟨g', cap', cur, h', hg, r⟩
  · exact .inl h'
  · exact .inr ⟨g', cap', cur, h', Nat.le_trans hb hg, r⟩
theorem ones_flat (l : List (Int × Int)) : ∀ u ∈ flat l, u.oneCell' = true := by
  induction l with
  | nil => intro u hu; simp [flat] at hu
  | cons a r ih =>
    intro u hu
    simp only [flat, List.mem_cons] at hu
    rcases hu with rfl | rfl | hu
    · rfl
    · rfl
    · exact ih u hu
theorem flat_take : ∀ (l : List (Int × Int)) (k : Nat), flat (l.take k) = (flat l).take (k * 2) := by
  intro l
  induction l with
  | nil => intro k; simp [flat]
  | cons a r ih =>
    intro k
    cases k with
    | zero => simp [flat]
    | succ k => rw [show (k + 1) * 2 = k * 2 + 1 + 1 by omega]; simp [flat, ih]
theorem flat_drop : ∀ (l : List (Int × Int)) (k : Nat), flat (l.drop k) = (flat l).drop (k * 2) := by
  intro l
  induction l with
  | nil => intro k; simp [flat]
  | cons a r ih =>
    intro k
    cases k with
    | zero => simp [flat]
    | succ k => rw [show (k + 1) * 2 = k * 2 + 1 + 1 by omega]; simp [flat, ih]

set_option maxRecDepth 100000 in
set_option maxHeartbeats 8000000 in
theorem RRates_any {Q : Nat → Prop} (r : List (Int × Int)) (x : Value) (w : World) (hx : FracsAt Q w x r) :
    Calls Tryd.prog 15 #[x] w fun e w' => ∃ y, e = .returned (.tuple #[y, .int .i64 (sortE r)]) ∧ FracsAt (fun b => w.heap.size ≤ b) w' y (okL (sortE r) (sortP r)) ∧ Below w.heap.size w w' := by
  obtain ⟨ar, capr, rfl, ⟨hm3, hn3⟩, hc⟩ := hx
  have HXc : Hid (∀ k, k < r.length → ∃ b off, ar = some ⟨b, off, none⟩ ∧ ∀ u, Below w.heap.size w u → u.cell? ⟨b, off + k * 2, none⟩ = some (.int .i64 (r.getD k (0, 0)).1) ∧ u.cell? ⟨b, off + k * 2 + 1, none⟩ = some (.int .i64 (r.getD k (0, 0)).2)) := by
    intro k hk
    rcases hc with h0 | ⟨b, off, rfl, hc, _⟩
    · rw [h0] at hk; simp at hk
    · exact ⟨b, off, rfl, fun u hu => ⟨cell_later hu (hc k hk).1, cell_later hu (hc k hk).2⟩⟩
  clear hc
  by_cases h6 : 6 < r.length
  · have HE : Hid (sortE r = 4) := by show _ = _; rw [sortE, if_pos h6]
    have h6' : (6 : Int) < (r.length : Int) := by omega
    go_enter Tryd.func15, Tryd.ntmps15
    go_wp2
    refine bodyPost_ret (v := .tuple #[.slice none 0 0, .int .i64 4]) (by simp [results, Tryd.results15, go_sem]) rfl ?_
    rw [HE.out]
    exact ⟨_, rfl, fracs_nil _ _, Below.refl _ _⟩
  · have HE : Hid (sortE r = ratesE r) := by show _ = _; rw [sortE, if_neg h6]
    have HSt : Hid (∀ i, i < r.length → sortP (r.take (i + 1)) = insP (r.getD i (0, 0)) (sortP (r.take i))) := fun i hi => sort_step hi
    have HSl : Hid (∀ i, i ≤ r.length → (sortP (r.take i)).length = i) := fun i hi => by rw [sortP_length, List.length_take]; omega
    have HS0 : Hid (sortP (r.take 0) = []) := rfl
    have HSa : Hid (sortP (r.take r.length) = sortP r) := by show _ = _; rw [List.take_of_length_le (Nat.le_refl _)]
    have HRd : Hid (∀ k, k < r.length → ratesE (r.drop k) = if faultP (r.getD k (0, 0)) = 0 then ratesE (r.drop (k + 1)) else faultP (r.getD k (0, 0))) := fun k hk => ratesE_drop r k hk
    have HMe : Hid (∀ i, (∀ a ∈ r.take i, faultP a = 0) → ∀ a ∈ sortP (r.take i), faultP a = 0) := fun i h a ha => h a (sortP_mem.1 ha)
    have HTk : Hid (∀ i, i < r.length → (∀ a ∈ r.take i, faultP a = 0) → faultP (r.getD i (0, 0)) = 0 → ∀ a ∈ r.take (i + 1), faultP a = 0) := fun i hi h1 h2 a ha => by
      rw [take_snoc r i hi (0, 0), List.mem_append] at ha
      rcases ha with ha | ha
      · exact h1 a ha
      · simp at ha; rw [ha]; exact h2
    have HR0 : Hid (ratesE r = ratesE (r.drop 0)) := rfl
    have HRe : Hid (ratesE (r.drop r.length) = 0) := by show _ = _; rw [List.drop_of_length_le (Nat.le_refl _)]; rfl
    obtain ⟨S, hS⟩ : ∃ S : Nat → List (Int × Int), ∀ i, sortP (r.take i) = S i := ⟨_, fun _ => rfl⟩
    simp only [hS] at HSt HSl HS0 HSa HMe
    obtain ⟨i0, hi0, hz0, hz1, hz2⟩ := info_parts infoFrac
    have hr6 : r.length ≤ 6 := by omega
    clear hS h6
    go_enter Tryd.func15, Tryd.ntmps15
    go_wp2
    go_loopw [4, 5, 6, 7, 8] (fun s4 s5 _ _ _ wr => ∃ i : Nat, i ≤ r.length ∧ s5 = .int .i64 i ∧ (i = 0 → s4 = .slice none 0 0) ∧ Hid (wr.ownsRow w.heap.size 49 2 s4 i (flat (S i))) ∧ Hid (∀ a ∈ r.take i, faultP a = 0) ∧ Hid (ratesE r = ratesE (r.drop i)) ∧ Hid (Below w.heap.size w wr)) (fun _ s5 _ _ _ _ => r.length - (intOf s5).toNat)
    case atStart => exact ⟨0, by omega, rfl, fun _ => rfl, by rw [HS0.out]; exact World.ownsRow_nil _ _ _ _, fun a ha => by simp at ha, HR0, Below.refl _ _⟩
    case round =>
      obtain ⟨i, hi, rfl, h0, ho, hf, hn, hb⟩ := hrel
      have hsz : w.heap.size ≤ wr.heap.size := hb.out.size
      obtain ⟨a4, c4, rfl⟩ : ∃ a c, u4 = .slice a i c := by
        rcases ho.out.2 with ⟨rfl, hn0⟩ | ⟨g, cap, cur, rfl, _⟩
        · exact ⟨none, 0, by rw [hn0]⟩
        · exact ⟨_, _, rfl⟩
      by_cases hlt : i < r.length
      · obtain ⟨b, off, rfl, hcx⟩ := HXc.out i hlt
        have Hcx : Hid (∀ u, Below w.heap.size w u → u.cell? ⟨b, off + i * 2, none⟩ = some (.int .i64 (r.getD i (0, 0)).1) ∧ u.cell? ⟨b, off + i * 2 + 1, none⟩ = some (.int .i64 (r.getD i (0, 0)).2)) := hcx
        obtain ⟨c0, c1⟩ := hcx _ hb.out
        have hrd := HRd.out i hlt
        have hst := HSt.out i hlt
        have htk := HTk.out i hlt hf.out
        have HFr : Hid (∀ u : World, Calls Tryd.prog 22 #[.agg #[.int .i64 (r.getD i (0, 0)).1, .int .i64 (r.getD i (0, 0)).2]] u fun e w' => e = .returned (.int .i64 (faultP (r.getD i (0, 0)))) ∧ Below u.heap.size u w') := fun u => RFrac_any _ _ u
        generalize r.getD i (0, 0) = a at *
        obtain ⟨t1, t2⟩ := a
        simp only at c0 c1 HFr Hcx
        by_cases hfa : faultP (t1, t2) = 0
        · have HTa : Hid (∀ a ∈ r.take (i + 1), faultP a = 0) := htk hfa
          have HNx : Hid (ratesE r = ratesE (r.drop (i + 1))) := by show _ = _; rw [hn.out, hrd, if_pos hfa]
          have HMi : Hid (∀ a ∈ S i, faultP a = 0) := HMe.out i hf.out
          have hSl := HSl.out i (by omega)
          have HFa : Hid (faultP (t1, t2) = 0) := hfa
          rw [hfa] at HFr
          clear hrd htk hcx hfa
          go_wp2_with fail
          refine (HFr.out _).mono ?_
          rintro e w1 ⟨rfl, hw1⟩
          have B1 : Hid (Below w.heap.size w w1) := Bel.call hb.out (Nat.le_refl _) hw1
          have O1' : Hid (w1.ownsRow w.heap.size 49 2 (.slice a4 i c4) i (flat (S i))) := ownsF_later hw1 ho.out
          clear hw1 c0 c1
          go_wp2
          go_loopw [8] (fun s8 wq => ∃ k : Nat, k ≤ i ∧ s8 = .int .i64 k ∧ Hid (∀ j, j < k → ordP ((S i).getD j (0, 0)) (t1, t2) ≤ 0) ∧ Hid (Below w1.heap.size w1 wq)) (fun s8 _ => i - (intOf s8).toNat)
          case atStart => exact ⟨0, by omega, rfl, fun j hj => by omega, Below.refl _ _⟩
          case round =>
            obtain ⟨k, hk, rfl, hord, hb1⟩ := hrel
            have BW : Hid (Below w.heap.size w wr) := Bel.call B1.out (Nat.le_refl _) hb1.out
            have OW : Hid (wr.ownsRow w.heap.size 49 2 (.slice a4 i c4) i (flat (S i))) := ownsF_later hb1.out O1'.out
            obtain ⟨c0, c1⟩ := Hcx.out _ BW.out
            by_cases hki : k < i
            · obtain ⟨gO, hgO, hae⟩ : ∃ gO, w.heap.size ≤ gO ∧ a4 = some ⟨gO, 0, none⟩ := by
                rcases OW.out.2 with ⟨e, h0'⟩ | ⟨g, cap, cur, e, hb', _⟩
                · omega
                · simp only [Value.slice.injEq] at e
                  exact ⟨g, hb', e.1⟩
              have HAE : Hid (a4 = some ⟨gO, 0, none⟩) := hae
              obtain ⟨f1, f2⟩ := flat_at (S i) k (by omega)
              have e0 : wr.cell? ⟨gO, k * 2, none⟩ = some (.int .i64 ((S i).getD k (0, 0)).1) := by
                have := OW.out.cells (g := gO) (by rw [hae]; rfl) (k * 2) _ f1
                rw [add_addr, Nat.zero_add] at this
                exact this
              have e1 : wr.cell? ⟨gO, k * 2 + 1, none⟩ = some (.int .i64 ((S i).getD k (0, 0)).2) := by
                have := OW.out.cells (g := gO) (by rw [hae]; rfl) (k * 2 + 1) _ f2
                rw [add_addr, Nat.zero_add] at this
                exact this
              have hfS := HMi.out _ (getD_mem (S i) k (by omega) (0, 0))
              have hoS : ordP ((S i).getD k (0, 0)) (t1, t2) = cmpI (((S i).getD k (0, 0)).1 * t2) (t1 * ((S i).getD k (0, 0)).2) := rfl
              have HOr : Hid (∀ u : World, Calls Tryd.prog 19 #[.agg #[.int .i64 ((S i).getD k (0, 0)).1, .int .i64 ((S i).getD k (0, 0)).2], .agg #[.int .i64 t1, .int .i64 t2]] u fun e w' => e = .returned (.int .i64 (ordP ((S i).getD k (0, 0)) (t1, t2))) ∧ Below u.heap.size u w') := fun u => by
                have := Order_any ((S i).getD k (0, 0)).1 ((S i).getD k (0, 0)).2 t1 t2 u hfS HFa.out
                rw [hoS]
                exact this
              have hcase : (ordP ((S i).getD k (0, 0)) (t1, t2) ≤ 0 ∧ ∀ j, j < k + 1 → ordP ((S i).getD j (0, 0)) (t1, t2) ≤ 0) ∨ (¬ ordP ((S i).getD k (0, 0)) (t1, t2) ≤ 0 ∧ insP (t1, t2) (S i) = (S i).take k ++ ([(t1, t2)] ++ (S i).drop k)) := by
                by_cases hle : ordP ((S i).getD k (0, 0)) (t1, t2) ≤ 0
                · refine .inl ⟨hle, fun j hj => ?_⟩
                  by_cases e : j = k
                  · rw [e]; exact hle
                  · exact hord.out j (by omega)
                · exact .inr ⟨hle, ins_at _ _ k (by omega) hord.out (.inr hle)⟩
              generalize ordP ((S i).getD k (0, 0)) (t1, t2) = od at *
              generalize ((S i).getD k (0, 0)).1 = s1 at *
              generalize ((S i).getD k (0, 0)).2 = s2 at *
              subst hae
              clear f1 f2 hfS hoS
              rcases hcase with ⟨hod, hnext⟩ | ⟨hod, hins⟩
              · have HNX : Hid (∀ j, j < k + 1 → ordP ((S i).getD j (0, 0)) (t1, t2) ≤ 0) := hnext
                clear hnext
                go_wp2_with fail
                have P1 : Hid (Below wr.heap.size wr wr.drew) := (Below.refl _ _).drew
                have HSA : Hid (∀ u : World, Below wr.heap.size wr u → u.cell? ⟨gO, k * 2, none⟩ = some (.int .i64 s1) ∧ u.cell? ⟨gO, k * 2 + 1, none⟩ = some (.int .i64 s2) ∧ u.cell? ⟨b, off + i * 2, none⟩ = some (.int .i64 t1) ∧ u.cell? ⟨b, off + i * 2 + 1, none⟩ = some (.int .i64 t2)) := fun u hu => ⟨cell_later hu e0, cell_later hu e1, cell_later hu c0, cell_later hu c1⟩
                go_region_held3 (fun u => u.cell? ⟨gO, k * 2, none⟩ = some (.int .i64 s1) ∧ u.cell? ⟨gO, k * 2 + 1, none⟩ = some (.int .i64 s2) ∧ u.cell? ⟨b, off + i * 2, none⟩ = some (.int .i64 t1) ∧ u.cell? ⟨b, off + i * 2 + 1, none⟩ = some (.int .i64 t2))
                  ((refine HSA.out _ ?_; first | exact P1.out | exact Hbo.out))
                  (first | (go_at_call 19; refine (HOr.out _).mono ?_; rintro e wo ⟨rfl, hwo⟩; have Hbo : Hid (Below wr.heap.size wr wo) := Bel.call P1.out (Nat.le_refl _) hwo))
                all_goals
                  have HBo : Hid (Below w1.heap.size w1 wo) := Bel.call hb1.out (Nat.le_refl _) Hbo.out
                  clear hwo
                  go_wp2
                  go_roundw
                  case rel => exact ⟨k + 1, by omega, by go_num, HNX, HBo⟩
                  case measure => simp [intOf]; omega
              · go_wp2_with fail
                have P1 : Hid (Below wr.heap.size wr wr.drew) := (Below.refl _ _).drew
                have HSA : Hid (∀ u : World, Below wr.heap.size wr u → u.cell? ⟨gO, k * 2, none⟩ = some (.int .i64 s1) ∧ u.cell? ⟨gO, k * 2 + 1, none⟩ = some (.int .i64 s2) ∧ u.cell? ⟨b, off + i * 2, none⟩ = some (.int .i64 t1) ∧ u.cell? ⟨b, off + i * 2 + 1, none⟩ = some (.int .i64 t2)) := fun u hu => ⟨cell_later hu e0, cell_later hu e1, cell_later hu c0, cell_later hu c1⟩
                go_region_held3 (fun u => u.cell? ⟨gO, k * 2, none⟩ = some (.int .i64 s1) ∧ u.cell? ⟨gO, k * 2 + 1, none⟩ = some (.int .i64 s2) ∧ u.cell? ⟨b, off + i * 2, none⟩ = some (.int .i64 t1) ∧ u.cell? ⟨b, off + i * 2 + 1, none⟩ = some (.int .i64 t2))
                  ((refine HSA.out _ ?_; first | exact P1.out | exact Hbo.out))
                  (first | (go_at_call 19; refine (HOr.out _).mono ?_; rintro e wo ⟨rfl, hwo⟩; have Hbo : Hid (Below wr.heap.size wr wo) := Bel.call P1.out (Nat.le_refl _) hwo))
                all_goals
                  have Bz0 : Below wr.heap.size wr wo := Hbo.out
                  have Bz : Hid (Below w.heap.size w wo) := Bel.call BW.out (Nat.le_refl _) Bz0
                  have Oz : Hid (wo.ownsRow w.heap.size 49 2 (.slice (some ⟨gO, 0, none⟩) i c4) i (flat (S i))) := ownsF_later Bz0 OW.out
                  clear hwo Bz0 c0 c1 e0 e1 HAE P1 HSA Hbo
                  obtain ⟨wz, rfl⟩ : ∃ wz, wz = wo := ⟨_, rfl⟩
                  obtain ⟨a4, HA4⟩ : ∃ a4 : Option Addr, Hid (a4 = some ⟨gO, 0, none⟩) := ⟨_, rfl⟩
                  rw [← HA4.out] at Oz
                  simp only [← HA4.out]
                  clear HA4 hgO
                  have hi1 : 1 ≤ i := by omega
                  obtain ⟨gO, hgO, rfl⟩ : ∃ gO, w.heap.size ≤ gO ∧ a4 = some ⟨gO, 0, none⟩ := by
                    rcases Oz.out.2 with ⟨e, h0'⟩ | ⟨g, cap, cur, e, hb', _⟩
                    · omega
                    · simp only [Value.slice.injEq] at e
                      exact ⟨g, hb', e.1⟩
                  have hic : i ≤ c4 := by
                    rcases Oz.out.2 with ⟨e, h0'⟩ | ⟨g, cap, cur, e, hb', _, hcap, _⟩
                    · omega
                    · simp only [Value.slice.injEq] at e
                      obtain ⟨_, _, rfl⟩ := e
                      exact hcap
                  have hgz : gO < wz.heap.size := (Oz.out.lt _ rfl).2
                  have hfl : (flat (S i)).length = i * 2 := by rw [flat_length, HSl.out i (by omega)]
                  have HCo : Hid (∀ u, Below wz.heap.size wz u → ∀ j y, (flat (S i))[j]? = some y → u.cell? ⟨gO, j, none⟩ = some y) := fun u hu j y hj => by
                    have := (ownsF_later hu Oz.out).cells (g := gO) rfl j y hj
                    rw [add_addr, Nat.zero_add] at this
                    exact this
                  have HIn : Hid (flat (S (i + 1)) = (flat ((S i).take k) ++ [.int .i64 t1, .int .i64 t2]) ++ flat ((S i).drop k)) := by
                    show _ = _
                    rw [hst, hins, flat_append, flat_append]
                    simp [flat]
                  have L1 : Hid ((flat ((S i).take k)).length = k * 2) := by show _ = _; rw [flat_length, List.length_take, HSl.out i (by omega)]; congr 1; omega
                  have L2 : Hid ((flat ((S i).drop k)).length = (i - k) * 2) := by show _ = _; rw [flat_length, List.length_drop, HSl.out i (by omega)]
                  have E1 : Hid (∀ j y, (flat ((S i).take k))[j]? = some y → (flat (S i))[j]? = some y) := fun j y hj => by
                    rw [flat_take, List.getElem?_take] at hj
                    split at hj
                    · exact hj
                    · cases hj
                  have E2 : Hid (∀ j y, (flat ((S i).drop k))[j]? = some y → (flat (S i))[k * 2 + j]? = some y) := fun j y hj => by
                    rw [flat_drop, List.getElem?_drop] at hj
                    exact hj
                  obtain ⟨F1, hF1⟩ : ∃ F1, F1 = flat ((S i).take k) := ⟨_, rfl⟩
                  obtain ⟨F2, hF2⟩ : ∃ F2, F2 = flat ((S i).drop k) := ⟨_, rfl⟩
                  have U1 : Hid (∀ u ∈ F1, u.oneCell' = true) := by rw [hF1]; exact ones_flat _
                  have U2 : Hid (∀ u ∈ F2, u.oneCell' = true) := by rw [hF2]; exact ones_flat _
                  rw [← hF1] at L1 E1 HIn
                  rw [← hF2] at L2 E2 HIn
                  clear hst hins hF1 hF2
                  go_wp2_with (at_builtin; go_must (refine wpList_append_own _ rfl (.tmp 44) (.tmp 47) 26 rfl wz.heap.size 49 i0 (.agg #[.int .i64 0, .int .i64 0]) 2 16 Tryd.underlying26 hi0 hz0 hz1 hz2 rfl (by decide) _ _ _ rfl (World.ownsRow_nil _ _ _ _) ⟨gO, 0, none⟩ k c4 F1 rfl L1.out ?c1 U1.out ?c3 ?c4 ?c5 ?_))
                  case c1 =>
                    intro j u hj
                    rw [add_addr, Nat.zero_add]
                    exact HCo.out wz (Below.refl _ _) j u (E1.out j u hj)
                  case c3 => unfold maxLen; omega
                  case c4 => omega
                  case c5 => simp
                  intro v1 w2 hown1 hgrow1 _
                  have O1 : Hid (w2.ownsRow wz.heap.size 49 2 v1 k F1) := by simpa [Hid] using hown1
                  have Bz2 : Hid (Below wz.heap.size wz w2) := (Below.refl _ wz).grown hgrow1 (by simp) (by intro k hk; cases hk)
                  have hs2 : wz.heap.size ≤ w2.heap.size := Bz2.out.size
                  obtain ⟨c0, c1⟩ := Hcx.out w2 (Bel.call Bz.out (Nat.le_refl _) Bz2.out)
                  obtain ⟨a7, c7, rfl⟩ : ∃ a c, v1 = .slice a k c := by
                    rcases O1.out.2 with ⟨rfl, hn0⟩ | ⟨g, cap, cur, rfl, _⟩
                    · exact ⟨none, 0, by rw [hn0]⟩
                    · exact ⟨_, _, rfl⟩
                  clear hown1 hgrow1
                  go_wp2_with (at_builtin; go_must (refine wpList_append_own _ rfl (.tmp 49) (.tmp 54) 26 rfl wz.heap.size 49 i0 (.agg #[.int .i64 0, .int .i64 0]) 2 16 Tryd.underlying26 hi0 hz0 hz1 hz2 rfl (by decide) _ _ _ rfl (O1.out.alloc _) ⟨_, 0, none⟩ 1 1 [.int .i64 t1, .int .i64 t2] rfl rfl ?c1 ?c2 ?c3 ?c4 ?c5 ?_))
                  case c1 =>
                    intro j u hj
                    match j, hj with
                    | 0, hj => simp at hj; subst hj; simp [Addr.add]
                    | 1, hj => simp at hj; subst hj; simp [Addr.add]
                  case c2 => intro u hu; simp at hu; rcases hu with rfl | rfl <;> rfl
                  case c3 => unfold maxLen; omega
                  case c4 => omega
                  case c5 => simp; omega
                  intro v2 w3 hown2 hgrow2 _
                  have O2 : Hid (w3.ownsRow wz.heap.size 49 2 v2 (k + 1) (F1 ++ [.int .i64 t1, .int .i64 t2])) := by simpa [Hid] using hown2
                  have Bz3 : Hid (Below wz.heap.size wz w3) := rel_append Bz2.out hs2 O1.out hgrow2
                  have hs3 : wz.heap.size ≤ w3.heap.size := Bz3.out.size
                  obtain ⟨a8, c8, rfl⟩ : ∃ a c, v2 = .slice a (k + 1) c := by
                    rcases O2.out.2 with ⟨rfl, hn0⟩ | ⟨g, cap, cur, rfl, _⟩
                    · omega
                    · exact ⟨_, _, rfl⟩
                  clear hown2 hgrow2 c0 c1
                  by_cases hkc : k = c4
                  · obtain rfl : c4 = k := hkc.symm
                    have HKI : Hid (c4 = i) := by show _ = _; omega
                    clear hkc
                    have hF20 : F2 = [] := List.eq_nil_of_length_eq_zero (by rw [L2.out]; have := HKI.out; omega)
                    go_wp2_with (at_builtin; go_must (refine wpList_append_own _ rfl (.tmp 56) (.tmp 59) 26 rfl wz.heap.size 49 i0 (.agg #[.int .i64 0, .int .i64 0]) 2 16 Tryd.underlying26 hi0 hz0 hz1 hz2 rfl (by decide) _ _ _ rfl O2.out _ 0 _ [] rfl rfl ?c1 ?c2 ?c3 ?c4 ?c5 ?_))
                    case c1 => intro j u hj; simp at hj
                    case c2 => intro u hu; simp at hu
                    case c3 => unfold maxLen; omega
                    case c4 => omega
                    case c5 => omega
                    intro v3 w4 hown3 hgrow3 _
                    have O3 : Hid (w4.ownsRow w.heap.size 49 2 v3 (i + 1) (flat (S (i + 1)))) := by
                      show World.ownsRow _ _ _ _ _ _ _
                      rw [HIn.out, hF20, ← HKI.out]
                      exact owns_mono (Bz.out.size) (by simpa using hown3)
                    have B4 : Hid (Below w.heap.size w w4) := Bel.call Bz.out (Nat.le_refl _) (Bz3.out.grown hgrow3 hs3 (fun k hk => (O2.out.lt k hk).1))
                    clear hown3 hgrow3
                    go_wp2
                    go_roundw
                    case rel => exact ⟨i + 1, by omega, by go_num, fun h => by omega, O3, HTa, HNx, B4⟩
                    case measure => simp [intOf]; omega
                  · have hkc' : ¬ c4 = k := fun e => hkc e.symm
                    have hkl4 : k < c4 := by omega
                    go_wp2_with (at_builtin; go_must (refine wpList_append_own _ rfl (.tmp 56) (.tmp 59) 26 rfl wz.heap.size 49 i0 (.agg #[.int .i64 0, .int .i64 0]) 2 16 Tryd.underlying26 hi0 hz0 hz1 hz2 rfl (by decide) _ _ _ rfl O2.out ⟨gO, k * 2, none⟩ (i - k) _ F2 rfl L2.out ?c1 U2.out ?c3 ?c4 ?c5 ?_))
                    case c1 =>
                      intro j u hj
                      rw [add_addr]
                      exact HCo.out w3 Bz3.out _ u (E2.out j u hj)
                    case c3 => unfold maxLen; omega
                    case c4 => omega
                    case c5 => omega
                    intro v3 w4 hown3 hgrow3 _
                    have O3 : Hid (w4.ownsRow w.heap.size 49 2 v3 (i + 1) (flat (S (i + 1)))) := by
                      show World.ownsRow _ _ _ _ _ _ _
                      rw [HIn.out, show i + 1 = k + 1 + (i - k) by omega]
                      exact owns_mono (Bz.out.size) (by simpa using hown3)
                    have B4 : Hid (Below w.heap.size w w4) := Bel.call Bz.out (Nat.le_refl _) (Bz3.out.grown hgrow3 hs3 (fun k hk => (O2.out.lt k hk).1))
                    clear hown3 hgrow3
                    go_wp2
                    go_roundw
                    case rel => exact ⟨i + 1, by omega, by go_num, fun h => by omega, O3, HTa, HNx, B4⟩
                    case measure => simp [intOf]; omega
            · have hins : insP (t1, t2) (S i) = (S i).take k ++ ([(t1, t2)] ++ (S i).drop k) := ins_at _ _ k (by omega) hord.out (.inl (by omega))
              have hkk : ¬ (k : Int) < (i : Int) := by omega
              go_wp2_with fail
              go_quiet (fail)
              have Bz : Hid (Below w.heap.size w (wr.drewN nq)) := below_drewN BW.out _
              have Oz : Hid ((wr.drewN nq).ownsRow w.heap.size 49 2 (.slice a4 i c4) i (flat (S i))) := ownsF_later (below_drewN (Below.refl _ _) _) OW.out
              generalize wr.drewN nq = wz at *
              clear c0 c1 BW OW
              by_cases hi00 : i = 0
              · subst hi00
                have hk0 : k = 0 := by omega
                subst hk0
                obtain ⟨rfl, rfl⟩ : a4 = none ∧ c4 = 0 := by have := h0 rfl; simp only [Value.slice.injEq] at this; exact ⟨this.1, this.2.2⟩
                have HI0 : Hid (S 1 = [(t1, t2)]) := by
                  show _ = _
                  have := hst
                  rw [hins, List.eq_nil_of_length_eq_zero (HSl.out 0 (by omega))] at this
                  simpa using this
                obtain ⟨c0, c1⟩ := Hcx.out _ Bz.out
                simp only [Nat.zero_mul, Nat.add_zero] at c0 c1
                clear hst hins
                go_wp2_with (at_builtin; first | (refine wpList_append_own_none rfl (.tmp 44) (.tmp 47) 26 rfl wz.heap.size 49 i0 2 Tryd.underlying26 hi0 _ _ _ rfl (World.ownsRow_nil _ _ _ _) rfl ?_) | go_must (refine wpList_append_own _ rfl (.tmp 49) (.tmp 54) 26 rfl wz.heap.size 49 i0 (.agg #[.int .i64 0, .int .i64 0]) 2 16 Tryd.underlying26 hi0 hz0 hz1 hz2 rfl (by decide) _ _ _ rfl (World.ownsRow_nil _ _ _ _) ⟨_, 0, none⟩ 1 1 [.int .i64 t1, .int .i64 t2] rfl rfl (news_two _ _ _ _) (ones_two _ _) (by unfold maxLen; omega) (by omega) (by simp) ?_))
                intro v2 w3 hown2 hgrow2 _
                have O2 : Hid (w3.ownsRow wz.heap.size 49 2 v2 1 [.int .i64 t1, .int .i64 t2]) := by simpa [Hid] using hown2
                have B3 : Hid (Below w.heap.size w w3) := Bel.call Bz.out (Nat.le_refl _) (((Below.refl _ wz).alloc (Nat.le_refl _) _).grown hgrow2 (by simp) (by intro k hk; cases hk))
                clear hown2 hgrow2 c0 c1
                go_wp2_with (at_builtin; go_must (refine wpList_append_own_none rfl (.tmp 56) (.tmp 59) 26 rfl wz.heap.size 49 i0 2 Tryd.underlying26 hi0 _ _ _ rfl O2.out rfl ?_))
                have O3 : Hid (w3.ownsRow w.heap.size 49 2 v2 (0 + 1) (flat (S (0 + 1)))) := by
                  show World.ownsRow _ _ _ _ _ _ _
                  rw [show (0 : Nat) + 1 = 1 from rfl, HI0.out]
                  exact owns_mono Bz.out.size O2.out
                go_wp2
                go_roundw
                case rel => exact ⟨0 + 1, by omega, by go_num, fun h => by omega, O3, HTa, HNx, B3⟩
                case measure => simp [intOf]; omega
              · have hi1 : 1 ≤ i := by omega
                obtain ⟨gO, hgO, rfl⟩ : ∃ gO, w.heap.size ≤ gO ∧ a4 = some ⟨gO, 0, none⟩ := by
                  rcases Oz.out.2 with ⟨e, h0'⟩ | ⟨g, cap, cur, e, hb', _⟩
                  · omega
                  · simp only [Value.slice.injEq] at e
                    exact ⟨g, hb', e.1⟩
                have hic : i ≤ c4 := by
                  rcases Oz.out.2 with ⟨e, h0'⟩ | ⟨g, cap, cur, e, hb', _, hcap, _⟩
                  · omega
                  · simp only [Value.slice.injEq] at e
                    obtain ⟨_, _, rfl⟩ := e
                    exact hcap
                have hgz : gO < wz.heap.size := (Oz.out.lt _ rfl).2
                have hfl : (flat (S i)).length = i * 2 := by rw [flat_length, HSl.out i (by omega)]
                have HCo : Hid (∀ u, Below wz.heap.size wz u → ∀ j y, (flat (S i))[j]? = some y → u.cell? ⟨gO, j, none⟩ = some y) := fun u hu j y hj => by
                  have := (ownsF_later hu Oz.out).cells (g := gO) rfl j y hj
                  rw [add_addr, Nat.zero_add] at this
                  exact this
                have HIn : Hid (flat (S (i + 1)) = (flat ((S i).take k) ++ [.int .i64 t1, .int .i64 t2]) ++ flat ((S i).drop k)) := by
                  show _ = _
                  rw [hst, hins, flat_append, flat_append]
                  simp [flat]
                have L1 : Hid ((flat ((S i).take k)).length = k * 2) := by show _ = _; rw [flat_length, List.length_take, HSl.out i (by omega)]; congr 1; omega
                have L2 : Hid ((flat ((S i).drop k)).length = (i - k) * 2) := by show _ = _; rw [flat_length, List.length_drop, HSl.out i (by omega)]
                have E1 : Hid (∀ j y, (flat ((S i).take k))[j]? = some y → (flat (S i))[j]? = some y) := fun j y hj => by
                  rw [flat_take, List.getElem?_take] at hj
                  split at hj
                  · exact hj
                  · cases hj
                have E2 : Hid (∀ j y, (flat ((S i).drop k))[j]? = some y → (flat (S i))[k * 2 + j]? = some y) := fun j y hj => by
                  rw [flat_drop, List.getElem?_drop] at hj
                  exact hj
                obtain ⟨F1, hF1⟩ : ∃ F1, F1 = flat ((S i).take k) := ⟨_, rfl⟩
                obtain ⟨F2, hF2⟩ : ∃ F2, F2 = flat ((S i).drop k) := ⟨_, rfl⟩
                have U1 : Hid (∀ u ∈ F1, u.oneCell' = true) := by rw [hF1]; exact ones_flat _
                have U2 : Hid (∀ u ∈ F2, u.oneCell' = true) := by rw [hF2]; exact ones_flat _
                rw [← hF1] at L1 E1 HIn
                rw [← hF2] at L2 E2 HIn
                clear hst hins hF1 hF2
                go_wp2_with (at_builtin; go_must (refine wpList_append_own _ rfl (.tmp 44) (.tmp 47) 26 rfl wz.heap.size 49 i0 (.agg #[.int .i64 0, .int .i64 0]) 2 16 Tryd.underlying26 hi0 hz0 hz1 hz2 rfl (by decide) _ _ _ rfl (World.ownsRow_nil _ _ _ _) ⟨gO, 0, none⟩ k c4 F1 rfl L1.out ?c1 U1.out ?c3 ?c4 ?c5 ?_))
                case c1 =>
                  intro j u hj
                  rw [add_addr, Nat.zero_add]
                  exact HCo.out wz (Below.refl _ _) j u (E1.out j u hj)
                case c3 => unfold maxLen; omega
                case c4 => omega
                case c5 => simp
                intro v1 w2 hown1 hgrow1 _
                have O1 : Hid (w2.ownsRow wz.heap.size 49 2 v1 k F1) := by simpa [Hid] using hown1
                have Bz2 : Hid (Below wz.heap.size wz w2) := (Below.refl _ wz).grown hgrow1 (by simp) (by intro k hk; cases hk)
                have hs2 : wz.heap.size ≤ w2.heap.size := Bz2.out.size
                obtain ⟨c0, c1⟩ := Hcx.out w2 (Bel.call Bz.out (Nat.le_refl _) Bz2.out)
                obtain ⟨a7, c7, rfl⟩ : ∃ a c, v1 = .slice a k c := by
                  rcases O1.out.2 with ⟨rfl, hn0⟩ | ⟨g, cap, cur, rfl, _⟩
                  · exact ⟨none, 0, by rw [hn0]⟩
                  · exact ⟨_, _, rfl⟩
                clear hown1 hgrow1
                go_wp2_with (at_builtin; go_must (refine wpList_append_own _ rfl (.tmp 49) (.tmp 54) 26 rfl wz.heap.size 49 i0 (.agg #[.int .i64 0, .int .i64 0]) 2 16 Tryd.underlying26 hi0 hz0 hz1 hz2 rfl (by decide) _ _ _ rfl (O1.out.alloc _) ⟨_, 0, none⟩ 1 1 [.int .i64 t1, .int .i64 t2] rfl rfl ?c1 ?c2 ?c3 ?c4 ?c5 ?_))
                case c1 =>
                  intro j u hj
                  match j, hj with
                  | 0, hj => simp at hj; subst hj; simp [Addr.add]
                  | 1, hj => simp at hj; subst hj; simp [Addr.add]
                case c2 => intro u hu; simp at hu; rcases hu with rfl | rfl <;> rfl
                case c3 => unfold maxLen; omega
                case c4 => omega
                case c5 => simp; omega
                intro v2 w3 hown2 hgrow2 _
                have O2 : Hid (w3.ownsRow wz.heap.size 49 2 v2 (k + 1) (F1 ++ [.int .i64 t1, .int .i64 t2])) := by simpa [Hid] using hown2
                have Bz3 : Hid (Below wz.heap.size wz w3) := rel_append Bz2.out hs2 O1.out hgrow2
                have hs3 : wz.heap.size ≤ w3.heap.size := Bz3.out.size
                obtain ⟨a8, c8, rfl⟩ : ∃ a c, v2 = .slice a (k + 1) c := by
                  rcases O2.out.2 with ⟨rfl, hn0⟩ | ⟨g, cap, cur, rfl, _⟩
                  · omega
                  · exact ⟨_, _, rfl⟩
                clear hown2 hgrow2 c0 c1
                by_cases hkc : k = c4
                · obtain rfl : c4 = k := hkc.symm
                  have HKI : Hid (c4 = i) := by show _ = _; omega
                  clear hkc
                  have hF20 : F2 = [] := List.eq_nil_of_length_eq_zero (by rw [L2.out]; have := HKI.out; omega)
                  go_wp2_with (at_builtin; go_must (refine wpList_append_own _ rfl (.tmp 56) (.tmp 59) 26 rfl wz.heap.size 49 i0 (.agg #[.int .i64 0, .int .i64 0]) 2 16 Tryd.underlying26 hi0 hz0 hz1 hz2 rfl (by decide) _ _ _ rfl O2.out _ 0 _ [] rfl rfl ?c1 ?c2 ?c3 ?c4 ?c5 ?_))
                  case c1 => intro j u hj; simp at hj
                  case c2 => intro u hu; simp at hu
                  case c3 => unfold maxLen; omega
                  case c4 => omega
                  case c5 => omega
                  intro v3 w4 hown3 hgrow3 _
                  have O3 : Hid (w4.ownsRow w.heap.size 49 2 v3 (i + 1) (flat (S (i + 1)))) := by
                    show World.ownsRow _ _ _ _ _ _ _
                    rw [HIn.out, hF20, ← HKI.out]
                    exact owns_mono (Bz.out.size) (by simpa using hown3)
                  have B4 : Hid (Below w.heap.size w w4) := Bel.call Bz.out (Nat.le_refl _) (Bz3.out.grown hgrow3 hs3 (fun k hk => (O2.out.lt k hk).1))
                  clear hown3 hgrow3
                  go_wp2
                  go_roundw
                  case rel => exact ⟨i + 1, by omega, by go_num, fun h => by omega, O3, HTa, HNx, B4⟩
                  case measure => simp [intOf]; omega
                · have hkc' : ¬ c4 = k := fun e => hkc e.symm
                  have hkl4 : k < c4 := by omega
                  go_wp2_with (at_builtin; go_must (refine wpList_append_own _ rfl (.tmp 56) (.tmp 59) 26 rfl wz.heap.size 49 i0 (.agg #[.int .i64 0, .int .i64 0]) 2 16 Tryd.underlying26 hi0 hz0 hz1 hz2 rfl (by decide) _ _ _ rfl O2.out ⟨gO, k * 2, none⟩ (i - k) _ F2 rfl L2.out ?c1 U2.out ?c3 ?c4 ?c5 ?_))
                  case c1 =>
                    intro j u hj
                    rw [add_addr]
                    exact HCo.out w3 Bz3.out _ u (E2.out j u hj)
                  case c3 => unfold maxLen; omega
                  case c4 => omega
                  case c5 => omega
                  intro v3 w4 hown3 hgrow3 _
                  have O3 : Hid (w4.ownsRow w.heap.size 49 2 v3 (i + 1) (flat (S (i + 1)))) := by
                    show World.ownsRow _ _ _ _ _ _ _
                    rw [HIn.out, show i + 1 = k + 1 + (i - k) by omega]
                    exact owns_mono (Bz.out.size) (by simpa using hown3)
                  have B4 : Hid (Below w.heap.size w w4) := Bel.call Bz.out (Nat.le_refl _) (Bz3.out.grown hgrow3 hs3 (fun k hk => (O2.out.lt k hk).1))
                  clear hown3 hgrow3
                  go_wp2
                  go_roundw
                  case rel => exact ⟨i + 1, by omega, by go_num, fun h => by omega, O3, HTa, HNx, B4⟩
                  case measure => simp [intOf]; omega
        · have HRe' : Hid (sortE r = faultP (t1, t2)) := by show _ = _; rw [HE.out, hn.out, hrd, if_neg hfa]
          have hfa' : ¬ (faultP (t1, t2) == 0) = true := by simpa using hfa
          have hq : (faultP (t1, t2) != 0) = true := by simpa using hfa
          have HOk : Hid (okL (faultP (t1, t2)) (sortP r) = []) := okL_ne hfa _
          generalize faultP (t1, t2) = fk at *
          clear hrd hst htk hcx hfa hfa'
          go_wp2_with fail
          refine (HFr.out _).mono ?_
          rintro e w1 ⟨rfl, hw1⟩
          have B1 : Hid (Below w.heap.size w w1) := Bel.call hb.out (Nat.le_refl _) hw1
          clear hw1 c0 c1
          go_wp2
          refine bodyPost_ret (v := .tuple #[.slice none 0 0, .int .i64 fk]) (by simp [results, Tryd.results15, go_sem]) rfl ?_
          rw [HRe'.out, HOk.out]
          exact ⟨_, rfl, fracs_nil _ _, B1.out⟩
      · obtain rfl : i = r.length := by omega
        have HE0 : Hid (sortE r = 0) := by show _ = _; rw [HE.out, hn.out, HRe.out]
        have hsl := HSl.out r.length (Nat.le_refl _)
        have HY : Hid (FracsAt (fun b => w.heap.size ≤ b) wr (.slice a4 r.length c4) (sortP r)) := by
          rw [← HSa.out]
          exact fracs_of_owns (base := w.heap.size) (by omega) (by rw [hsl]; exact ho.out) (fun g hg => hg)
        go_wp2
        refine bodyPost_ret (v := .tuple #[.slice a4 r.length c4, .int .i64 0]) (by simp [results, Tryd.results15, go_sem]) rfl ?_
        rw [HE0.out]
        exact ⟨_, rfl, HY.out, hb.out⟩
end Fl
end Go.Proofs.YtcleeepbpibcfacDoor
