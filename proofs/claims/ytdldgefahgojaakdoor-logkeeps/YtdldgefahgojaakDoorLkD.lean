/- The law LogKeeps: a flow is dropped. -/
import Derived.Test.YtdldgefahgojaakDoorPlains
import Derived.Test.YtdldgefahgojaakDoorWithout
namespace Go.Proofs.YtdldgefahgojaakDoor
namespace Ev
open Go.RowKit Fr Ns Ld Fl
set_option linter.unusedSimpArgs false
set_option linter.unusedVariables false

section
variable {X : LogFace} {w : World} {caps : List Int} {paths : List (List Int)} {drops syncs fails keeps : List Int} {a0 a1 a2 a3 a4 a5 : Option Addr} {c0 c1 c2 c3 c4 c5 : Nat} {aj : Addr} {dv mv : Value} {t r k m : Nat} {s : LogS} {dn : List Flows} {mk : List Nat} {a : Act} {u : World}
theorem lists_few {Q : Nat → Prop} {u : World} {v : Value} {f : Flows} (h : ListsAt Q u v f) : ∃ ap cp, v = .slice ap f.length cp := by
  obtain ⟨ap, cp, rfl, _⟩ := h
  exact ⟨ap, cp, rfl⟩
set_option maxRecDepth 100000 in
set_option maxHeartbeats 8000000 in
theorem lk_d36 {nb nx i : Nat} {f : Flows} (hv2 : IntsAt (fun b => b < w.heap.size) w (.slice a2 drops.length c2) drops) (h1 : t < drops.length) (h0 : drops.getD t 0 = i) (ha : Slots 397 (lkB a0 a1 a2 a3 a4 a5 caps.length paths.length drops.length syncs.length fails.length keeps.length c0 c1 c2 c3 c4 c5 aj dv mv t r [(29, .int .i64 k), (30, .pointer (some ⟨nb, 0, none⟩)), (31, .pointer (some ⟨nx, 0, none⟩)), (32, .int .i64 0), (33, .int .i64 s.bytes)]) a) (hk : Next X w aj (.slice a0 caps.length c0) m s dv mv dn mk nb f nx f u) :
    Lk [1, 1, 1, 1, 1, 1, 1, 1, 1, 1, 1, 1, 1, 1, 1, 1, 1, 0, 1, 0, 0, 1, 0, 0, 1, 0, 1, 0, 0, 1, 0, 0, 1, 1, 1, 1, 1, 1, 0, 1, 0, 0, 0, 0] (fun a' u' => ∃ b : Bool, Slots 397 (lkB a0 a1 a2 a3 a4 a5 caps.length paths.length drops.length syncs.length fails.length keeps.length c0 c1 c2 c3 c4 c5 aj dv mv t r [(29, .int .i64 k), (30, .pointer (some ⟨nb, 0, none⟩)), (31, .pointer (some ⟨nx, 0, none⟩)), (32, .int .i64 0), (33, .int .i64 s.bytes), (209, .bool b)]) a' ∧ Next X w aj (.slice a0 caps.length c0) m s dv mv dn mk nb f nx f u' ∧ (b = true ↔ f.length ≤ i)) a u := by
  have hbw := hk.below
  obtain ⟨b, off, rfl, hc⟩ := ints_cells hv2 t h1
  obtain ⟨pv, Q, r1, ⟨pv', r2⟩, hl, hQ, hst⟩ := hk.use
  have q1 := hc u hbw
  have q2 := r1.cell (i := 0) rfl
  have q3 := r1.cell (i := 1) rfl
  rw [h0] at q1
  have KL : Hid (∀ n, Next X w aj (.slice a0 caps.length c0) m s dv mv dn mk nb f nx f (u.drewN n)) := fun n => hk.later (below_drewN (Below.refl _ _) _)
  have h1' : (t : Int) < drops.length := by omega
  obtain ⟨ap, cp, rfl⟩ := lists_few hl
  clear hk hv2 hst hl hQ hc r1 r2 h0 hbw h1
  refine Thru.mk fun J K hJ hK => ?_
  obtain ⟨Y, rfl, hY⟩ := ha.lay
  obtain ⟨e0, e1, e2, e3, e4, e5, e6, e7, e8, e9, e10, e11, e12, e13, e14, e15, -⟩ := hY
  rw [range_lk]
  simp only [e0, e1, e2, e3, e4, e5, e6, e7, e8, e9, e10, e11, e12, e13, e14, e15]
  clear ha e0 e1 e2 e3 e4 e5 e6 e7 e8 e9 e10 e11 e12 e13 e14 e15
  conv => arg 2; whnf
  go_wp2_with fail
  go_quiet (fail)
  go_wp2
  refine Met.intro (hJ _ _ ?_)
  exact ⟨_, ⟨rfl, by kernel_rfl, has_cons rfl (has_cons rfl (has_cons rfl (has_cons rfl (has_cons rfl (has_cons rfl (has_cons rfl (has_cons rfl (has_cons rfl (has_cons rfl (has_cons rfl (has_cons rfl (has_cons rfl (has_cons rfl (has_cons rfl (has_cons rfl (has_cons rfl (has_nil)))))))))))))))))⟩, KL.out _, by simp⟩
set_option maxRecDepth 100000 in
set_option maxHeartbeats 8000000 in
theorem lk_d37 {nx : Nat} (ha : Slots 397 (lkB a0 a1 a2 a3 a4 a5 caps.length paths.length drops.length syncs.length fails.length keeps.length c0 c1 c2 c3 c4 c5 aj dv mv t r [(29, .int .i64 k), (31, .pointer (some ⟨nx, 0, none⟩)), (33, .int .i64 s.bytes)]) a) :
    Lk [1, 1, 1, 1, 1, 1, 1, 1, 1, 1, 1, 1, 1, 1, 1, 1, 1, 0, 1, 0, 0, 1, 0, 0, 1, 0, 1, 0, 0, 1, 0, 0, 1, 1, 1, 1, 1, 1, 0, 1, 0, 0, 1, 0] (fun a' u' => Slots 397 (lkB a0 a1 a2 a3 a4 a5 caps.length paths.length drops.length syncs.length fails.length keeps.length c0 c1 c2 c3 c4 c5 aj dv mv t r [(29, .int .i64 k), (31, .pointer (some ⟨nx, 0, none⟩)), (33, .int .i64 s.bytes), (32, .int .i64 1)]) a' ∧ u' = u) a u := by
  refine Thru.mk fun J K hJ hK => ?_
  obtain ⟨Y, rfl, hY⟩ := ha.lay
  obtain ⟨e0, e1, e2, e3, e4, e5, e6, e7, e8, e9, e10, e11, e12, e13, -⟩ := hY
  rw [range_lk]
  simp only [e0, e1, e2, e3, e4, e5, e6, e7, e8, e9, e10, e11, e12, e13]
  clear ha e0 e1 e2 e3 e4 e5 e6 e7 e8 e9 e10 e11 e12 e13
  conv => arg 2; whnf
  go_wp2
  refine Met.intro (hJ _ _ ?_)
  exact ⟨⟨rfl, by kernel_rfl, has_cons rfl (has_cons rfl (has_cons rfl (has_cons rfl (has_cons rfl (has_cons rfl (has_cons rfl (has_cons rfl (has_cons rfl (has_cons rfl (has_cons rfl (has_cons rfl (has_cons rfl (has_cons rfl (has_cons rfl (has_nil)))))))))))))))⟩, rfl⟩
set_option maxRecDepth 100000 in
set_option maxHeartbeats 8000000 in
theorem lk_d38 {nb nx i : Nat} {f : Flows} (hv0 : IntsAt (fun b => b < w.heap.size) w (.slice a0 caps.length c0) caps) (hv2 : IntsAt (fun b => b < w.heap.size) w (.slice a2 drops.length c2) drops) (h1 : t < drops.length) (h0 : drops.getD t 0 = i) (hlt : i < f.length) (hf : f.length ≤ 1000) (ha : Slots 397 (lkB a0 a1 a2 a3 a4 a5 caps.length paths.length drops.length syncs.length fails.length keeps.length c0 c1 c2 c3 c4 c5 aj dv mv t r [(29, .int .i64 k), (30, .pointer (some ⟨nb, 0, none⟩)), (31, .pointer (some ⟨nx, 0, none⟩)), (32, .int .i64 0), (33, .int .i64 s.bytes)]) a) (hk : Next X w aj (.slice a0 caps.length c0) m s dv mv dn mk nb f nx f u) :
    Lk [1, 1, 1, 1, 1, 1, 1, 1, 1, 1, 1, 1, 1, 1, 1, 1, 1, 0, 1, 0, 0, 1, 0, 0, 1, 0, 1, 0, 0, 1, 0, 0, 1, 1, 1, 1, 1, 1, 0, 1, 0, 0, 1, 1] (fun a' u' => Slots 397 (lkB a0 a1 a2 a3 a4 a5 caps.length paths.length drops.length syncs.length fails.length keeps.length c0 c1 c2 c3 c4 c5 aj dv mv t r [(29, .int .i64 k), (31, .pointer (some ⟨nx, 0, none⟩)), (33, .int .i64 s.bytes), (32, .int .i64 0)]) a' ∧ Next X w aj (.slice a0 caps.length c0) m s dv mv dn mk nb f nx (lessF f i) u') a u := by
  have hbw := hk.below
  obtain ⟨b, off, rfl, hc⟩ := ints_cells hv2 t h1
  obtain ⟨pv, Q, r1, ⟨pv', r2⟩, hl, hQ, hst⟩ := hk.use
  have q1 := hc u hbw
  have q2 := r1.cell (i := 0) rfl
  have q3 := r1.cell (i := 1) rfl
  rw [h0] at q1
  have h1' : (t : Int) < drops.length := by omega
  have HR : Hid (∀ u', Below u.heap.size u u' → u'.cell? ⟨nx, 0, none⟩ = some (.slice a0 caps.length c0) ∧ u'.cell? ⟨nx, 1, none⟩ = some pv' ∧ u'.frozen? ⟨nx, 0, none⟩ = false ∧ u'.frozen? ⟨nx, 1, none⟩ = false) := fun u' hb => by
    have r := r2.later hb r2.lt
    exact ⟨r.cell (i := 0) rfl, r.cell (i := 1) rfl, r.frozen 0, r.frozen 1⟩
  have HW : Hid (∀ u', Below u.heap.size u u' → Calls Tryd.prog 17 #[.agg #[(.slice a0 caps.length c0), pv], .int .i64 i] u' fun e w' => ∃ y, e = .returned (.agg #[(.slice a0 caps.length c0), y]) ∧ Below u.heap.size u w' ∧ (∃ ay ny cy, y = .slice ay ny cy) ∧ Hid (Next X w aj (.slice a0 caps.length c0) m s dv mv dn mk nb f nx (lessF f i) ((w'.setCell ⟨nx, 0, none⟩ (.slice a0 caps.length c0)).setCell ⟨nx, 1, none⟩ y))) := fun u' hb => by
    refine (RWithout_same (Q := Q) caps f i _ pv u' ((hv0.later (Bel.call hbw (Nat.le_refl _) hb)).keep (fun _ _ _ => rfl) (fun b h _ => hQ b h)) (hl.later hb) hlt hf).mono ?_
    rintro e w' ⟨y, he, i1, i2, hb2⟩
    obtain ⟨ay, cy, hy⟩ := lists_few i2
    refine ⟨y, he, Bel.call hb (Nat.le_refl _) hb2, ⟨ay, _, cy, hy⟩, ?_⟩
    have := hst w' y (lessF f i) (Bel.call hb (Nat.le_refl _) hb2) (i2.keep (fun _ _ _ => rfl) (fun b h _ => h.imp id (fun h => by have := hb.size; omega)))
    exact this
  obtain ⟨ap, cp, rfl⟩ := lists_few hl
  have P1 : Hid (Below u.heap.size u u.drew) := (Below.refl _ _).drew
  clear hk hv2 hst hl hQ hc r1 r2 h0 hbw h1 hlt hf hv0
  refine Thru.mk fun J K hJ hK => ?_
  obtain ⟨Y, rfl, hY⟩ := ha.lay
  obtain ⟨e0, e1, e2, e3, e4, e5, e6, e7, e8, e9, e10, e11, e12, e13, e14, e15, -⟩ := hY
  rw [range_lk]
  simp only [e0, e1, e2, e3, e4, e5, e6, e7, e8, e9, e10, e11, e12, e13, e14, e15]
  clear ha e0 e1 e2 e3 e4 e5 e6 e7 e8 e9 e10 e11 e12 e13 e14 e15
  conv => arg 2; whnf
  go_wp2_with fail
  go_region_law (first | (go_simp; refine (HW.out _ ?_).mono ?_; (exact P1.out); rintro e w5 ⟨y, rfl, hb5, ⟨ay, ny, cy, rfl⟩, hN⟩; obtain ⟨z0, z1, z2, z3⟩ := HR.out _ hb5))
  all_goals
    go_wp2_with fail
    refine Met.intro (hJ _ _ ?_)
    exact ⟨⟨rfl, by kernel_rfl, has_cons rfl (has_cons rfl (has_cons rfl (has_cons rfl (has_cons rfl (has_cons rfl (has_cons rfl (has_cons rfl (has_cons rfl (has_cons rfl (has_cons rfl (has_cons rfl (has_cons rfl (has_cons rfl (has_cons rfl (has_nil)))))))))))))))⟩, hN.out⟩
set_option maxRecDepth 100000 in
set_option maxHeartbeats 8000000 in
theorem lk_d39 {nx i : Nat} {fv : Int} {pv : Value} {g : Flows} (hD : LDropSaid X) (hv2 : IntsAt (fun b => b < w.heap.size) w (.slice a2 drops.length c2) drops) (h1 : t < drops.length) (h0 : drops.getD t 0 = i) (hm : m + 1 ≤ 1000) (ha : Slots 397 (lkB a0 a1 a2 a3 a4 a5 caps.length paths.length drops.length syncs.length fails.length keeps.length c0 c1 c2 c3 c4 c5 aj dv mv t r [(29, .int .i64 k), (31, .pointer (some ⟨nx, 0, none⟩)), (33, .int .i64 s.bytes), (32, .int .i64 fv)]) a) (hk : KeepsE X w aj (.slice a0 caps.length c0) m s dv mv dn mk [(nx, pv, g)] u) :
    Lk [1, 1, 1, 1, 1, 1, 1, 1, 1, 1, 1, 1, 1, 1, 1, 1, 1, 0, 1, 0, 0, 1, 0, 0, 1, 0, 1, 0, 0, 1, 0, 0, 1, 1, 1, 1, 1, 1, 0, 1, 0, 1] (fun a' u' => ∃ s', Slots 397 (lkB a0 a1 a2 a3 a4 a5 caps.length paths.length drops.length syncs.length fails.length keeps.length c0 c1 c2 c3 c4 c5 aj dv mv t r [(29, .int .i64 k), (31, .pointer (some ⟨nx, 0, none⟩)), (33, .int .i64 s.bytes), (32, .int .i64 fv), (34, errV (dropLE s i))]) a' ∧ KeepsE X w aj (.slice a0 caps.length c0) (m + 1) s' dv mv dn mk [(nx, pv, g)] u' ∧ Stepped s s' (dropLE s i) (faultD s.flows i) (lessF s.flows i)) a u := by
  obtain ⟨b, off, rfl, hc⟩ := ints_cells hv2 t h1
  have q1 := hc u hk.below
  rw [h0] at q1
  have h1' : (t : Int) < drops.length := by omega
  have HD : Hid (Calls Tryd.prog 18 #[.pointer (some aj), .int .i64 i] u fun e w' => ∃ s', e = .returned (errV (dropLE s i)) ∧ Hid (KeepsE X w aj (.slice a0 caps.length c0) (m + 1) s' dv mv dn mk [(nx, pv, g)] w') ∧ Hid (Stepped s s' (dropLE s i) (faultD s.flows i) (lessF s.flows i))) := by
    refine (k_drop hD i hk hm).mono ?_
    rintro e w' ⟨n, n2, n3, he, hk'⟩
    exact ⟨_, he, hk', drop_stepped n2 (by omega)⟩
  clear hk hD h0 h1 hv2 hc
  generalize errV (dropLE s i) = ev at *
  refine Thru.mk fun J K hJ hK => ?_
  obtain ⟨Y, rfl, hY⟩ := ha.lay
  obtain ⟨e0, e1, e2, e3, e4, e5, e6, e7, e8, e9, e10, e11, e12, e13, e14, -⟩ := hY
  rw [range_lk]
  simp only [e0, e1, e2, e3, e4, e5, e6, e7, e8, e9, e10, e11, e12, e13, e14]
  clear ha e0 e1 e2 e3 e4 e5 e6 e7 e8 e9 e10 e11 e12 e13 e14
  conv => arg 2; whnf
  go_wp2_with fail
  refine HD.out.mono ?_
  rintro e w1 ⟨s', rfl, hk, hst⟩
  clear HD
  go_wp2
  refine Met.intro (hJ _ _ ?_)
  exact ⟨s', ⟨rfl, by kernel_rfl, has_cons rfl (has_cons rfl (has_cons rfl (has_cons rfl (has_cons rfl (has_cons rfl (has_cons rfl (has_cons rfl (has_cons rfl (has_cons rfl (has_cons rfl (has_cons rfl (has_cons rfl (has_cons rfl (has_cons rfl (has_cons rfl (has_nil))))))))))))))))⟩, hk.out, hst.out⟩
end
end Ev
end Go.Proofs.YtdldgefahgojaakDoor
