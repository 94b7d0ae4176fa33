/- The law LogKeeps: a flow is added. -/
import Derived.Test.YtdldgefahgojaakDoorPlains
import Derived.Test.YtdldgefahgojaakDoorWith0
import Derived.Test.YtdldgefahgojaakDoorIntsB
namespace Go.Proofs.YtdldgefahgojaakDoor
namespace Ev
open Go.RowKit Fr Ns Ld Fl
set_option linter.unusedSimpArgs false
set_option linter.unusedVariables false

section
variable {X : LogFace} {w : World} {caps : List Int} {paths : List (List Int)} {drops syncs fails keeps : List Int} {a0 a1 a2 a3 a4 a5 : Option Addr} {c0 c1 c2 c3 c4 c5 : Nat} {aj : Addr} {dv mv : Value} {t r k m : Nat} {s : LogS} {dn : List Flows} {mk : List Nat} {a : Act} {u : World}
theorem lists_cells {Q : Nat → Prop} {w : World} {a : Option Addr} {n cap : Nat} {l : List (List Int)} (h : ListsAt Q w (.slice a n cap) l) : ∀ i, i < l.length → ∃ b off ai ci, a = some ⟨b, off, none⟩ ∧ (∀ u, Below w.heap.size w u → u.cell? ⟨b, off + i, none⟩ = some (.slice ai (l.getD i []).length ci)) ∧ IntsAt Q w (.slice ai (l.getD i []).length ci) (l.getD i []) := by
  intro i hi
  obtain ⟨a', c', e, _, hc⟩ := id h
  simp only [Value.slice.injEq] at e
  obtain ⟨rfl, -, rfl⟩ := e
  rcases hc with hc | ⟨b, off, rfl, hc, _⟩
  · rw [hc] at hi; simp at hi
  · obtain ⟨x, hx, hxi⟩ := hc i hi
    obtain ⟨ai, ci, rfl, _⟩ := id hxi
    exact ⟨b, off, ai, ci, rfl, fun u hu => cell_later hu hx, hxi⟩
set_option maxRecDepth 100000 in
set_option maxHeartbeats 8000000 in
theorem lk_a40 {nb nx : Nat} {f : Flows} (ha : Slots 397 (lkB a0 a1 a2 a3 a4 a5 caps.length paths.length drops.length syncs.length fails.length keeps.length c0 c1 c2 c3 c4 c5 aj dv mv t r [(29, .int .i64 k), (30, .pointer (some ⟨nb, 0, none⟩)), (31, .pointer (some ⟨nx, 0, none⟩)), (33, .int .i64 s.bytes)]) a) (hk : Next X w aj (.slice a0 caps.length c0) m s dv mv dn mk nb f nx f u) :
    Lk [1, 1, 1, 1, 1, 1, 1, 1, 1, 1, 1, 1, 1, 1, 1, 1, 1, 0, 1, 0, 0, 1, 0, 0, 1, 0, 1, 0, 0, 1, 0, 0, 1, 1, 1, 1, 1, 1, 0, 1, 1, 0, 0, 0] (fun a' u' => ∃ b : Bool, Slots 397 (lkB a0 a1 a2 a3 a4 a5 caps.length paths.length drops.length syncs.length fails.length keeps.length c0 c1 c2 c3 c4 c5 aj dv mv t r [(29, .int .i64 k), (30, .pointer (some ⟨nb, 0, none⟩)), (31, .pointer (some ⟨nx, 0, none⟩)), (33, .int .i64 s.bytes), (225, .bool b)]) a' ∧ u' = u ∧ (b = true ↔ f.length = 6)) a u := by
  obtain ⟨pv, Q, r1, ⟨pv', r2⟩, hl, hQ, hst⟩ := hk.use
  have q3 := r1.cell (i := 1) rfl
  obtain ⟨ap, cp, rfl, _⟩ := hl
  clear hk hQ r1 r2 hst
  refine Thru.mk fun J K hJ hK => ?_
  obtain ⟨Y, rfl, hY⟩ := ha.lay
  obtain ⟨e0, e1, e2, e3, e4, e5, e6, e7, e8, e9, e10, e11, e12, e13, e14, -⟩ := hY
  rw [range_lk]
  simp only [e0, e1, e2, e3, e4, e5, e6, e7, e8, e9, e10, e11, e12, e13, e14]
  clear ha e0 e1 e2 e3 e4 e5 e6 e7 e8 e9 e10 e11 e12 e13 e14
  conv => arg 2; whnf
  go_wp2
  refine Met.intro (hJ _ _ ?_)
  exact ⟨_, ⟨rfl, by kernel_rfl, has_cons rfl (has_cons rfl (has_cons rfl (has_cons rfl (has_cons rfl (has_cons rfl (has_cons rfl (has_cons rfl (has_cons rfl (has_cons rfl (has_cons rfl (has_cons rfl (has_cons rfl (has_cons rfl (has_cons rfl (has_cons rfl (has_nil))))))))))))))))⟩, rfl, by simp; try omega⟩
set_option maxRecDepth 100000 in
set_option maxHeartbeats 8000000 in
theorem lk_a41 {nb nx : Nat} (ha : Slots 397 (lkB a0 a1 a2 a3 a4 a5 caps.length paths.length drops.length syncs.length fails.length keeps.length c0 c1 c2 c3 c4 c5 aj dv mv t r [(29, .int .i64 k), (30, .pointer (some ⟨nb, 0, none⟩)), (31, .pointer (some ⟨nx, 0, none⟩)), (33, .int .i64 s.bytes)]) a) :
    Lk [1, 1, 1, 1, 1, 1, 1, 1, 1, 1, 1, 1, 1, 1, 1, 1, 1, 0, 1, 0, 0, 1, 0, 0, 1, 0, 1, 0, 0, 1, 0, 0, 1, 1, 1, 1, 1, 1, 0, 1, 1, 0, 1, 0] (fun a' u' => Slots 397 (lkB a0 a1 a2 a3 a4 a5 caps.length paths.length drops.length syncs.length fails.length keeps.length c0 c1 c2 c3 c4 c5 aj dv mv t r [(29, .int .i64 k), (30, .pointer (some ⟨nb, 0, none⟩)), (31, .pointer (some ⟨nx, 0, none⟩)), (33, .int .i64 s.bytes), (32, .int .i64 4)]) a' ∧ u' = u) a u := by
  refine Thru.mk fun J K hJ hK => ?_
  obtain ⟨Y, rfl, hY⟩ := ha.lay
  obtain ⟨e0, e1, e2, e3, e4, e5, e6, e7, e8, e9, e10, e11, e12, e13, e14, -⟩ := hY
  rw [range_lk]
  simp only [e0, e1, e2, e3, e4, e5, e6, e7, e8, e9, e10, e11, e12, e13, e14]
  clear ha e0 e1 e2 e3 e4 e5 e6 e7 e8 e9 e10 e11 e12 e13 e14
  conv => arg 2; whnf
  go_wp2
  refine Met.intro (hJ _ _ ?_)
  exact ⟨⟨rfl, by kernel_rfl, has_cons rfl (has_cons rfl (has_cons rfl (has_cons rfl (has_cons rfl (has_cons rfl (has_cons rfl (has_cons rfl (has_cons rfl (has_cons rfl (has_cons rfl (has_cons rfl (has_cons rfl (has_cons rfl (has_cons rfl (has_cons rfl (has_nil))))))))))))))))⟩, rfl⟩
set_option maxRecDepth 100000 in
set_option maxHeartbeats 8000000 in
theorem lk_a42 {nb nx : Nat} {f : Flows} (hv1 : ListsAt (fun b => b < w.heap.size) w (.slice a1 paths.length c1) paths) (h1 : t < paths.length) (ha : Slots 397 (lkB a0 a1 a2 a3 a4 a5 caps.length paths.length drops.length syncs.length fails.length keeps.length c0 c1 c2 c3 c4 c5 aj dv mv t r [(29, .int .i64 k), (30, .pointer (some ⟨nb, 0, none⟩)), (31, .pointer (some ⟨nx, 0, none⟩)), (33, .int .i64 s.bytes)]) a) (hk : Next X w aj (.slice a0 caps.length c0) m s dv mv dn mk nb f nx f u) :
    Lk [1, 1, 1, 1, 1, 1, 1, 1, 1, 1, 1, 1, 1, 1, 1, 1, 1, 0, 1, 0, 0, 1, 0, 0, 1, 0, 1, 0, 0, 1, 0, 0, 1, 1, 1, 1, 1, 1, 0, 1, 1, 0, 1, 1] (fun a' u' => Slots 397 (lkB a0 a1 a2 a3 a4 a5 caps.length paths.length drops.length syncs.length fails.length keeps.length c0 c1 c2 c3 c4 c5 aj dv mv t r [(29, .int .i64 k), (30, .pointer (some ⟨nb, 0, none⟩)), (31, .pointer (some ⟨nx, 0, none⟩)), (33, .int .i64 s.bytes), (32, .int .i64 (pathE caps.length (paths.getD t [])))]) a' ∧ Next X w aj (.slice a0 caps.length c0) m s dv mv dn mk nb f nx f u') a u := by
  obtain ⟨b, off, ai, ci, rfl, hc, hp⟩ := lists_cells hv1 t h1
  have q1 := hc u hk.below
  have h1' : (t : Int) < paths.length := by omega
  have HP : Hid (Calls Tryd.prog 19 #[.int .i64 caps.length, .slice ai (paths.getD t []).length ci] u fun e w' => e = .returned (.int .i64 (pathE caps.length (paths.getD t []))) ∧ Hid (Next X w aj (.slice a0 caps.length c0) m s dv mv dn mk nb f nx f w')) := by
    refine (Path_any caps.length (paths.getD t []) _ u (hp.later hk.below)).mono ?_
    rintro e w' ⟨he, n, rfl⟩
    exact ⟨he, hk.later (below_drewN (Below.refl _ _) _)⟩
  clear hk hv1 hc hp h1
  generalize paths.getD t [] = p at *
  refine Thru.mk fun J K hJ hK => ?_
  obtain ⟨Y, rfl, hY⟩ := ha.lay
  obtain ⟨e0, e1, e2, e3, e4, e5, e6, e7, e8, e9, e10, e11, e12, e13, e14, -⟩ := hY
  rw [range_lk]
  simp only [e0, e1, e2, e3, e4, e5, e6, e7, e8, e9, e10, e11, e12, e13, e14]
  clear ha e0 e1 e2 e3 e4 e5 e6 e7 e8 e9 e10 e11 e12 e13 e14
  conv => arg 2; whnf
  go_wp2_with fail
  refine HP.out.mono ?_
  rintro e w1 ⟨rfl, hk⟩
  clear HP
  go_wp2
  refine Met.intro (hJ _ _ ?_)
  exact ⟨⟨rfl, by kernel_rfl, has_cons rfl (has_cons rfl (has_cons rfl (has_cons rfl (has_cons rfl (has_cons rfl (has_cons rfl (has_cons rfl (has_cons rfl (has_cons rfl (has_cons rfl (has_cons rfl (has_cons rfl (has_cons rfl (has_cons rfl (has_cons rfl (has_nil))))))))))))))))⟩, hk.out⟩
set_option maxRecDepth 100000 in
set_option maxHeartbeats 8000000 in
theorem lk_a43 {nb nx : Nat} {fv : Int} (ha : Slots 397 (lkB a0 a1 a2 a3 a4 a5 caps.length paths.length drops.length syncs.length fails.length keeps.length c0 c1 c2 c3 c4 c5 aj dv mv t r [(29, .int .i64 k), (30, .pointer (some ⟨nb, 0, none⟩)), (31, .pointer (some ⟨nx, 0, none⟩)), (33, .int .i64 s.bytes), (32, .int .i64 fv)]) a) :
    Lk [1, 1, 1, 1, 1, 1, 1, 1, 1, 1, 1, 1, 1, 1, 1, 1, 1, 0, 1, 0, 0, 1, 0, 0, 1, 0, 1, 0, 0, 1, 0, 0, 1, 1, 1, 1, 1, 1, 0, 1, 1, 1, 0, 0, 0] (fun a' u' => ∃ b : Bool, Slots 397 (lkB a0 a1 a2 a3 a4 a5 caps.length paths.length drops.length syncs.length fails.length keeps.length c0 c1 c2 c3 c4 c5 aj dv mv t r [(29, .int .i64 k), (30, .pointer (some ⟨nb, 0, none⟩)), (31, .pointer (some ⟨nx, 0, none⟩)), (33, .int .i64 s.bytes), (32, .int .i64 fv), (234, .bool b)]) a' ∧ u' = u ∧ (b = true ↔ fv = 0)) a u := by
  refine Thru.mk fun J K hJ hK => ?_
  obtain ⟨Y, rfl, hY⟩ := ha.lay
  obtain ⟨e0, e1, e2, e3, e4, e5, e6, e7, e8, e9, e10, e11, e12, e13, e14, e15, -⟩ := hY
  rw [range_lk]
  simp only [e0, e1, e2, e3, e4, e5, e6, e7, e8, e9, e10, e11, e12, e13, e14, e15]
  clear ha e0 e1 e2 e3 e4 e5 e6 e7 e8 e9 e10 e11 e12 e13 e14 e15
  conv => arg 2; whnf
  go_wp2
  refine Met.intro (hJ _ _ ?_)
  exact ⟨_, ⟨rfl, by kernel_rfl, has_cons rfl (has_cons rfl (has_cons rfl (has_cons rfl (has_cons rfl (has_cons rfl (has_cons rfl (has_cons rfl (has_cons rfl (has_cons rfl (has_cons rfl (has_cons rfl (has_cons rfl (has_cons rfl (has_cons rfl (has_cons rfl (has_cons rfl (has_nil)))))))))))))))))⟩, rfl, by simp⟩
set_option maxRecDepth 100000 in
set_option maxHeartbeats 8000000 in
theorem lk_a44 {nb nx : Nat} {fv : Int} {f : Flows} (hv0 : IntsAt (fun b => b < w.heap.size) w (.slice a0 caps.length c0) caps) (hv1 : ListsAt (fun b => b < w.heap.size) w (.slice a1 paths.length c1) paths) (h1 : t < paths.length) (hf : f.length ≤ 1000) (ha : Slots 397 (lkB a0 a1 a2 a3 a4 a5 caps.length paths.length drops.length syncs.length fails.length keeps.length c0 c1 c2 c3 c4 c5 aj dv mv t r [(29, .int .i64 k), (30, .pointer (some ⟨nb, 0, none⟩)), (31, .pointer (some ⟨nx, 0, none⟩)), (33, .int .i64 s.bytes), (32, .int .i64 fv)]) a) (hk : Next X w aj (.slice a0 caps.length c0) m s dv mv dn mk nb f nx f u) :
    Lk [1, 1, 1, 1, 1, 1, 1, 1, 1, 1, 1, 1, 1, 1, 1, 1, 1, 0, 1, 0, 0, 1, 0, 0, 1, 0, 1, 0, 0, 1, 0, 0, 1, 1, 1, 1, 1, 1, 0, 1, 1, 1, 0, 1, 0] (fun a' u' => Slots 397 (lkB a0 a1 a2 a3 a4 a5 caps.length paths.length drops.length syncs.length fails.length keeps.length c0 c1 c2 c3 c4 c5 aj dv mv t r [(29, .int .i64 k), (31, .pointer (some ⟨nx, 0, none⟩)), (33, .int .i64 s.bytes), (32, .int .i64 fv)]) a' ∧ Next X w aj (.slice a0 caps.length c0) m s dv mv dn mk nb f nx (f ++ [paths.getD t []]) u') a u := by
  have hbw := hk.below
  obtain ⟨b, off, ai, ci, rfl, hc, hp⟩ := lists_cells hv1 t h1
  obtain ⟨pv, Q, r1, ⟨pv', r2⟩, hl, hQ, hst⟩ := hk.use
  have q1 := hc u hbw
  have q2 := r1.cell (i := 0) rfl
  have q3 := r1.cell (i := 1) rfl
  have h1' : (t : Int) < paths.length := by omega
  have HR : Hid (∀ u', Below u.heap.size u u' → u'.cell? ⟨nx, 0, none⟩ = some (.slice a0 caps.length c0) ∧ u'.cell? ⟨nx, 1, none⟩ = some pv' ∧ u'.frozen? ⟨nx, 0, none⟩ = false ∧ u'.frozen? ⟨nx, 1, none⟩ = false) := fun u' hb => by
    have r := r2.later hb r2.lt
    exact ⟨r.cell (i := 0) rfl, r.cell (i := 1) rfl, r.frozen 0, r.frozen 1⟩
  have HW : Hid (∀ u', Below u.heap.size u u' → Calls Tryd.prog 20 #[.agg #[(.slice a0 caps.length c0), pv], .slice ai (paths.getD t []).length ci] u' fun e w' => ∃ y, e = .returned (.agg #[(.slice a0 caps.length c0), y]) ∧ Below u.heap.size u w' ∧ (∃ ay ny cy, y = .slice ay ny cy) ∧ Hid (Next X w aj (.slice a0 caps.length c0) m s dv mv dn mk nb f nx (f ++ [paths.getD t []]) ((w'.setCell ⟨nx, 0, none⟩ (.slice a0 caps.length c0)).setCell ⟨nx, 1, none⟩ y))) := fun u' hb => by
    have hbu := Bel.call hbw (Nat.le_refl _) hb
    refine (RWith_allS (Q := Q) caps f (paths.getD t []) _ pv _ u' ((hv0.later hbu).keep (fun _ _ _ => rfl) (fun b h _ => hQ b h)) (hl.later hb) ((hp.later hbu).keep (fun _ _ _ => rfl) (fun b h _ => hQ b h)) hf).mono ?_
    rintro e w' ⟨y, he, i1, i2, hb2⟩
    obtain ⟨ay, cy, hy, _⟩ := id i2
    refine ⟨y, he, Bel.call hb (Nat.le_refl _) hb2, ⟨ay, _, cy, hy⟩, ?_⟩
    have := hst w' y (f ++ [paths.getD t []]) (Bel.call hb (Nat.le_refl _) hb2) (i2.keep (fun _ _ _ => rfl) (fun b h _ => h.imp id (fun h => by have := hb.size; omega)))
    exact this
  obtain ⟨ap, cp, rfl, _⟩ := hl
  have P1 : Hid (Below u.heap.size u u.drew) := (Below.refl _ _).drew
  clear hk hv1 hst hQ hc r1 r2 hbw h1 hf hv0 hp
  generalize paths.getD t [] = p at *
  refine Thru.mk fun J K hJ hK => ?_
  obtain ⟨Y, rfl, hY⟩ := ha.lay
  obtain ⟨e0, e1, e2, e3, e4, e5, e6, e7, e8, e9, e10, e11, e12, e13, e14, e15, -⟩ := hY
  rw [range_lk]
  simp only [e0, e1, e2, e3, e4, e5, e6, e7, e8, e9, e10, e11, e12, e13, e14, e15]
  clear ha e0 e1 e2 e3 e4 e5 e6 e7 e8 e9 e10 e11 e12 e13 e14 e15
  conv => arg 2; whnf
  go_wp2_with fail
  go_region_law (first | (go_simp; refine (HW.out _ ?_).mono ?_; (exact P1.out); rintro e w5 ⟨y, rfl, hb5, ⟨ay, ny, cy, rfl⟩, hN⟩; obtain ⟨z0, z1, z2, z3⟩ := HR.out _ hb5))
  all_goals
    go_wp2_with fail
    refine Met.intro (hJ _ _ ?_)
    exact ⟨⟨rfl, by kernel_rfl, has_cons rfl (has_cons rfl (has_cons rfl (has_cons rfl (has_cons rfl (has_cons rfl (has_cons rfl (has_cons rfl (has_cons rfl (has_cons rfl (has_cons rfl (has_cons rfl (has_cons rfl (has_cons rfl (has_cons rfl (has_nil)))))))))))))))⟩, hN.out⟩
set_option maxRecDepth 100000 in
set_option maxHeartbeats 8000000 in
theorem lk_a45 {nx : Nat} {fv : Int} {pv : Value} {g : Flows} (hA : LAddSaid X) (hv1 : ListsAt (fun b => b < w.heap.size) w (.slice a1 paths.length c1) paths) (h1 : t < paths.length) (hm : m + 1 ≤ 1000) (ha : Slots 397 (lkB a0 a1 a2 a3 a4 a5 caps.length paths.length drops.length syncs.length fails.length keeps.length c0 c1 c2 c3 c4 c5 aj dv mv t r [(29, .int .i64 k), (31, .pointer (some ⟨nx, 0, none⟩)), (33, .int .i64 s.bytes), (32, .int .i64 fv)]) a) (hk : KeepsE X w aj (.slice a0 caps.length c0) m s dv mv dn mk [(nx, pv, g)] u) :
    Lk [1, 1, 1, 1, 1, 1, 1, 1, 1, 1, 1, 1, 1, 1, 1, 1, 1, 0, 1, 0, 0, 1, 0, 0, 1, 0, 1, 0, 0, 1, 0, 0, 1, 1, 1, 1, 1, 1, 0, 1, 1, 1, 1] (fun a' u' => ∃ s', Slots 397 (lkB a0 a1 a2 a3 a4 a5 caps.length paths.length drops.length syncs.length fails.length keeps.length c0 c1 c2 c3 c4 c5 aj dv mv t r [(29, .int .i64 k), (31, .pointer (some ⟨nx, 0, none⟩)), (33, .int .i64 s.bytes), (32, .int .i64 fv), (34, errV (addLE s (paths.getD t [])))]) a' ∧ KeepsE X w aj (.slice a0 caps.length c0) (m + 1) s' dv mv dn mk [(nx, pv, g)] u' ∧ Stepped s s' (addLE s (paths.getD t [])) (faultA s.caps s.flows (paths.getD t [])) (s.flows ++ [paths.getD t []])) a u := by
  obtain ⟨b, off, ai, ci, rfl, hc, hp⟩ := lists_cells hv1 t h1
  have q1 := hc u hk.below
  have h1' : (t : Int) < paths.length := by omega
  have HD : Hid (Calls Tryd.prog 6 #[.pointer (some aj), .slice ai (paths.getD t []).length ci] u fun e w' => ∃ s', e = .returned (errV (addLE s (paths.getD t []))) ∧ Hid (KeepsE X w aj (.slice a0 caps.length c0) (m + 1) s' dv mv dn mk [(nx, pv, g)] w') ∧ Hid (Stepped s s' (addLE s (paths.getD t [])) (faultA s.caps s.flows (paths.getD t [])) (s.flows ++ [paths.getD t []]))) := by
    refine (k_add hA hk hm hp).mono ?_
    rintro e w' ⟨n, n2, n3, he, hk'⟩
    exact ⟨_, he, hk', add_stepped n2⟩
  clear hk hA h1 hv1 hc hp
  generalize paths.getD t [] = p at *
  generalize errV (addLE s p) = ev at *
  refine Thru.mk fun J K hJ hK => ?_
  obtain ⟨Y, rfl, hY⟩ := ha.lay
  obtain ⟨e0, e1, e2, e3, e4, e5, e6, e7, e8, e9, e10, e11, e12, e13, e14, -⟩ := hY
  rw [range_lk]
  simp only [e0, e1, e2, e3, e4, e5, e6, e7, e8, e9, e10, e11, e12, e13, e14]
  clear ha e0 e1 e2 e3 e4 e5 e6 e7 e8 e9 e10 e11 e12 e13 e14
  conv => arg 2; whnf
  go_wp2_with fail
  refine HD.out.mono ?_
  rintro e w1 ⟨s', rfl, hk, hst⟩
  clear HD
  go_wp2
  refine Met.intro (hJ _ _ ?_)
  exact ⟨s', ⟨rfl, by kernel_rfl, has_cons rfl (has_cons rfl (has_cons rfl (has_cons rfl (has_cons rfl (has_cons rfl (has_cons rfl (has_cons rfl (has_cons rfl (has_cons rfl (has_cons rfl (has_cons rfl (has_cons rfl (has_cons rfl (has_cons rfl (has_cons rfl (has_nil))))))))))))))))⟩, hk.out, hst.out⟩
end
end Ev
end Go.Proofs.YtdldgefahgojaakDoor
