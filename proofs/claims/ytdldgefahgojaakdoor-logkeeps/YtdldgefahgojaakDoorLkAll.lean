/- Pieces of one walk, one text behind the other. -/
import Derived.Test.YtdldgefahgojaakDoorPlains
import Derived.Test.YtdldgefahgojaakDoorWithout
import Derived.Test.YtdldgefahgojaakDoorWith0
import Derived.Test.YtdldgefahgojaakDoorIntsB
import Derived.Test.YtdldgefahgojaakDoorToldB
import Derived.Test.YtdldgefahgojaakDoorSame
import Derived.Test.YtdldgefahgojaakDoorLdSame
import Derived.Test.YtdldgefahgojaakDoorRFill
/- The law LogKeeps: a flow is dropped. -/
namespace Go.Proofs.YtdldgefahgojaakDoor
namespace Ev
open Go.RowKit Fr Ns Ld Fl
set_option linter.unusedSimpArgs false
set_option linter.unusedVariables false

section
variable {X : LogFace} {w : World} {caps : List Int} {paths : List (List Int)} {drops syncs fails keeps : List Int} {a0 a1 a2 a3 a4 a5 : Option Addr} {c0 c1 c2 c3 c4 c5 : Nat} {aj : Addr} {dv mv : Value} {t r k m : Nat} {s : LogS} {dn : List Flows} {mk : List Nat} {a : Act} {u : World}
theorem lists_few {Q : Nat → Prop} {u : World} {v : Value} {f : Flows} (h : ListsAt Q u v f) : ∃ ap cp, v = .slice ap f.length cp := by
  obtain ⟨ap, cp, rfl, _⟩ := h
  exact ⟨ap, cp, rfl⟩
set_option maxRecDepth 100000 in
set_option maxHeartbeats 8000000 in
theorem lk_d36 {nb nx i : Nat} {f : Flows} (hv2 : IntsAt (fun b => b < w.heap.size) w (.slice a2 drops.length c2) drops) (h1 : t < drops.length) (h0 : drops.getD t 0 = i) (ha : Slots 397 (lkB a0 a1 a2 a3 a4 a5 caps.length paths.length drops.length syncs.length fails.length keeps.length c0 c1 c2 c3 c4 c5 aj dv mv t r [(29, .int .i64 k), (30, .pointer (some ⟨nb, 0, none⟩)), (31, .pointer (some ⟨nx, 0, none⟩)), (32, .int .i64 0), (33, .int .i64 s.bytes)]) a) (hk : Next X w aj (.slice a0 caps.length c0) m s dv mv dn mk nb f nx f u) :
    Lk [1, 1, 1, 1, 1, 1, 1, 1, 1, 1, 1, 1, 1, 1, 1, 1, 1, 0, 1, 0, 0, 1, 0, 0, 1, 0, 1, 0, 0, 1, 0, 0, 1, 1, 1, 1, 1, 1, 0, 1, 0, 0, 0, 0] (fun a' u' => ∃ b : Bool, Slots 397 (lkB a0 a1 a2 a3 a4 a5 caps.length paths.length drops.length syncs.length fails.length keeps.length c0 c1 c2 c3 c4 c5 aj dv mv t r [(29, .int .i64 k), (30, .pointer (some ⟨nb, 0, none⟩)), (31, .pointer (some ⟨nx, 0, none⟩)), (32, .int .i64 0), (33, .int .i64 s.bytes), (209, .bool b)]) a' ∧ Next X w aj (.slice a0 caps.length c0) m s dv mv dn mk nb f nx f u' ∧ (b = true ↔ f.length ≤ i)) a u := by
  have hbw := hk.below
  obtain ⟨b, off, rfl, hc⟩ := ints_cells hv2 t h1
  obtain ⟨pv, Q, r1, ⟨pv', r2⟩, hl, hQ, hst⟩ := hk.use
  have q1 := hc u hbw
  have q2 := r1.cell (i := 0) rfl
  have q3 := r1.cell (i := 1) rfl
  rw [h0] at q1
  have KL : Hid (∀ n, Next X w aj (.slice a0 caps.length c0) m s dv mv dn mk nb f nx f (u.drewN n)) := fun n => hk.later (below_drewN (Below.refl _ _) _)
  have h1' : (t : Int) < drops.length := by omega
  obtain ⟨ap, cp, rfl⟩ := lists_few hl
  clear hk hv2 hst hl hQ hc r1 r2 h0 hbw h1
  refine Thru.mk fun J K hJ hK => ?_
  obtain ⟨Y, rfl, hY⟩ := ha.lay
  obtain ⟨e0, e1, e2, e3, e4, e5, e6, e7, e8, e9, e10, e11, e12, e13, e14, e15, -⟩ := hY
  rw [range_lk]
  simp only [e0, e1, e2, e3, e4, e5, e6, e7, e8, e9, e10, e11, e12, e13, e14, e15]
  clear ha e0 e1 e2 e3 e4 e5 e6 e7 e8 e9 e10 e11 e12 e13 e14 e15
  conv => arg 2; whnf
  go_wp2_with fail
  go_quiet (fail)
  go_wp2
  refine Met.intro (hJ _ _ ?_)
  exact ⟨_, ⟨rfl, by kernel_rfl, has_cons rfl (has_cons rfl (has_cons rfl (has_cons rfl (has_cons rfl (has_cons rfl (has_cons rfl (has_cons rfl (has_cons rfl (has_cons rfl (has_cons rfl (has_cons rfl (has_cons rfl (has_cons rfl (has_cons rfl (has_cons rfl (has_cons rfl (has_nil)))))))))))))))))⟩, KL.out _, by simp⟩
set_option maxRecDepth 100000 in
set_option maxHeartbeats 8000000 in
theorem lk_d37 {nx : Nat} (ha : Slots 397 (lkB a0 a1 a2 a3 a4 a5 caps.length paths.length drops.length syncs.length fails.length keeps.length c0 c1 c2 c3 c4 c5 aj dv mv t r [(29, .int .i64 k), (31, .pointer (some ⟨nx, 0, none⟩)), (33, .int .i64 s.bytes)]) a) :
    Lk [1, 1, 1, 1, 1, 1, 1, 1, 1, 1, 1, 1, 1, 1, 1, 1, 1, 0, 1, 0, 0, 1, 0, 0, 1, 0, 1, 0, 0, 1, 0, 0, 1, 1, 1, 1, 1, 1, 0, 1, 0, 0, 1, 0] (fun a' u' => Slots 397 (lkB a0 a1 a2 a3 a4 a5 caps.length paths.length drops.length syncs.length fails.length keeps.length c0 c1 c2 c3 c4 c5 aj dv mv t r [(29, .int .i64 k), (31, .pointer (some ⟨nx, 0, none⟩)), (33, .int .i64 s.bytes), (32, .int .i64 1)]) a' ∧ u' = u) a u := by
  refine Thru.mk fun J K hJ hK => ?_
  obtain ⟨Y, rfl, hY⟩ := ha.lay
  obtain ⟨e0, e1, e2, e3, e4, e5, e6, e7, e8, e9, e10, e11, e12, e13, -⟩ := hY
  rw [range_lk]
  simp only [e0, e1, e2, e3, e4, e5, e6, e7, e8, e9, e10, e11, e12, e13]
  clear ha e0 e1 e2 e3 e4 e5 e6 e7 e8 e9 e10 e11 e12 e13
  conv => arg 2; whnf
  go_wp2
  refine Met.intro (hJ _ _ ?_)
  exact ⟨⟨rfl, by kernel_rfl, has_cons rfl (has_cons rfl (has_cons rfl (has_cons rfl (has_cons rfl (has_cons rfl (has_cons rfl (has_cons rfl (has_cons rfl (has_cons rfl (has_cons rfl (has_cons rfl (has_cons rfl (has_cons rfl (has_cons rfl (has_nil)))))))))))))))⟩, rfl⟩
set_option maxRecDepth 100000 in
set_option maxHeartbeats 8000000 in
theorem lk_d38 {nb nx i : Nat} {f : Flows} (hv0 : IntsAt (fun b => b < w.heap.size) w (.slice a0 caps.length c0) caps) (hv2 : IntsAt (fun b => b < w.heap.size) w (.slice a2 drops.length c2) drops) (h1 : t < drops.length) (h0 : drops.getD t 0 = i) (hlt : i < f.length) (hf : f.length ≤ 1000) (ha : Slots 397 (lkB a0 a1 a2 a3 a4 a5 caps.length paths.length drops.length syncs.length fails.length keeps.length c0 c1 c2 c3 c4 c5 aj dv mv t r [(29, .int .i64 k), (30, .pointer (some ⟨nb, 0, none⟩)), (31, .pointer (some ⟨nx, 0, none⟩)), (32, .int .i64 0), (33, .int .i64 s.bytes)]) a) (hk : Next X w aj (.slice a0 caps.length c0) m s dv mv dn mk nb f nx f u) :
    Lk [1, 1, 1, 1, 1, 1, 1, 1, 1, 1, 1, 1, 1, 1, 1, 1, 1, 0, 1, 0, 0, 1, 0, 0, 1, 0, 1, 0, 0, 1, 0, 0, 1, 1, 1, 1, 1, 1, 0, 1, 0, 0, 1, 1] (fun a' u' => Slots 397 (lkB a0 a1 a2 a3 a4 a5 caps.length paths.length drops.length syncs.length fails.length keeps.length c0 c1 c2 c3 c4 c5 aj dv mv t r [(29, .int .i64 k), (31, .pointer (some ⟨nx, 0, none⟩)), (33, .int .i64 s.bytes), (32, .int .i64 0)]) a' ∧ Next X w aj (.slice a0 caps.length c0) m s dv mv dn mk nb f nx (lessF f i) u') a u := by
  have hbw := hk.below
  obtain ⟨b, off, rfl, hc⟩ := ints_cells hv2 t h1
  obtain ⟨pv, Q, r1, ⟨pv', r2⟩, hl, hQ, hst⟩ := hk.use
  have q1 := hc u hbw
  have q2 := r1.cell (i := 0) rfl
  have q3 := r1.cell (i := 1) rfl
  rw [h0] at q1
  have h1' : (t : Int) < drops.length := by omega
  have HR : Hid (∀ u', Below u.heap.size u u' → u'.cell? ⟨nx, 0, none⟩ = some (.slice a0 caps.length c0) ∧ u'.cell? ⟨nx, 1, none⟩ = some pv' ∧ u'.frozen? ⟨nx, 0, none⟩ = false ∧ u'.frozen? ⟨nx, 1, none⟩ = false) := fun u' hb => by
    have r := r2.later hb r2.lt
    exact ⟨r.cell (i := 0) rfl, r.cell (i := 1) rfl, r.frozen 0, r.frozen 1⟩
  have HW : Hid (∀ u', Below u.heap.size u u' → Calls Tryd.prog 17 #[.agg #[(.slice a0 caps.length c0), pv], .int .i64 i] u' fun e w' => ∃ y, e = .returned (.agg #[(.slice a0 caps.length c0), y]) ∧ Below u.heap.size u w' ∧ (∃ ay ny cy, y = .slice ay ny cy) ∧ Hid (Next X w aj (.slice a0 caps.length c0) m s dv mv dn mk nb f nx (lessF f i) ((w'.setCell ⟨nx, 0, none⟩ (.slice a0 caps.length c0)).setCell ⟨nx, 1, none⟩ y))) := fun u' hb => by
    refine (RWithout_same (Q := Q) caps f i _ pv u' ((hv0.later (Bel.call hbw (Nat.le_refl _) hb)).keep (fun _ _ _ => rfl) (fun b h _ => hQ b h)) (hl.later hb) hlt hf).mono ?_
    rintro e w' ⟨y, he, i1, i2, hb2⟩
    obtain ⟨ay, cy, hy⟩ := lists_few i2
    refine ⟨y, he, Bel.call hb (Nat.le_refl _) hb2, ⟨ay, _, cy, hy⟩, ?_⟩
    have := hst w' y (lessF f i) (Bel.call hb (Nat.le_refl _) hb2) (i2.keep (fun _ _ _ => rfl) (fun b h _ => h.imp id (fun h => by have := hb.size; omega)))
    exact this
  obtain ⟨ap, cp, rfl⟩ := lists_few hl
  have P1 : Hid (Below u.heap.size u u.drew) := (Below.refl _ _).drew
  clear hk hv2 hst hl hQ hc r1 r2 h0 hbw h1 hlt hf hv0
  refine Thru.mk fun J K hJ hK => ?_
  obtain ⟨Y, rfl, hY⟩ := ha.lay
  obtain ⟨e0, e1, e2, e3, e4, e5, e6, e7, e8, e9, e10, e11, e12, e13, e14, e15, -⟩ := hY
  rw [range_lk]
  simp only [e0, e1, e2, e3, e4, e5, e6, e7, e8, e9, e10, e11, e12, e13, e14, e15]
  clear ha e0 e1 e2 e3 e4 e5 e6 e7 e8 e9 e10 e11 e12 e13 e14 e15
  conv => arg 2; whnf
  go_wp2_with fail
  go_region_law (first | (go_simp; refine (HW.out _ ?_).mono ?_; (exact P1.out); rintro e w5 ⟨y, rfl, hb5, ⟨ay, ny, cy, rfl⟩, hN⟩; obtain ⟨z0, z1, z2, z3⟩ := HR.out _ hb5))
  all_goals
    go_wp2_with fail
    refine Met.intro (hJ _ _ ?_)
    exact ⟨⟨rfl, by kernel_rfl, has_cons rfl (has_cons rfl (has_cons rfl (has_cons rfl (has_cons rfl (has_cons rfl (has_cons rfl (has_cons rfl (has_cons rfl (has_cons rfl (has_cons rfl (has_cons rfl (has_cons rfl (has_cons rfl (has_cons rfl (has_nil)))))))))))))))⟩, hN.out⟩
set_option maxRecDepth 100000 in
set_option maxHeartbeats 8000000 in
theorem lk_d39 {nx i : Nat} {fv : Int} {pv : Value} {g : Flows} (hD : LDropSaid X) (hv2 : IntsAt (fun b => b < w.heap.size) w (.slice a2 drops.length c2) drops) (h1 : t < drops.length) (h0 : drops.getD t 0 = i) (hm : m + 1 ≤ 1000) (ha : Slots 397 (lkB a0 a1 a2 a3 a4 a5 caps.length paths.length drops.length syncs.length fails.length keeps.length c0 c1 c2 c3 c4 c5 aj dv mv t r [(29, .int .i64 k), (31, .pointer (some ⟨nx, 0, none⟩)), (33, .int .i64 s.bytes), (32, .int .i64 fv)]) a) (hk : KeepsE X w aj (.slice a0 caps.length c0) m s dv mv dn mk [(nx, pv, g)] u) :
    Lk [1, 1, 1, 1, 1, 1, 1, 1, 1, 1, 1, 1, 1, 1, 1, 1, 1, 0, 1, 0, 0, 1, 0, 0, 1, 0, 1, 0, 0, 1, 0, 0, 1, 1, 1, 1, 1, 1, 0, 1, 0, 1] (fun a' u' => ∃ s', Slots 397 (lkB a0 a1 a2 a3 a4 a5 caps.length paths.length drops.length syncs.length fails.length keeps.length c0 c1 c2 c3 c4 c5 aj dv mv t r [(29, .int .i64 k), (31, .pointer (some ⟨nx, 0, none⟩)), (33, .int .i64 s.bytes), (32, .int .i64 fv), (34, errV (dropLE s i))]) a' ∧ KeepsE X w aj (.slice a0 caps.length c0) (m + 1) s' dv mv dn mk [(nx, pv, g)] u' ∧ Stepped s s' (dropLE s i) (faultD s.flows i) (lessF s.flows i)) a u := by
  obtain ⟨b, off, rfl, hc⟩ := ints_cells hv2 t h1
  have q1 := hc u hk.below
  rw [h0] at q1
  have h1' : (t : Int) < drops.length := by omega
  have HD : Hid (Calls Tryd.prog 18 #[.pointer (some aj), .int .i64 i] u fun e w' => ∃ s', e = .returned (errV (dropLE s i)) ∧ Hid (KeepsE X w aj (.slice a0 caps.length c0) (m + 1) s' dv mv dn mk [(nx, pv, g)] w') ∧ Hid (Stepped s s' (dropLE s i) (faultD s.flows i) (lessF s.flows i))) := by
    refine (k_drop hD i hk hm).mono ?_
    rintro e w' ⟨n, n2, n3, he, hk'⟩
    exact ⟨_, he, hk', drop_stepped n2 (by omega)⟩
  clear hk hD h0 h1 hv2 hc
  generalize errV (dropLE s i) = ev at *
  refine Thru.mk fun J K hJ hK => ?_
  obtain ⟨Y, rfl, hY⟩ := ha.lay
  obtain ⟨e0, e1, e2, e3, e4, e5, e6, e7, e8, e9, e10, e11, e12, e13, e14, -⟩ := hY
  rw [range_lk]
  simp only [e0, e1, e2, e3, e4, e5, e6, e7, e8, e9, e10, e11, e12, e13, e14]
  clear ha e0 e1 e2 e3 e4 e5 e6 e7 e8 e9 e10 e11 e12 e13 e14
  conv => arg 2; whnf
  go_wp2_with fail
  refine HD.out.mono ?_
  rintro e w1 ⟨s', rfl, hk, hst⟩
  clear HD
  go_wp2
  refine Met.intro (hJ _ _ ?_)
  exact ⟨s', ⟨rfl, by kernel_rfl, has_cons rfl (has_cons rfl (has_cons rfl (has_cons rfl (has_cons rfl (has_cons rfl (has_cons rfl (has_cons rfl (has_cons rfl (has_cons rfl (has_cons rfl (has_cons rfl (has_cons rfl (has_cons rfl (has_cons rfl (has_cons rfl (has_nil))))))))))))))))⟩, hk.out, hst.out⟩
end
end Ev
end Go.Proofs.YtdldgefahgojaakDoor

/- The law LogKeeps: a flow is added. -/
namespace Go.Proofs.YtdldgefahgojaakDoor
namespace Ev
open Go.RowKit Fr Ns Ld Fl
set_option linter.unusedSimpArgs false
set_option linter.unusedVariables false

section
variable {X : LogFace} {w : World} {caps : List Int} {paths : List (List Int)} {drops syncs fails keeps : List Int} {a0 a1 a2 a3 a4 a5 : Option Addr} {c0 c1 c2 c3 c4 c5 : Nat} {aj : Addr} {dv mv : Value} {t r k m : Nat} {s : LogS} {dn : List Flows} {mk : List Nat} {a : Act} {u : World}
theorem lists_cells {Q : Nat → Prop} {w : World} {a : Option Addr} {n cap : Nat} {l : List (List Int)} (h : ListsAt Q w (.slice a n cap) l) : ∀ i, i < l.length → ∃ b off ai ci, a = some ⟨b, off, none⟩ ∧ (∀ u, Below w.heap.size w u → u.cell? ⟨b, off + i, none⟩ = some (.slice ai (l.getD i []).length ci)) ∧ IntsAt Q w (.slice ai (l.getD i []).length ci) (l.getD i []) := by
  intro i hi
  obtain ⟨a', c', e, _, hc⟩ := id h
  simp only [Value.slice.injEq] at e
  obtain ⟨rfl, -, rfl⟩ := e
  rcases hc with hc | ⟨b, off, rfl, hc, _⟩
  · rw [hc] at hi; simp at hi
  · obtain ⟨x, hx, hxi⟩ := hc i hi
    obtain ⟨ai, ci, rfl, _⟩ := id hxi
    exact ⟨b, off, ai, ci, rfl, fun u hu => cell_later hu hx, hxi⟩
set_option maxRecDepth 100000 in
set_option maxHeartbeats 8000000 in
theorem lk_a40 {nb nx : Nat} {f : Flows} (ha : Slots 397 (lkB a0 a1 a2 a3 a4 a5 caps.length paths.length drops.length syncs.length fails.length keeps.length c0 c1 c2 c3 c4 c5 aj dv mv t r [(29, .int .i64 k), (30, .pointer (some ⟨nb, 0, none⟩)), (31, .pointer (some ⟨nx, 0, none⟩)), (33, .int .i64 s.bytes)]) a) (hk : Next X w aj (.slice a0 caps.length c0) m s dv mv dn mk nb f nx f u) :
    Lk [1, 1, 1, 1, 1, 1, 1, 1, 1, 1, 1, 1, 1, 1, 1, 1, 1, 0, 1, 0, 0, 1, 0, 0, 1, 0, 1, 0, 0, 1, 0, 0, 1, 1, 1, 1, 1, 1, 0, 1, 1, 0, 0, 0] (fun a' u' => ∃ b : Bool, Slots 397 (lkB a0 a1 a2 a3 a4 a5 caps.length paths.length drops.length syncs.length fails.length keeps.length c0 c1 c2 c3 c4 c5 aj dv mv t r [(29, .int .i64 k), (30, .pointer (some ⟨nb, 0, none⟩)), (31, .pointer (some ⟨nx, 0, none⟩)), (33, .int .i64 s.bytes), (225, .bool b)]) a' ∧ u' = u ∧ (b = true ↔ f.length = 6)) a u := by
  obtain ⟨pv, Q, r1, ⟨pv', r2⟩, hl, hQ, hst⟩ := hk.use
  have q3 := r1.cell (i := 1) rfl
  obtain ⟨ap, cp, rfl, _⟩ := hl
  clear hk hQ r1 r2 hst
  refine Thru.mk fun J K hJ hK => ?_
  obtain ⟨Y, rfl, hY⟩ := ha.lay
  obtain ⟨e0, e1, e2, e3, e4, e5, e6, e7, e8, e9, e10, e11, e12, e13, e14, -⟩ := hY
  rw [range_lk]
  simp only [e0, e1, e2, e3, e4, e5, e6, e7, e8, e9, e10, e11, e12, e13, e14]
  clear ha e0 e1 e2 e3 e4 e5 e6 e7 e8 e9 e10 e11 e12 e13 e14
  conv => arg 2; whnf
  go_wp2
  refine Met.intro (hJ _ _ ?_)
  exact ⟨_, ⟨rfl, by kernel_rfl, has_cons rfl (has_cons rfl (has_cons rfl (has_cons rfl (has_cons rfl (has_cons rfl (has_cons rfl (has_cons rfl (has_cons rfl (has_cons rfl (has_cons rfl (has_cons rfl (has_cons rfl (has_cons rfl (has_cons rfl (has_cons rfl (has_nil))))))))))))))))⟩, rfl, by simp; try omega⟩
set_option maxRecDepth 100000 in
set_option maxHeartbeats 8000000 in
theorem lk_a41 {nb nx : Nat} (ha : Slots 397 (lkB a0 a1 a2 a3 a4 a5 caps.length paths.length drops.length syncs.length fails.length keeps.length c0 c1 c2 c3 c4 c5 aj dv mv t r [(29, .int .i64 k), (30, .pointer (some ⟨nb, 0, none⟩)), (31, .pointer (some ⟨nx, 0, none⟩)), (33, .int .i64 s.bytes)]) a) :
    Lk [1, 1, 1, 1, 1, 1, 1, 1, 1, 1, 1, 1, 1, 1, 1, 1, 1, 0, 1, 0, 0, 1, 0, 0, 1, 0, 1, 0, 0, 1, 0, 0, 1, 1, 1, 1, 1, 1, 0, 1, 1, 0, 1, 0] (fun a' u' => Slots 397 (lkB a0 a1 a2 a3 a4 a5 caps.length paths.length drops.length syncs.length fails.length keeps.length c0 c1 c2 c3 c4 c5 aj dv mv t r [(29, .int .i64 k), (30, .pointer (some ⟨nb, 0, none⟩)), (31, .pointer (some ⟨nx, 0, none⟩)), (33, .int .i64 s.bytes), (32, .int .i64 4)]) a' ∧ u' = u) a u := by
  refine Thru.mk fun J K hJ hK => ?_
  obtain ⟨Y, rfl, hY⟩ := ha.lay
  obtain ⟨e0, e1, e2, e3, e4, e5, e6, e7, e8, e9, e10, e11, e12, e13, e14, -⟩ := hY
  rw [range_lk]
  simp only [e0, e1, e2, e3, e4, e5, e6, e7, e8, e9, e10, e11, e12, e13, e14]
  clear ha e0 e1 e2 e3 e4 e5 e6 e7 e8 e9 e10 e11 e12 e13 e14
  conv => arg 2; whnf
  go_wp2
  refine Met.intro (hJ _ _ ?_)
  exact ⟨⟨rfl, by kernel_rfl, has_cons rfl (has_cons rfl (has_cons rfl (has_cons rfl (has_cons rfl (has_cons rfl (has_cons rfl (has_cons rfl (has_cons rfl (has_cons rfl (has_cons rfl (has_cons rfl (has_cons rfl (has_cons rfl (has_cons rfl (has_cons rfl (has_nil))))))))))))))))⟩, rfl⟩
set_option maxRecDepth 100000 in
set_option maxHeartbeats 8000000 in
theorem lk_a42 {nb nx : Nat} {f : Flows} (hv1 : ListsAt (fun b => b < w.heap.size) w (.slice a1 paths.length c1) paths) (h1 : t < paths.length) (ha : Slots 397 (lkB a0 a1 a2 a3 a4 a5 caps.length paths.length drops.length syncs.length fails.length keeps.length c0 c1 c2 c3 c4 c5 aj dv mv t r [(29, .int .i64 k), (30, .pointer (some ⟨nb, 0, none⟩)), (31, .pointer (some ⟨nx, 0, none⟩)), (33, .int .i64 s.bytes)]) a) (hk : Next X w aj (.slice a0 caps.length c0) m s dv mv dn mk nb f nx f u) :
    Lk [1, 1, 1, 1, 1, 1, 1, 1, 1, 1, 1, 1, 1, 1, 1, 1, 1, 0, 1, 0, 0, 1, 0, 0, 1, 0, 1, 0, 0, 1, 0, 0, 1, 1, 1, 1, 1, 1, 0, 1, 1, 0, 1, 1] (fun a' u' => Slots 397 (lkB a0 a1 a2 a3 a4 a5 caps.length paths.length drops.length syncs.length fails.length keeps.length c0 c1 c2 c3 c4 c5 aj dv mv t r [(29, .int .i64 k), (30, .pointer (some ⟨nb, 0, none⟩)), (31, .pointer (some ⟨nx, 0, none⟩)), (33, .int .i64 s.bytes), (32, .int .i64 (pathE caps.length (paths.getD t [])))]) a' ∧ Next X w aj (.slice a0 caps.length c0) m s dv mv dn mk nb f nx f u') a u := by
  obtain ⟨b, off, ai, ci, rfl, hc, hp⟩ := lists_cells hv1 t h1
  have q1 := hc u hk.below
  have h1' : (t : Int) < paths.length := by omega
  have HP : Hid (Calls Tryd.prog 19 #[.int .i64 caps.length, .slice ai (paths.getD t []).length ci] u fun e w' => e = .returned (.int .i64 (pathE caps.length (paths.getD t []))) ∧ Hid (Next X w aj (.slice a0 caps.length c0) m s dv mv dn mk nb f nx f w')) := by
    refine (Path_any caps.length (paths.getD t []) _ u (hp.later hk.below)).mono ?_
    rintro e w' ⟨he, n, rfl⟩
    exact ⟨he, hk.later (below_drewN (Below.refl _ _) _)⟩
  clear hk hv1 hc hp h1
  generalize paths.getD t [] = p at *
  refine Thru.mk fun J K hJ hK => ?_
  obtain ⟨Y, rfl, hY⟩ := ha.lay
  obtain ⟨e0, e1, e2, e3, e4, e5, e6, e7, e8, e9, e10, e11, e12, e13, e14, -⟩ := hY
  rw [range_lk]
  simp only [e0, e1, e2, e3, e4, e5, e6, e7, e8, e9, e10, e11, e12, e13, e14]
  clear ha e0 e1 e2 e3 e4 e5 e6 e7 e8 e9 e10 e11 e12 e13 e14
  conv => arg 2; whnf
  go_wp2_with fail
  refine HP.out.mono ?_
  rintro e w1 ⟨rfl, hk⟩
  clear HP
  go_wp2
  refine Met.intro (hJ _ _ ?_)
  exact ⟨⟨rfl, by kernel_rfl, has_cons rfl (has_cons rfl (has_cons rfl (has_cons rfl (has_cons rfl (has_cons rfl (has_cons rfl (has_cons rfl (has_cons rfl (has_cons rfl (has_cons rfl (has_cons rfl (has_cons rfl (has_cons rfl (has_cons rfl (has_cons rfl (has_nil))))))))))))))))⟩, hk.out⟩
set_option maxRecDepth 100000 in
set_option maxHeartbeats 8000000 in
theorem lk_a43 {nb nx : Nat} {fv : Int} (ha : Slots 397 (lkB a0 a1 a2 a3 a4 a5 caps.length paths.length drops.length syncs.length fails.length keeps.length c0 c1 c2 c3 c4 c5 aj dv mv t r [(29, .int .i64 k), (30, .pointer (some ⟨nb, 0, none⟩)), (31, .pointer (some ⟨nx, 0, none⟩)), (33, .int .i64 s.bytes), (32, .int .i64 fv)]) a) :
    Lk [1, 1, 1, 1, 1, 1, 1, 1, 1, 1, 1, 1, 1, 1, 1, 1, 1, 0, 1, 0, 0, 1, 0, 0, 1, 0, 1, 0, 0, 1, 0, 0, 1, 1, 1, 1, 1, 1, 0, 1, 1, 1, 0, 0, 0] (fun a' u' => ∃ b : Bool, Slots 397 (lkB a0 a1 a2 a3 a4 a5 caps.length paths.length drops.length syncs.length fails.length keeps.length c0 c1 c2 c3 c4 c5 aj dv mv t r [(29, .int .i64 k), (30, .pointer (some ⟨nb, 0, none⟩)), (31, .pointer (some ⟨nx, 0, none⟩)), (33, .int .i64 s.bytes), (32, .int .i64 fv), (234, .bool b)]) a' ∧ u' = u ∧ (b = true ↔ fv = 0)) a u := by
  refine Thru.mk fun J K hJ hK => ?_
  obtain ⟨Y, rfl, hY⟩ := ha.lay
  obtain ⟨e0, e1, e2, e3, e4, e5, e6, e7, e8, e9, e10, e11, e12, e13, e14, e15, -⟩ := hY
  rw [range_lk]
  simp only [e0, e1, e2, e3, e4, e5, e6, e7, e8, e9, e10, e11, e12, e13, e14, e15]
  clear ha e0 e1 e2 e3 e4 e5 e6 e7 e8 e9 e10 e11 e12 e13 e14 e15
  conv => arg 2; whnf
  go_wp2
  refine Met.intro (hJ _ _ ?_)
  exact ⟨_, ⟨rfl, by kernel_rfl, has_cons rfl (has_cons rfl (has_cons rfl (has_cons rfl (has_cons rfl (has_cons rfl (has_cons rfl (has_cons rfl (has_cons rfl (has_cons rfl (has_cons rfl (has_cons rfl (has_cons rfl (has_cons rfl (has_cons rfl (has_cons rfl (has_cons rfl (has_nil)))))))))))))))))⟩, rfl, by simp⟩
set_option maxRecDepth 100000 in
set_option maxHeartbeats 8000000 in
theorem lk_a44 {nb nx : Nat} {fv : Int} {f : Flows} (hv0 : IntsAt (fun b => b < w.heap.size) w (.slice a0 caps.length c0) caps) (hv1 : ListsAt (fun b => b < w.heap.size) w (.slice a1 paths.length c1) paths) (h1 : t < paths.length) (hf : f.length ≤ 1000) (ha : Slots 397 (lkB a0 a1 a2 a3 a4 a5 caps.length paths.length drops.length syncs.length fails.length keeps.length c0 c1 c2 c3 c4 c5 aj dv mv t r [(29, .int .i64 k), (30, .pointer (some ⟨nb, 0, none⟩)), (31, .pointer (some ⟨nx, 0, none⟩)), (33, .int .i64 s.bytes), (32, .int .i64 fv)]) a) (hk : Next X w aj (.slice a0 caps.length c0) m s dv mv dn mk nb f nx f u) :
    Lk [1, 1, 1, 1, 1, 1, 1, 1, 1, 1, 1, 1, 1, 1, 1, 1, 1, 0, 1, 0, 0, 1, 0, 0, 1, 0, 1, 0, 0, 1, 0, 0, 1, 1, 1, 1, 1, 1, 0, 1, 1, 1, 0, 1, 0] (fun a' u' => Slots 397 (lkB a0 a1 a2 a3 a4 a5 caps.length paths.length drops.length syncs.length fails.length keeps.length c0 c1 c2 c3 c4 c5 aj dv mv t r [(29, .int .i64 k), (31, .pointer (some ⟨nx, 0, none⟩)), (33, .int .i64 s.bytes), (32, .int .i64 fv)]) a' ∧ Next X w aj (.slice a0 caps.length c0) m s dv mv dn mk nb f nx (f ++ [paths.getD t []]) u') a u := by
  have hbw := hk.below
  obtain ⟨b, off, ai, ci, rfl, hc, hp⟩ := lists_cells hv1 t h1
  obtain ⟨pv, Q, r1, ⟨pv', r2⟩, hl, hQ, hst⟩ := hk.use
  have q1 := hc u hbw
  have q2 := r1.cell (i := 0) rfl
  have q3 := r1.cell (i := 1) rfl
  have h1' : (t : Int) < paths.length := by omega
  have HR : Hid (∀ u', Below u.heap.size u u' → u'.cell? ⟨nx, 0, none⟩ = some (.slice a0 caps.length c0) ∧ u'.cell? ⟨nx, 1, none⟩ = some pv' ∧ u'.frozen? ⟨nx, 0, none⟩ = false ∧ u'.frozen? ⟨nx, 1, none⟩ = false) := fun u' hb => by
    have r := r2.later hb r2.lt
    exact ⟨r.cell (i := 0) rfl, r.cell (i := 1) rfl, r.frozen 0, r.frozen 1⟩
  have HW : Hid (∀ u', Below u.heap.size u u' → Calls Tryd.prog 20 #[.agg #[(.slice a0 caps.length c0), pv], .slice ai (paths.getD t []).length ci] u' fun e w' => ∃ y, e = .returned (.agg #[(.slice a0 caps.length c0), y]) ∧ Below u.heap.size u w' ∧ (∃ ay ny cy, y = .slice ay ny cy) ∧ Hid (Next X w aj (.slice a0 caps.length c0) m s dv mv dn mk nb f nx (f ++ [paths.getD t []]) ((w'.setCell ⟨nx, 0, none⟩ (.slice a0 caps.length c0)).setCell ⟨nx, 1, none⟩ y))) := fun u' hb => by
    have hbu := Bel.call hbw (Nat.le_refl _) hb
    refine (RWith_allS (Q := Q) caps f (paths.getD t []) _ pv _ u' ((hv0.later hbu).keep (fun _ _ _ => rfl) (fun b h _ => hQ b h)) (hl.later hb) ((hp.later hbu).keep (fun _ _ _ => rfl) (fun b h _ => hQ b h)) hf).mono ?_
    rintro e w' ⟨y, he, i1, i2, hb2⟩
    obtain ⟨ay, cy, hy, _⟩ := id i2
    refine ⟨y, he, Bel.call hb (Nat.le_refl _) hb2, ⟨ay, _, cy, hy⟩, ?_⟩
    have := hst w' y (f ++ [paths.getD t []]) (Bel.call hb (Nat.le_refl _) hb2) (i2.keep (fun _ _ _ => rfl) (fun b h _ => h.imp id (fun h => by have := hb.size; omega)))
    exact this
  obtain ⟨ap, cp, rfl, _⟩ := hl
  have P1 : Hid (Below u.heap.size u u.drew) := (Below.refl _ _).drew
  clear hk hv1 hst hQ hc r1 r2 hbw h1 hf hv0 hp
  generalize paths.getD t [] = p at *
  refine Thru.mk fun J K hJ hK => ?_
  obtain ⟨Y, rfl, hY⟩ := ha.lay
  obtain ⟨e0, e1, e2, e3, e4, e5, e6, e7, e8, e9, e10, e11, e12, e13, e14, e15, -⟩ := hY
  rw [range_lk]
  simp only [e0, e1, e2, e3, e4, e5, e6, e7, e8, e9, e10, e11, e12, e13, e14, e15]
  clear ha e0 e1 e2 e3 e4 e5 e6 e7 e8 e9 e10 e11 e12 e13 e14 e15
  conv => arg 2; whnf
  go_wp2_with fail
  go_region_law (first | (go_simp; refine (HW.out _ ?_).mono ?_; (exact P1.out); rintro e w5 ⟨y, rfl, hb5, ⟨ay, ny, cy, rfl⟩, hN⟩; obtain ⟨z0, z1, z2, z3⟩ := HR.out _ hb5))
  all_goals
    go_wp2_with fail
    refine Met.intro (hJ _ _ ?_)
    exact ⟨⟨rfl, by kernel_rfl, has_cons rfl (has_cons rfl (has_cons rfl (has_cons rfl (has_cons rfl (has_cons rfl (has_cons rfl (has_cons rfl (has_cons rfl (has_cons rfl (has_cons rfl (has_cons rfl (has_cons rfl (has_cons rfl (has_cons rfl (has_nil)))))))))))))))⟩, hN.out⟩
set_option maxRecDepth 100000 in
set_option maxHeartbeats 8000000 in
theorem lk_a45 {nx : Nat} {fv : Int} {pv : Value} {g : Flows} (hA : LAddSaid X) (hv1 : ListsAt (fun b => b < w.heap.size) w (.slice a1 paths.length c1) paths) (h1 : t < paths.length) (hm : m + 1 ≤ 1000) (ha : Slots 397 (lkB a0 a1 a2 a3 a4 a5 caps.length paths.length drops.length syncs.length fails.length keeps.length c0 c1 c2 c3 c4 c5 aj dv mv t r [(29, .int .i64 k), (31, .pointer (some ⟨nx, 0, none⟩)), (33, .int .i64 s.bytes), (32, .int .i64 fv)]) a) (hk : KeepsE X w aj (.slice a0 caps.length c0) m s dv mv dn mk [(nx, pv, g)] u) :
    Lk [1, 1, 1, 1, 1, 1, 1, 1, 1, 1, 1, 1, 1, 1, 1, 1, 1, 0, 1, 0, 0, 1, 0, 0, 1, 0, 1, 0, 0, 1, 0, 0, 1, 1, 1, 1, 1, 1, 0, 1, 1, 1, 1] (fun a' u' => ∃ s', Slots 397 (lkB a0 a1 a2 a3 a4 a5 caps.length paths.length drops.length syncs.length fails.length keeps.length c0 c1 c2 c3 c4 c5 aj dv mv t r [(29, .int .i64 k), (31, .pointer (some ⟨nx, 0, none⟩)), (33, .int .i64 s.bytes), (32, .int .i64 fv), (34, errV (addLE s (paths.getD t [])))]) a' ∧ KeepsE X w aj (.slice a0 caps.length c0) (m + 1) s' dv mv dn mk [(nx, pv, g)] u' ∧ Stepped s s' (addLE s (paths.getD t [])) (faultA s.caps s.flows (paths.getD t [])) (s.flows ++ [paths.getD t []])) a u := by
  obtain ⟨b, off, ai, ci, rfl, hc, hp⟩ := lists_cells hv1 t h1
  have q1 := hc u hk.below
  have h1' : (t : Int) < paths.length := by omega
  have HD : Hid (Calls Tryd.prog 6 #[.pointer (some aj), .slice ai (paths.getD t []).length ci] u fun e w' => ∃ s', e = .returned (errV (addLE s (paths.getD t []))) ∧ Hid (KeepsE X w aj (.slice a0 caps.length c0) (m + 1) s' dv mv dn mk [(nx, pv, g)] w') ∧ Hid (Stepped s s' (addLE s (paths.getD t [])) (faultA s.caps s.flows (paths.getD t [])) (s.flows ++ [paths.getD t []]))) := by
    refine (k_add hA hk hm hp).mono ?_
    rintro e w' ⟨n, n2, n3, he, hk'⟩
    exact ⟨_, he, hk', add_stepped n2⟩
  clear hk hA h1 hv1 hc hp
  generalize paths.getD t [] = p at *
  generalize errV (addLE s p) = ev at *
  refine Thru.mk fun J K hJ hK => ?_
  obtain ⟨Y, rfl, hY⟩ := ha.lay
  obtain ⟨e0, e1, e2, e3, e4, e5, e6, e7, e8, e9, e10, e11, e12, e13, e14, -⟩ := hY
  rw [range_lk]
  simp only [e0, e1, e2, e3, e4, e5, e6, e7, e8, e9, e10, e11, e12, e13, e14]
  clear ha e0 e1 e2 e3 e4 e5 e6 e7 e8 e9 e10 e11 e12 e13 e14
  conv => arg 2; whnf
  go_wp2_with fail
  refine HD.out.mono ?_
  rintro e w1 ⟨s', rfl, hk, hst⟩
  clear HD
  go_wp2
  refine Met.intro (hJ _ _ ?_)
  exact ⟨s', ⟨rfl, by kernel_rfl, has_cons rfl (has_cons rfl (has_cons rfl (has_cons rfl (has_cons rfl (has_cons rfl (has_cons rfl (has_cons rfl (has_cons rfl (has_cons rfl (has_cons rfl (has_cons rfl (has_cons rfl (has_cons rfl (has_cons rfl (has_cons rfl (has_nil))))))))))))))))⟩, hk.out, hst.out⟩
end
end Ev
end Go.Proofs.YtdldgefahgojaakDoor

/- The law LogKeeps: a step. -/
namespace Go.Proofs.YtdldgefahgojaakDoor
namespace Ev
open Go.RowKit Fr Ns Ld Fl
set_option linter.unusedSimpArgs false
set_option linter.unusedVariables false

section
variable {X : LogFace} {w : World} {caps : List Int} {paths : List (List Int)} {drops syncs fails keeps : List Int} {a0 a1 a2 a3 a4 a5 : Option Addr} {c0 c1 c2 c3 c4 c5 : Nat} {aj : Addr} {dv mv : Value} {t r k m : Nat} {s : LogS} {dn : List Flows} {mk : List Nat} {a : Act} {u : World}
theorem lk_dropA {nb nx i : Nat} {f : Flows} (hv0 : IntsAt (fun b => b < w.heap.size) w (.slice a0 caps.length c0) caps) (hv2 : IntsAt (fun b => b < w.heap.size) w (.slice a2 drops.length c2) drops) (h1 : t < drops.length) (h0 : drops.getD t 0 = i) (hf : f.length ≤ 1000) (ha : Slots 397 (lkB a0 a1 a2 a3 a4 a5 caps.length paths.length drops.length syncs.length fails.length keeps.length c0 c1 c2 c3 c4 c5 aj dv mv t r [(29, .int .i64 k), (30, .pointer (some ⟨nb, 0, none⟩)), (31, .pointer (some ⟨nx, 0, none⟩)), (32, .int .i64 0), (33, .int .i64 s.bytes)]) a) (hk : Next X w aj (.slice a0 caps.length c0) m s dv mv dn mk nb f nx f u) :
    Lk [1, 1, 1, 1, 1, 1, 1, 1, 1, 1, 1, 1, 1, 1, 1, 1, 1, 0, 1, 0, 0, 1, 0, 0, 1, 0, 1, 0, 0, 1, 0, 0, 1, 1, 1, 1, 1, 1, 0, 1, 0, 0] (fun a' u' => ∃ g, Slots 397 (lkB a0 a1 a2 a3 a4 a5 caps.length paths.length drops.length syncs.length fails.length keeps.length c0 c1 c2 c3 c4 c5 aj dv mv t r [(29, .int .i64 k), (31, .pointer (some ⟨nx, 0, none⟩)), (33, .int .i64 s.bytes), (32, .int .i64 (faultD f i))]) a' ∧ Next X w aj (.slice a0 caps.length c0) m s dv mv dn mk nb f nx g u' ∧ (faultD f i = 0 → g = lessF f i)) a u := by
  refine Lk.seq (p0 := [1, 1, 1, 1, 1, 1, 1, 1, 1, 1, 1, 1, 1, 1, 1, 1, 1, 0, 1, 0, 0, 1, 0, 0, 1, 0, 1, 0, 0, 1, 0, 0, 1, 1, 1, 1, 1, 1, 0, 1, 0, 0, 0]) (p1 := [1, 1, 1, 1, 1, 1, 1, 1, 1, 1, 1, 1, 1, 1, 1, 1, 1, 0, 1, 0, 0, 1, 0, 0, 1, 0, 1, 0, 0, 1, 0, 0, 1, 1, 1, 1, 1, 1, 0, 1, 0, 0, 1]) (by kernel_rfl) (lk_d36 hv2 h1 h0 ha hk) ?_
  rintro a1 u1 ⟨b, hs1, hk1, hb⟩
  refine Lk.cond (k := 209) (p0 := [1, 1, 1, 1, 1, 1, 1, 1, 1, 1, 1, 1, 1, 1, 1, 1, 1, 0, 1, 0, 0, 1, 0, 0, 1, 0, 1, 0, 0, 1, 0, 0, 1, 1, 1, 1, 1, 1, 0, 1, 0, 0, 1, 0]) (p1 := [1, 1, 1, 1, 1, 1, 1, 1, 1, 1, 1, 1, 1, 1, 1, 1, 1, 0, 1, 0, 0, 1, 0, 0, 1, 0, 1, 0, 0, 1, 0, 0, 1, 1, 1, 1, 1, 1, 0, 1, 0, 0, 1, 1]) (by kernel_rfl) (hs1.2.2.2.2.2.2.2.2.2.2.2.2.2.2.2.2.2.2.1) (fun hbt => ?_) (fun hbf => ?_)
  · have hle := hb.1 hbt
    have hF : faultD f i = 1 := by rw [faultD, if_pos (by omega)]
    rw [hF]
    refine (lk_d37 (u := u1) ⟨hs1.1, hs1.2.1, has_cons hs1.2.2.1 (has_cons hs1.2.2.2.1 (has_cons hs1.2.2.2.2.1 (has_cons hs1.2.2.2.2.2.1 (has_cons hs1.2.2.2.2.2.2.1 (has_cons hs1.2.2.2.2.2.2.2.1 (has_cons hs1.2.2.2.2.2.2.2.2.1 (has_cons hs1.2.2.2.2.2.2.2.2.2.1 (has_cons hs1.2.2.2.2.2.2.2.2.2.2.1 (has_cons hs1.2.2.2.2.2.2.2.2.2.2.2.1 (has_cons hs1.2.2.2.2.2.2.2.2.2.2.2.2.1 (has_cons hs1.2.2.2.2.2.2.2.2.2.2.2.2.2.1 (has_cons hs1.2.2.2.2.2.2.2.2.2.2.2.2.2.2.2.1 (has_cons hs1.2.2.2.2.2.2.2.2.2.2.2.2.2.2.2.2.2.1 (has_nil))))))))))))))⟩).mono ?_
    rintro a2 u2 ⟨hs2, rfl⟩
    exact ⟨f, hs2, hk1, fun h => by omega⟩
  · have hlt : i < f.length := by
      by_cases h : f.length ≤ i
      · rw [hb.2 h] at hbf; cases hbf
      · omega
    have hF : faultD f i = 0 := by rw [faultD, if_neg (by omega)]
    rw [hF]
    refine (lk_d38 hv0 hv2 h1 h0 hlt hf ⟨hs1.1, hs1.2.1, has_cons hs1.2.2.1 (has_cons hs1.2.2.2.1 (has_cons hs1.2.2.2.2.1 (has_cons hs1.2.2.2.2.2.1 (has_cons hs1.2.2.2.2.2.2.1 (has_cons hs1.2.2.2.2.2.2.2.1 (has_cons hs1.2.2.2.2.2.2.2.2.1 (has_cons hs1.2.2.2.2.2.2.2.2.2.1 (has_cons hs1.2.2.2.2.2.2.2.2.2.2.1 (has_cons hs1.2.2.2.2.2.2.2.2.2.2.2.1 (has_cons hs1.2.2.2.2.2.2.2.2.2.2.2.2.1 (has_cons hs1.2.2.2.2.2.2.2.2.2.2.2.2.2.1 (has_cons hs1.2.2.2.2.2.2.2.2.2.2.2.2.2.2.1 (has_cons hs1.2.2.2.2.2.2.2.2.2.2.2.2.2.2.2.1 (has_cons hs1.2.2.2.2.2.2.2.2.2.2.2.2.2.2.2.2.1 (has_cons hs1.2.2.2.2.2.2.2.2.2.2.2.2.2.2.2.2.2.1 (has_nil))))))))))))))))⟩ hk1).mono ?_
    rintro a2 u2 ⟨hs2, hk2⟩
    exact ⟨_, hs2, hk2, fun _ => rfl⟩
theorem lk_drop {nb nx : Nat} {f : Flows} (hD : LDropSaid X) (hv0 : IntsAt (fun b => b < w.heap.size) w (.slice a0 caps.length c0) caps) (hv2 : IntsAt (fun b => b < w.heap.size) w (.slice a2 drops.length c2) drops) (h1 : t < drops.length) (h0 : 0 ≤ drops.getD t 0) (hm : m + 1 ≤ 1000) (hf : f.length ≤ 1000) (hfl : f = s.flows) (ha : Slots 397 (lkB a0 a1 a2 a3 a4 a5 caps.length paths.length drops.length syncs.length fails.length keeps.length c0 c1 c2 c3 c4 c5 aj dv mv t r [(29, .int .i64 k), (30, .pointer (some ⟨nb, 0, none⟩)), (31, .pointer (some ⟨nx, 0, none⟩)), (32, .int .i64 0), (33, .int .i64 s.bytes)]) a) (hk : Next X w aj (.slice a0 caps.length c0) m s dv mv dn mk nb f nx f u) :
    Lk [1, 1, 1, 1, 1, 1, 1, 1, 1, 1, 1, 1, 1, 1, 1, 1, 1, 0, 1, 0, 0, 1, 0, 0, 1, 0, 1, 0, 0, 1, 0, 0, 1, 1, 1, 1, 1, 1, 0, 1, 0] (fun a' u' => ∃ (s' : LogS) (kk fv : Int) (gg g : Flows) (pv : Value), Slots 397 (lkB a0 a1 a2 a3 a4 a5 caps.length paths.length drops.length syncs.length fails.length keeps.length c0 c1 c2 c3 c4 c5 aj dv mv t r [(29, .int .i64 k), (31, .pointer (some ⟨nx, 0, none⟩)), (33, .int .i64 s.bytes), (32, .int .i64 fv), (34, errV kk)]) a' ∧ KeepsE X w aj (.slice a0 caps.length c0) (m + 1) s' dv mv dn mk [(nx, pv, g)] u' ∧ Stepped s s' kk fv gg ∧ (fv = 0 → g = gg)) a u := by
  obtain ⟨i, hi⟩ : ∃ i : Nat, drops.getD t 0 = i := ⟨(drops.getD t 0).toNat, by omega⟩
  refine Lk.seq (p0 := [1, 1, 1, 1, 1, 1, 1, 1, 1, 1, 1, 1, 1, 1, 1, 1, 1, 0, 1, 0, 0, 1, 0, 0, 1, 0, 1, 0, 0, 1, 0, 0, 1, 1, 1, 1, 1, 1, 0, 1, 0, 0]) (p1 := [1, 1, 1, 1, 1, 1, 1, 1, 1, 1, 1, 1, 1, 1, 1, 1, 1, 0, 1, 0, 0, 1, 0, 0, 1, 0, 1, 0, 0, 1, 0, 0, 1, 1, 1, 1, 1, 1, 0, 1, 0, 1]) (by kernel_rfl) (lk_dropA hv0 hv2 h1 hi hf ha hk) ?_
  rintro a1 u1 ⟨g, hs1, hk1, hg1⟩
  obtain ⟨pv, hk2⟩ := hk1.keeps
  refine (lk_d39 hD hv2 h1 hi hm hs1 hk2).mono ?_
  rintro a2 u2 ⟨s', hs2, hk3, hst⟩
  rw [hfl] at hs2 hg1
  exact ⟨s', _, _, _, g, pv, hs2, hk3, hst, hg1⟩
theorem lk_addA {nb nx : Nat} {f : Flows} (hv1 : ListsAt (fun b => b < w.heap.size) w (.slice a1 paths.length c1) paths) (h1 : t < paths.length) (ha : Slots 397 (lkB a0 a1 a2 a3 a4 a5 caps.length paths.length drops.length syncs.length fails.length keeps.length c0 c1 c2 c3 c4 c5 aj dv mv t r [(29, .int .i64 k), (30, .pointer (some ⟨nb, 0, none⟩)), (31, .pointer (some ⟨nx, 0, none⟩)), (33, .int .i64 s.bytes)]) a) (hk : Next X w aj (.slice a0 caps.length c0) m s dv mv dn mk nb f nx f u) :
    Lk [1, 1, 1, 1, 1, 1, 1, 1, 1, 1, 1, 1, 1, 1, 1, 1, 1, 0, 1, 0, 0, 1, 0, 0, 1, 0, 1, 0, 0, 1, 0, 0, 1, 1, 1, 1, 1, 1, 0, 1, 1, 0] (fun a' u' => Slots 397 (lkB a0 a1 a2 a3 a4 a5 caps.length paths.length drops.length syncs.length fails.length keeps.length c0 c1 c2 c3 c4 c5 aj dv mv t r [(29, .int .i64 k), (30, .pointer (some ⟨nb, 0, none⟩)), (31, .pointer (some ⟨nx, 0, none⟩)), (33, .int .i64 s.bytes), (32, .int .i64 (faultA caps f (paths.getD t [])))]) a' ∧ Next X w aj (.slice a0 caps.length c0) m s dv mv dn mk nb f nx f u') a u := by
  refine Lk.seq (p0 := [1, 1, 1, 1, 1, 1, 1, 1, 1, 1, 1, 1, 1, 1, 1, 1, 1, 0, 1, 0, 0, 1, 0, 0, 1, 0, 1, 0, 0, 1, 0, 0, 1, 1, 1, 1, 1, 1, 0, 1, 1, 0, 0]) (p1 := [1, 1, 1, 1, 1, 1, 1, 1, 1, 1, 1, 1, 1, 1, 1, 1, 1, 0, 1, 0, 0, 1, 0, 0, 1, 0, 1, 0, 0, 1, 0, 0, 1, 1, 1, 1, 1, 1, 0, 1, 1, 0, 1]) (by kernel_rfl) (lk_a40 ha hk) ?_
  rintro a1 u1 ⟨b, hs1, rfl, hb⟩
  refine Lk.cond (k := 225) (p0 := [1, 1, 1, 1, 1, 1, 1, 1, 1, 1, 1, 1, 1, 1, 1, 1, 1, 0, 1, 0, 0, 1, 0, 0, 1, 0, 1, 0, 0, 1, 0, 0, 1, 1, 1, 1, 1, 1, 0, 1, 1, 0, 1, 0]) (p1 := [1, 1, 1, 1, 1, 1, 1, 1, 1, 1, 1, 1, 1, 1, 1, 1, 1, 0, 1, 0, 0, 1, 0, 0, 1, 0, 1, 0, 0, 1, 0, 0, 1, 1, 1, 1, 1, 1, 0, 1, 1, 0, 1, 1]) (by kernel_rfl) (hs1.2.2.2.2.2.2.2.2.2.2.2.2.2.2.2.2.2.1) (fun hbt => ?_) (fun hbf => ?_)
  · have hF : faultA caps f (paths.getD t []) = 4 := by rw [faultA, if_pos (hb.1 hbt)]
    rw [hF]
    refine (lk_a41 (u := u1) ⟨hs1.1, hs1.2.1, has_cons hs1.2.2.1 (has_cons hs1.2.2.2.1 (has_cons hs1.2.2.2.2.1 (has_cons hs1.2.2.2.2.2.1 (has_cons hs1.2.2.2.2.2.2.1 (has_cons hs1.2.2.2.2.2.2.2.1 (has_cons hs1.2.2.2.2.2.2.2.2.1 (has_cons hs1.2.2.2.2.2.2.2.2.2.1 (has_cons hs1.2.2.2.2.2.2.2.2.2.2.1 (has_cons hs1.2.2.2.2.2.2.2.2.2.2.2.1 (has_cons hs1.2.2.2.2.2.2.2.2.2.2.2.2.1 (has_cons hs1.2.2.2.2.2.2.2.2.2.2.2.2.2.1 (has_cons hs1.2.2.2.2.2.2.2.2.2.2.2.2.2.2.1 (has_cons hs1.2.2.2.2.2.2.2.2.2.2.2.2.2.2.2.1 (has_cons hs1.2.2.2.2.2.2.2.2.2.2.2.2.2.2.2.2.1 (has_nil)))))))))))))))⟩).mono ?_
    rintro a2 u2 ⟨hs2, rfl⟩
    exact ⟨hs2, hk⟩
  · have hF : faultA caps f (paths.getD t []) = pathE caps.length (paths.getD t []) := by
      rw [faultA, if_neg (fun h => by rw [hb.2 h] at hbf; cases hbf)]
    rw [hF]
    exact lk_a42 hv1 h1 ⟨hs1.1, hs1.2.1, has_cons hs1.2.2.1 (has_cons hs1.2.2.2.1 (has_cons hs1.2.2.2.2.1 (has_cons hs1.2.2.2.2.2.1 (has_cons hs1.2.2.2.2.2.2.1 (has_cons hs1.2.2.2.2.2.2.2.1 (has_cons hs1.2.2.2.2.2.2.2.2.1 (has_cons hs1.2.2.2.2.2.2.2.2.2.1 (has_cons hs1.2.2.2.2.2.2.2.2.2.2.1 (has_cons hs1.2.2.2.2.2.2.2.2.2.2.2.1 (has_cons hs1.2.2.2.2.2.2.2.2.2.2.2.2.1 (has_cons hs1.2.2.2.2.2.2.2.2.2.2.2.2.2.1 (has_cons hs1.2.2.2.2.2.2.2.2.2.2.2.2.2.2.1 (has_cons hs1.2.2.2.2.2.2.2.2.2.2.2.2.2.2.2.1 (has_cons hs1.2.2.2.2.2.2.2.2.2.2.2.2.2.2.2.2.1 (has_nil)))))))))))))))⟩ hk
theorem lk_addB {nb nx : Nat} {fv : Int} {f : Flows} (hv0 : IntsAt (fun b => b < w.heap.size) w (.slice a0 caps.length c0) caps) (hv1 : ListsAt (fun b => b < w.heap.size) w (.slice a1 paths.length c1) paths) (h1 : t < paths.length) (hf : f.length ≤ 1000) (ha : Slots 397 (lkB a0 a1 a2 a3 a4 a5 caps.length paths.length drops.length syncs.length fails.length keeps.length c0 c1 c2 c3 c4 c5 aj dv mv t r [(29, .int .i64 k), (30, .pointer (some ⟨nb, 0, none⟩)), (31, .pointer (some ⟨nx, 0, none⟩)), (33, .int .i64 s.bytes), (32, .int .i64 fv)]) a) (hk : Next X w aj (.slice a0 caps.length c0) m s dv mv dn mk nb f nx f u) :
    Lk [1, 1, 1, 1, 1, 1, 1, 1, 1, 1, 1, 1, 1, 1, 1, 1, 1, 0, 1, 0, 0, 1, 0, 0, 1, 0, 1, 0, 0, 1, 0, 0, 1, 1, 1, 1, 1, 1, 0, 1, 1, 1, 0] (fun a' u' => ∃ g, Slots 397 (lkB a0 a1 a2 a3 a4 a5 caps.length paths.length drops.length syncs.length fails.length keeps.length c0 c1 c2 c3 c4 c5 aj dv mv t r [(29, .int .i64 k), (31, .pointer (some ⟨nx, 0, none⟩)), (33, .int .i64 s.bytes), (32, .int .i64 fv)]) a' ∧ Next X w aj (.slice a0 caps.length c0) m s dv mv dn mk nb f nx g u' ∧ (fv = 0 → g = f ++ [paths.getD t []])) a u := by
  refine Lk.seq (p0 := [1, 1, 1, 1, 1, 1, 1, 1, 1, 1, 1, 1, 1, 1, 1, 1, 1, 0, 1, 0, 0, 1, 0, 0, 1, 0, 1, 0, 0, 1, 0, 0, 1, 1, 1, 1, 1, 1, 0, 1, 1, 1, 0, 0]) (p1 := [1, 1, 1, 1, 1, 1, 1, 1, 1, 1, 1, 1, 1, 1, 1, 1, 1, 0, 1, 0, 0, 1, 0, 0, 1, 0, 1, 0, 0, 1, 0, 0, 1, 1, 1, 1, 1, 1, 0, 1, 1, 1, 0, 1]) (by kernel_rfl) (lk_a43 ha) ?_
  rintro a1 u1 ⟨b, hs1, rfl, hb⟩
  refine Lk.cond (k := 234) (p0 := [1, 1, 1, 1, 1, 1, 1, 1, 1, 1, 1, 1, 1, 1, 1, 1, 1, 0, 1, 0, 0, 1, 0, 0, 1, 0, 1, 0, 0, 1, 0, 0, 1, 1, 1, 1, 1, 1, 0, 1, 1, 1, 0, 1, 0]) (p1 := [1, 1, 1, 1, 1, 1, 1, 1, 1, 1, 1, 1, 1, 1, 1, 1, 1, 0, 1, 0, 0, 1, 0, 0, 1, 0, 1, 0, 0, 1, 0, 0, 1, 1, 1, 1, 1, 1, 0, 1, 1, 1, 0, 1, 1]) (by kernel_rfl) (hs1.2.2.2.2.2.2.2.2.2.2.2.2.2.2.2.2.2.2.1) (fun hbt => ?_) (fun hbf => ?_)
  · refine (lk_a44 hv0 hv1 h1 hf ⟨hs1.1, hs1.2.1, has_cons hs1.2.2.1 (has_cons hs1.2.2.2.1 (has_cons hs1.2.2.2.2.1 (has_cons hs1.2.2.2.2.2.1 (has_cons hs1.2.2.2.2.2.2.1 (has_cons hs1.2.2.2.2.2.2.2.1 (has_cons hs1.2.2.2.2.2.2.2.2.1 (has_cons hs1.2.2.2.2.2.2.2.2.2.1 (has_cons hs1.2.2.2.2.2.2.2.2.2.2.1 (has_cons hs1.2.2.2.2.2.2.2.2.2.2.2.1 (has_cons hs1.2.2.2.2.2.2.2.2.2.2.2.2.1 (has_cons hs1.2.2.2.2.2.2.2.2.2.2.2.2.2.1 (has_cons hs1.2.2.2.2.2.2.2.2.2.2.2.2.2.2.1 (has_cons hs1.2.2.2.2.2.2.2.2.2.2.2.2.2.2.2.1 (has_cons hs1.2.2.2.2.2.2.2.2.2.2.2.2.2.2.2.2.1 (has_cons hs1.2.2.2.2.2.2.2.2.2.2.2.2.2.2.2.2.2.1 (has_nil))))))))))))))))⟩ hk).mono ?_
    rintro a2 u2 ⟨hs2, hk2⟩
    exact ⟨_, hs2, hk2, fun _ => rfl⟩
  · exact Lk.skip (by kernel_rfl) ⟨f, ⟨hs1.1, hs1.2.1, has_cons hs1.2.2.1 (has_cons hs1.2.2.2.1 (has_cons hs1.2.2.2.2.1 (has_cons hs1.2.2.2.2.2.1 (has_cons hs1.2.2.2.2.2.2.1 (has_cons hs1.2.2.2.2.2.2.2.1 (has_cons hs1.2.2.2.2.2.2.2.2.1 (has_cons hs1.2.2.2.2.2.2.2.2.2.1 (has_cons hs1.2.2.2.2.2.2.2.2.2.2.1 (has_cons hs1.2.2.2.2.2.2.2.2.2.2.2.1 (has_cons hs1.2.2.2.2.2.2.2.2.2.2.2.2.1 (has_cons hs1.2.2.2.2.2.2.2.2.2.2.2.2.2.1 (has_cons hs1.2.2.2.2.2.2.2.2.2.2.2.2.2.2.2.1 (has_cons hs1.2.2.2.2.2.2.2.2.2.2.2.2.2.2.2.2.1 (has_cons hs1.2.2.2.2.2.2.2.2.2.2.2.2.2.2.2.2.2.1 (has_nil)))))))))))))))⟩, hk, fun h => by rw [hb.2 h] at hbf; cases hbf⟩
theorem lk_add {nb nx : Nat} {f : Flows} (hA : LAddSaid X) (hv0 : IntsAt (fun b => b < w.heap.size) w (.slice a0 caps.length c0) caps) (hv1 : ListsAt (fun b => b < w.heap.size) w (.slice a1 paths.length c1) paths) (h1 : t < paths.length) (hm : m + 1 ≤ 1000) (hf : f.length ≤ 1000) (hfl : f = s.flows) (hc : s.caps = caps) (ha : Slots 397 (lkB a0 a1 a2 a3 a4 a5 caps.length paths.length drops.length syncs.length fails.length keeps.length c0 c1 c2 c3 c4 c5 aj dv mv t r [(29, .int .i64 k), (30, .pointer (some ⟨nb, 0, none⟩)), (31, .pointer (some ⟨nx, 0, none⟩)), (33, .int .i64 s.bytes)]) a) (hk : Next X w aj (.slice a0 caps.length c0) m s dv mv dn mk nb f nx f u) :
    Lk [1, 1, 1, 1, 1, 1, 1, 1, 1, 1, 1, 1, 1, 1, 1, 1, 1, 0, 1, 0, 0, 1, 0, 0, 1, 0, 1, 0, 0, 1, 0, 0, 1, 1, 1, 1, 1, 1, 0, 1, 1] (fun a' u' => ∃ (s' : LogS) (kk fv : Int) (gg g : Flows) (pv : Value), Slots 397 (lkB a0 a1 a2 a3 a4 a5 caps.length paths.length drops.length syncs.length fails.length keeps.length c0 c1 c2 c3 c4 c5 aj dv mv t r [(29, .int .i64 k), (31, .pointer (some ⟨nx, 0, none⟩)), (33, .int .i64 s.bytes), (32, .int .i64 fv), (34, errV kk)]) a' ∧ KeepsE X w aj (.slice a0 caps.length c0) (m + 1) s' dv mv dn mk [(nx, pv, g)] u' ∧ Stepped s s' kk fv gg ∧ (fv = 0 → g = gg)) a u := by
  refine Lk.seq (p0 := [1, 1, 1, 1, 1, 1, 1, 1, 1, 1, 1, 1, 1, 1, 1, 1, 1, 0, 1, 0, 0, 1, 0, 0, 1, 0, 1, 0, 0, 1, 0, 0, 1, 1, 1, 1, 1, 1, 0, 1, 1, 0]) (p1 := [1, 1, 1, 1, 1, 1, 1, 1, 1, 1, 1, 1, 1, 1, 1, 1, 1, 0, 1, 0, 0, 1, 0, 0, 1, 0, 1, 0, 0, 1, 0, 0, 1, 1, 1, 1, 1, 1, 0, 1, 1, 1]) (by kernel_rfl) (lk_addA hv1 h1 ha hk) ?_
  rintro a1 u1 ⟨hs1, hk1⟩
  refine Lk.seq (p0 := [1, 1, 1, 1, 1, 1, 1, 1, 1, 1, 1, 1, 1, 1, 1, 1, 1, 0, 1, 0, 0, 1, 0, 0, 1, 0, 1, 0, 0, 1, 0, 0, 1, 1, 1, 1, 1, 1, 0, 1, 1, 1, 0]) (p1 := [1, 1, 1, 1, 1, 1, 1, 1, 1, 1, 1, 1, 1, 1, 1, 1, 1, 0, 1, 0, 0, 1, 0, 0, 1, 0, 1, 0, 0, 1, 0, 0, 1, 1, 1, 1, 1, 1, 0, 1, 1, 1, 1]) (by kernel_rfl) (lk_addB hv0 hv1 h1 hf hs1 hk1) ?_
  rintro a2 u2 ⟨g, hs2, hk2, hg2⟩
  obtain ⟨pv, hk3⟩ := hk2.keeps
  refine (lk_a45 hA hv1 h1 hm hs2 hk3).mono ?_
  rintro a3 u3 ⟨s', hs3, hk4, hst⟩
  rw [hfl] at hs3 hg2
  rw [hc] at hst
  exact ⟨s', _, _, _, g, pv, hs3, hk4, hst, hg2⟩
theorem lk_step {nb nx : Nat} {f : Flows} (hA : LAddSaid X) (hD : LDropSaid X) (hv0 : IntsAt (fun b => b < w.heap.size) w (.slice a0 caps.length c0) caps) (hv1 : ListsAt (fun b => b < w.heap.size) w (.slice a1 paths.length c1) paths) (hv2 : IntsAt (fun b => b < w.heap.size) w (.slice a2 drops.length c2) drops) (h1 : t < paths.length) (hm : m + 1 ≤ 1000) (hf : f.length ≤ 1000) (hfl : f = s.flows) (hc : s.caps = caps) (ha : Slots 397 (lkB a0 a1 a2 a3 a4 a5 caps.length paths.length drops.length syncs.length fails.length keeps.length c0 c1 c2 c3 c4 c5 aj dv mv t r [(29, .int .i64 k), (30, .pointer (some ⟨nb, 0, none⟩)), (31, .pointer (some ⟨nx, 0, none⟩)), (32, .int .i64 0), (33, .int .i64 s.bytes)]) a) (hk : Next X w aj (.slice a0 caps.length c0) m s dv mv dn mk nb f nx f u) :
    Lk [1, 1, 1, 1, 1, 1, 1, 1, 1, 1, 1, 1, 1, 1, 1, 1, 1, 0, 1, 0, 0, 1, 0, 0, 1, 0, 1, 0, 0, 1, 0, 0, 1, 1, 1, 1, 1, 1, 0] (fun a' u' => ∃ (s' : LogS) (kk fv : Int) (gg g : Flows) (pv : Value), Slots 397 (lkB a0 a1 a2 a3 a4 a5 caps.length paths.length drops.length syncs.length fails.length keeps.length c0 c1 c2 c3 c4 c5 aj dv mv t r [(29, .int .i64 k), (31, .pointer (some ⟨nx, 0, none⟩)), (33, .int .i64 s.bytes), (32, .int .i64 fv), (34, errV kk)]) a' ∧ KeepsE X w aj (.slice a0 caps.length c0) (m + 1) s' dv mv dn mk [(nx, pv, g)] u' ∧ Stepped s s' kk fv gg ∧ (fv = 0 → g = gg)) a u := by
  refine Lk.seq (p0 := [1, 1, 1, 1, 1, 1, 1, 1, 1, 1, 1, 1, 1, 1, 1, 1, 1, 0, 1, 0, 0, 1, 0, 0, 1, 0, 1, 0, 0, 1, 0, 0, 1, 1, 1, 1, 1, 1, 0, 0]) (p1 := [1, 1, 1, 1, 1, 1, 1, 1, 1, 1, 1, 1, 1, 1, 1, 1, 1, 0, 1, 0, 0, 1, 0, 0, 1, 0, 1, 0, 0, 1, 0, 0, 1, 1, 1, 1, 1, 1, 0, 1]) (by kernel_rfl) (lk_if (f := []) (g := []) hv2 hk.below ha) ?_
  rintro a1 u1 ⟨b, hs1, rfl, hb⟩
  refine Lk.cond (k := 201) (p0 := [1, 1, 1, 1, 1, 1, 1, 1, 1, 1, 1, 1, 1, 1, 1, 1, 1, 0, 1, 0, 0, 1, 0, 0, 1, 0, 1, 0, 0, 1, 0, 0, 1, 1, 1, 1, 1, 1, 0, 1, 0]) (p1 := [1, 1, 1, 1, 1, 1, 1, 1, 1, 1, 1, 1, 1, 1, 1, 1, 1, 0, 1, 0, 0, 1, 0, 0, 1, 0, 1, 0, 0, 1, 0, 0, 1, 1, 1, 1, 1, 1, 0, 1, 1]) (by kernel_rfl) (hs1.2.2.2.2.2.2.2.2.2.2.2.2.2.2.2.2.2.2.1) (fun hbt => ?_) (fun hbf => ?_)
  · obtain ⟨q1, q2⟩ := hb hbt
    exact lk_drop hD hv0 hv2 q1 q2 hm hf hfl ⟨hs1.1, hs1.2.1, has_cons hs1.2.2.1 (has_cons hs1.2.2.2.1 (has_cons hs1.2.2.2.2.1 (has_cons hs1.2.2.2.2.2.1 (has_cons hs1.2.2.2.2.2.2.1 (has_cons hs1.2.2.2.2.2.2.2.1 (has_cons hs1.2.2.2.2.2.2.2.2.1 (has_cons hs1.2.2.2.2.2.2.2.2.2.1 (has_cons hs1.2.2.2.2.2.2.2.2.2.2.1 (has_cons hs1.2.2.2.2.2.2.2.2.2.2.2.1 (has_cons hs1.2.2.2.2.2.2.2.2.2.2.2.2.1 (has_cons hs1.2.2.2.2.2.2.2.2.2.2.2.2.2.1 (has_cons hs1.2.2.2.2.2.2.2.2.2.2.2.2.2.2.1 (has_cons hs1.2.2.2.2.2.2.2.2.2.2.2.2.2.2.2.1 (has_cons hs1.2.2.2.2.2.2.2.2.2.2.2.2.2.2.2.2.1 (has_cons hs1.2.2.2.2.2.2.2.2.2.2.2.2.2.2.2.2.2.1 (has_nil))))))))))))))))⟩ hk
  · exact lk_add hA hv0 hv1 h1 hm hf hfl hc ⟨hs1.1, hs1.2.1, has_cons hs1.2.2.1 (has_cons hs1.2.2.2.1 (has_cons hs1.2.2.2.2.1 (has_cons hs1.2.2.2.2.2.1 (has_cons hs1.2.2.2.2.2.2.1 (has_cons hs1.2.2.2.2.2.2.2.1 (has_cons hs1.2.2.2.2.2.2.2.2.1 (has_cons hs1.2.2.2.2.2.2.2.2.2.1 (has_cons hs1.2.2.2.2.2.2.2.2.2.2.1 (has_cons hs1.2.2.2.2.2.2.2.2.2.2.2.1 (has_cons hs1.2.2.2.2.2.2.2.2.2.2.2.2.1 (has_cons hs1.2.2.2.2.2.2.2.2.2.2.2.2.2.1 (has_cons hs1.2.2.2.2.2.2.2.2.2.2.2.2.2.2.1 (has_cons hs1.2.2.2.2.2.2.2.2.2.2.2.2.2.2.2.1 (has_cons hs1.2.2.2.2.2.2.2.2.2.2.2.2.2.2.2.2.2.1 (has_nil)))))))))))))))⟩ hk
end
end Ev
end Go.Proofs.YtdldgefahgojaakDoor

/- The law LogKeeps: what the step tells. -/
namespace Go.Proofs.YtdldgefahgojaakDoor
namespace Ev
open Go.RowKit Fr Ns Ld Fl
set_option linter.unusedSimpArgs false
set_option linter.unusedVariables false

section
variable {X : LogFace} {w : World} {caps : List Int} {paths : List (List Int)} {drops syncs fails keeps : List Int} {a0 a1 a2 a3 a4 a5 : Option Addr} {c0 c1 c2 c3 c4 c5 : Nat} {aj : Addr} {dv mv : Value} {t r k m : Nat} {s : LogS} {dn : List Flows} {mk : List Nat} {a : Act} {u : World}
set_option maxRecDepth 100000 in
set_option maxHeartbeats 8000000 in
theorem lk_at {nx : Nat} {fv : Int} {ev : Value} {bv : Value} (h1 : t < 9223372036854775807) (ha : Slots 397 (lkB a0 a1 a2 a3 a4 a5 caps.length paths.length drops.length syncs.length fails.length keeps.length c0 c1 c2 c3 c4 c5 aj dv mv t r [(29, .int .i64 k), (31, .pointer (some ⟨nx, 0, none⟩)), (33, bv), (32, .int .i64 fv), (34, ev)]) a) :
    Lk [1, 1, 1, 1, 1, 1, 1, 1, 1, 1, 1, 1, 1, 1, 1, 1, 1, 0, 1, 0, 0, 1, 0, 0, 1, 0, 1, 0, 0, 1, 0, 0, 1, 1, 1, 1, 1, 1, 1, 0] (fun a' u' => Slots 397 (lkB a0 a1 a2 a3 a4 a5 caps.length paths.length drops.length syncs.length fails.length keeps.length c0 c1 c2 c3 c4 c5 aj dv mv (t + 1) r [(29, .int .i64 k), (31, .pointer (some ⟨nx, 0, none⟩)), (33, bv), (32, .int .i64 fv), (34, ev)]) a' ∧ u' = u) a u := by
  have hw : IntKind.i64.wrap ((t : Int) + 1) = (t : Int) + 1 := by rw [IntKind.wrap_i64]; omega
  clear h1
  refine Thru.mk fun J K hJ hK => ?_
  obtain ⟨Y, rfl, hY⟩ := ha.lay
  obtain ⟨e0, e1, e2, e3, e4, e5, e6, e7, e8, e9, e10, e11, e12, e13, e14, e15, -⟩ := hY
  rw [range_lk]
  simp only [e0, e1, e2, e3, e4, e5, e6, e7, e8, e9, e10, e11, e12, e13, e14, e15]
  clear ha e0 e1 e2 e3 e4 e5 e6 e7 e8 e9 e10 e11 e12 e13 e14 e15
  conv => arg 2; whnf
  go_wp2
  refine Met.intro (hJ _ _ ?_)
  exact ⟨⟨rfl, by kernel_rfl, has_cons rfl (has_cons rfl (has_cons rfl (has_cons rfl (has_cons rfl (has_cons rfl (has_cons rfl (has_cons rfl (has_cons rfl (has_cons rfl (has_cons rfl (has_cons rfl (has_cons rfl (has_cons rfl (has_cons rfl (has_cons rfl (has_nil))))))))))))))))⟩, rfl⟩
set_option maxRecDepth 100000 in
set_option maxHeartbeats 8000000 in
theorem lk_stop {nx : Nat} {fv kk : Int} {bv pv : Value} {g : Flows} (hg : w.cell? ⟨0, 0, none⟩ = some handleV) (ha : Slots 397 (lkB a0 a1 a2 a3 a4 a5 caps.length paths.length drops.length syncs.length fails.length keeps.length c0 c1 c2 c3 c4 c5 aj dv mv t r [(29, .int .i64 k), (31, .pointer (some ⟨nx, 0, none⟩)), (33, bv), (32, .int .i64 fv), (34, errV kk)]) a) (hk : KeepsE X w aj (.slice a0 caps.length c0) m s dv mv dn mk [(nx, pv, g)] u) :
    Lk [1, 1, 1, 1, 1, 1, 1, 1, 1, 1, 1, 1, 1, 1, 1, 1, 1, 0, 1, 0, 0, 1, 0, 0, 1, 0, 1, 0, 0, 1, 0, 0, 1, 1, 1, 1, 1, 1, 1, 1, 0] (fun a' u' => Slots 397 (lkB a0 a1 a2 a3 a4 a5 caps.length paths.length drops.length syncs.length fails.length keeps.length c0 c1 c2 c3 c4 c5 aj dv mv t r [(29, .int .i64 k), (31, .pointer (some ⟨nx, 0, none⟩)), (33, bv), (32, .int .i64 fv), (34, errV kk), (35, .bool (kk == 6))]) a' ∧ KeepsE X w aj (.slice a0 caps.length c0) m s dv mv dn mk [(nx, pv, g)] u') a u := by
  have HE : Hid (Calls Tryd.prog 7 #[errV kk, .int .i64 6] u fun e w' => e = .returned (.bool (kk == 6)) ∧ Hid (KeepsE X w aj (.slice a0 caps.length c0) m s dv mv dn mk [(nx, pv, g)] w')) := by
    refine (Error_any kk 6 u (cell_later hk.below hg)).mono ?_
    rintro e w' ⟨he, hb⟩
    exact ⟨he, hk.later hb⟩
  clear hk hg
  generalize (kk == 6) = x at *
  generalize errV kk = ev at *
  refine Thru.mk fun J K hJ hK => ?_
  obtain ⟨Y, rfl, hY⟩ := ha.lay
  obtain ⟨e0, e1, e2, e3, e4, e5, e6, e7, e8, e9, e10, e11, e12, e13, e14, e15, -⟩ := hY
  rw [range_lk]
  simp only [e0, e1, e2, e3, e4, e5, e6, e7, e8, e9, e10, e11, e12, e13, e14, e15]
  clear ha e0 e1 e2 e3 e4 e5 e6 e7 e8 e9 e10 e11 e12 e13 e14 e15
  conv => arg 2; whnf
  go_wp2_with fail
  refine HE.out.mono ?_
  rintro e w1 ⟨rfl, hk⟩
  clear HE
  go_wp2
  refine Met.intro (hJ _ _ ?_)
  exact ⟨⟨rfl, by kernel_rfl, has_cons rfl (has_cons rfl (has_cons rfl (has_cons rfl (has_cons rfl (has_cons rfl (has_cons rfl (has_cons rfl (has_cons rfl (has_cons rfl (has_cons rfl (has_cons rfl (has_cons rfl (has_cons rfl (has_cons rfl (has_cons rfl (has_cons rfl (has_nil)))))))))))))))))⟩, hk.out⟩
set_option maxRecDepth 100000 in
set_option maxHeartbeats 8000000 in
theorem lk_told {nx : Nat} {fv kk : Int} {x : Bool} {bv pv : Value} {g : Flows} (hg : w.cell? ⟨0, 0, none⟩ = some handleV) (ha : Slots 397 (lkB a0 a1 a2 a3 a4 a5 caps.length paths.length drops.length syncs.length fails.length keeps.length c0 c1 c2 c3 c4 c5 aj dv mv t r [(29, .int .i64 k), (31, .pointer (some ⟨nx, 0, none⟩)), (33, bv), (32, .int .i64 fv), (34, errV kk), (35, .bool x)]) a) (hk : KeepsE X w aj (.slice a0 caps.length c0) m s dv mv dn mk [(nx, pv, g)] u) :
    Lk [1, 1, 1, 1, 1, 1, 1, 1, 1, 1, 1, 1, 1, 1, 1, 1, 1, 0, 1, 0, 0, 1, 0, 0, 1, 0, 1, 0, 0, 1, 0, 0, 1, 1, 1, 1, 1, 1, 1, 1, 1, 0] (fun a' u' => Slots 397 (lkB a0 a1 a2 a3 a4 a5 caps.length paths.length drops.length syncs.length fails.length keeps.length c0 c1 c2 c3 c4 c5 aj dv mv t r [(29, .int .i64 k), (31, .pointer (some ⟨nx, 0, none⟩)), (33, bv), (34, errV kk), (35, .bool x), (24, .bool (kk == fv))]) a' ∧ KeepsE X w aj (.slice a0 caps.length c0) m s dv mv dn mk [(nx, pv, g)] u') a u := by
  have HE : Hid (Calls Tryd.prog 7 #[errV kk, .int .i64 fv] u fun e w' => e = .returned (.bool (kk == fv)) ∧ Hid (KeepsE X w aj (.slice a0 caps.length c0) m s dv mv dn mk [(nx, pv, g)] w')) := by
    refine (Error_any kk fv u (cell_later hk.below hg)).mono ?_
    rintro e w' ⟨he, hb⟩
    exact ⟨he, hk.later hb⟩
  clear hk hg
  generalize (kk == fv) = y at *
  generalize errV kk = ev at *
  refine Thru.mk fun J K hJ hK => ?_
  obtain ⟨Y, rfl, hY⟩ := ha.lay
  obtain ⟨e0, e1, e2, e3, e4, e5, e6, e7, e8, e9, e10, e11, e12, e13, e14, e15, e16, -⟩ := hY
  rw [range_lk]
  simp only [e0, e1, e2, e3, e4, e5, e6, e7, e8, e9, e10, e11, e12, e13, e14, e15, e16]
  clear ha e0 e1 e2 e3 e4 e5 e6 e7 e8 e9 e10 e11 e12 e13 e14 e15 e16
  conv => arg 2; whnf
  go_wp2_with fail
  refine HE.out.mono ?_
  rintro e w1 ⟨rfl, hk⟩
  clear HE
  go_wp2
  refine Met.intro (hJ _ _ ?_)
  exact ⟨⟨rfl, by kernel_rfl, has_cons rfl (has_cons rfl (has_cons rfl (has_cons rfl (has_cons rfl (has_cons rfl (has_cons rfl (has_cons rfl (has_cons rfl (has_cons rfl (has_cons rfl (has_cons rfl (has_cons rfl (has_cons rfl (has_cons rfl (has_cons rfl (has_cons rfl (has_nil)))))))))))))))))⟩, hk.out⟩
set_option maxRecDepth 100000 in
set_option maxHeartbeats 8000000 in
theorem lk_ok {nx : Nat} {x y : Bool} {bv ev : Value} (hxy : x = true ∨ y = true) (ha : Slots 397 (lkB a0 a1 a2 a3 a4 a5 caps.length paths.length drops.length syncs.length fails.length keeps.length c0 c1 c2 c3 c4 c5 aj dv mv t r [(29, .int .i64 k), (31, .pointer (some ⟨nx, 0, none⟩)), (33, bv), (34, ev), (35, .bool x), (24, .bool y)]) a) :
    Lk [1, 1, 1, 1, 1, 1, 1, 1, 1, 1, 1, 1, 1, 1, 1, 1, 1, 0, 1, 0, 0, 1, 0, 0, 1, 0, 1, 0, 0, 1, 0, 0, 1, 1, 1, 1, 1, 1, 1, 1, 1, 1, 0] (fun a' u' => Slots 397 (lkB a0 a1 a2 a3 a4 a5 caps.length paths.length drops.length syncs.length fails.length keeps.length c0 c1 c2 c3 c4 c5 aj dv mv t r [(29, .int .i64 k), (31, .pointer (some ⟨nx, 0, none⟩)), (33, bv), (34, ev)]) a' ∧ u' = u) a u := by
  cases x with
  | true =>
    clear hxy
    refine Thru.mk fun J K hJ hK => ?_
    obtain ⟨Y, rfl, hY⟩ := ha.lay
    obtain ⟨e0, e1, e2, e3, e4, e5, e6, e7, e8, e9, e10, e11, e12, e13, e14, e15, e16, -⟩ := hY
    rw [range_lk]
    simp only [e0, e1, e2, e3, e4, e5, e6, e7, e8, e9, e10, e11, e12, e13, e14, e15, e16]
    clear ha e0 e1 e2 e3 e4 e5 e6 e7 e8 e9 e10 e11 e12 e13 e14 e15 e16
    conv => arg 2; whnf
    go_wp2
    refine Met.intro (hJ _ _ ?_)
    exact ⟨⟨rfl, by kernel_rfl, has_cons rfl (has_cons rfl (has_cons rfl (has_cons rfl (has_cons rfl (has_cons rfl (has_cons rfl (has_cons rfl (has_cons rfl (has_cons rfl (has_cons rfl (has_cons rfl (has_cons rfl (has_cons rfl (has_cons rfl (has_nil)))))))))))))))⟩, rfl⟩
  | false =>
    obtain rfl : y = true := by rcases hxy with h | h; cases h; exact h
    clear hxy
    refine Thru.mk fun J K hJ hK => ?_
    obtain ⟨Y, rfl, hY⟩ := ha.lay
    obtain ⟨e0, e1, e2, e3, e4, e5, e6, e7, e8, e9, e10, e11, e12, e13, e14, e15, e16, -⟩ := hY
    rw [range_lk]
    simp only [e0, e1, e2, e3, e4, e5, e6, e7, e8, e9, e10, e11, e12, e13, e14, e15, e16]
    clear ha e0 e1 e2 e3 e4 e5 e6 e7 e8 e9 e10 e11 e12 e13 e14 e15 e16
    conv => arg 2; whnf
    go_wp2
    refine Met.intro (hJ _ _ ?_)
    exact ⟨⟨rfl, by kernel_rfl, has_cons rfl (has_cons rfl (has_cons rfl (has_cons rfl (has_cons rfl (has_cons rfl (has_cons rfl (has_cons rfl (has_cons rfl (has_cons rfl (has_cons rfl (has_cons rfl (has_cons rfl (has_cons rfl (has_cons rfl (has_nil)))))))))))))))⟩, rfl⟩
end
end Ev
end Go.Proofs.YtdldgefahgojaakDoor

/- The law LogKeeps: its paths are the last ones. -/
namespace Go.Proofs.YtdldgefahgojaakDoor
namespace Ev
open Go.RowKit Fr Ns Ld Fl
set_option linter.unusedSimpArgs false
set_option linter.unusedVariables false

section
variable {X : LogFace} {w : World} {caps : List Int} {paths : List (List Int)} {drops syncs fails keeps : List Int} {a0 a1 a2 a3 a4 a5 : Option Addr} {c0 c1 c2 c3 c4 c5 : Nat} {aj : Addr} {dv mv : Value} {t r k m : Nat} {s : LogS} {dn : List Flows} {mk : List Nat} {a : Act} {u : World}
theorem eqL_selfK (l : List (List Int)) : eqL l l = true := by simp [eqL]
set_option maxRecDepth 100000 in
set_option maxHeartbeats 8000000 in
theorem lk_same {d : Nat} (hP : LPathsSaid X) (hm : m ≤ 1000) (hdn : s.done = dn) (hd : dn.length = d + 1) (hdm : dn.length ≤ 1000) (ha : Slots 397 (lkB a0 a1 a2 a3 a4 a5 caps.length paths.length drops.length syncs.length fails.length keeps.length c0 c1 c2 c3 c4 c5 aj dv mv t r [(29, .int .i64 k)]) a) (hk : KeepsE X w aj (.slice a0 caps.length c0) m s dv mv dn mk [] u) :
    Lk [1, 1, 1, 1, 1, 1, 1, 1, 1, 1, 1, 1, 1, 1, 1, 1, 1, 0, 1, 0, 0, 1, 0, 0, 1, 0, 1, 0, 0, 1, 0, 0, 1, 1, 1, 1, 1, 1, 1, 1, 1, 1, 1, 1] (fun a' u' => Slots 397 (lkB a0 a1 a2 a3 a4 a5 caps.length paths.length drops.length syncs.length fails.length keeps.length c0 c1 c2 c3 c4 c5 aj dv mv t r [(29, .int .i64 k)]) a' ∧ KeepsE X w aj (.slice a0 caps.length c0) m s dv mv dn mk [] u') a u := by
  obtain ⟨D, c, pv, hdv, hc, hcell, F0, hK0, hL0⟩ := hk.last (i := d) (by omega)
  have hfl : dn.getD d [] = s.flows := by
    show _ = flowsL s.done
    rw [flowsL, hdn, hd]; rfl
  rw [hfl] at hL0
  have KL : Hid (∀ u', Below u.heap.size u u' → KeepsE X w aj (.slice a0 caps.length c0) m s dv mv dn mk [] u') := fun u' hb => hk.later hb
  have HP : Hid (∀ u', Below u.heap.size u u' → Calls Tryd.prog 13 #[.pointer (some aj)] u' fun e w' => ∃ ay cy, e = .returned (.slice ay s.flows.length cy) ∧ Hid (Below u.heap.size u w') ∧ Hid (ListsAt (fun _ => True) w' (.slice ay s.flows.length cy) s.flows)) := fun u' hb => by
    refine (k_paths hP (hk.later hb) hm).mono ?_
    rintro e w' ⟨y, he, hl, hb2⟩
    obtain ⟨ay, cy, rfl, _⟩ := id hl
    exact ⟨ay, cy, he, Bel.call hb (Nat.le_refl _) hb2, hl.keep (fun _ _ _ => rfl) (fun _ _ _ => trivial)⟩
  have HL : Hid (∀ u' va, ListsAt (fun _ => True) u' va s.flows → Below u.heap.size u u' → Calls Tryd.prog 21 #[va, pv] u' fun e w' => e = .returned (.bool true) ∧ Hid (Below u.heap.size u w')) := fun u' va hva hb => by
    refine (SLists_any s.flows s.flows va pv u' hva (hL0.later hb)).mono ?_
    rintro e w' ⟨he, n, rfl⟩
    rw [eqL_selfK] at he
    exact ⟨he, below_drewN hb _⟩
  have HSA : Hid (∀ u', Below u.heap.size u u' → u'.cell? ⟨D, d * 2 + 1, none⟩ = some pv) := fun u' hb => (hcell u' hb).2
  have q2 := (hcell u (Below.refl _ _)).2
  have hw1 : IntKind.i64.wrap ((dn.length : Int) - 1) = (d : Int) := by rw [IntKind.wrap_i64]; omega
  have hlt : (d : Int) < dn.length := by omega
  have P1 : Hid (Below u.heap.size u u.drew) := (Below.refl _ _).drew
  subst hdv
  obtain ⟨ap, cp, rfl, _⟩ := hL0
  generalize s.flows.length = fl at *
  have h00 : (0 : Int) ≤ (d : Int) := by omega
  clear hk hK0 hcell hP hfl hd hdm hdn
  generalize dn.length = dl at *
  refine Thru.mk fun J K hJ hK => ?_
  obtain ⟨Y, rfl, hY⟩ := ha.lay
  obtain ⟨e0, e1, e2, e3, e4, e5, e6, e7, e8, e9, e10, e11, -⟩ := hY
  rw [range_lk]
  simp only [e0, e1, e2, e3, e4, e5, e6, e7, e8, e9, e10, e11]
  clear ha e0 e1 e2 e3 e4 e5 e6 e7 e8 e9 e10 e11
  conv => arg 2; whnf
  go_wp2_with fail
  go_region_held3 (fun u' => u'.cell? ⟨D, d * 2 + 1, none⟩ = some (.slice ap fl cp)) ((refine HSA.out _ ?_; first | exact P1.out | exact Hb1.out | exact Hb2.out))
    (first
      | (go_at_call 13; refine (HP.out _ P1.out).mono ?_; rintro e w1 ⟨ay, cy, rfl, Hb1, Hl1⟩)
      | (go_at_call 21; refine (HL.out _ _ Hl1.out Hb1.out).mono ?_; rintro e w2 ⟨rfl, Hb2⟩))
  all_goals
    go_wp2_with fail
    refine Met.intro (hJ _ _ ?_)
    exact ⟨⟨rfl, by kernel_rfl, has_cons rfl (has_cons rfl (has_cons rfl (has_cons rfl (has_cons rfl (has_cons rfl (has_cons rfl (has_cons rfl (has_cons rfl (has_cons rfl (has_cons rfl (has_cons rfl (has_nil))))))))))))⟩, KL.out _ Hb2.out⟩
end
end Ev
end Go.Proofs.YtdldgefahgojaakDoor

/- The law LogKeeps: a round of the inner loop. -/
namespace Go.Proofs.YtdldgefahgojaakDoor
namespace Ev
open Go.RowKit Fr Ns Ld Fl
set_option linter.unusedSimpArgs false
set_option linter.unusedVariables false

section
variable {X : LogFace} {w : World} {caps : List Int} {paths : List (List Int)} {drops syncs fails keeps : List Int} {a0 a1 a2 a3 a4 a5 : Option Addr} {c0 c1 c2 c3 c4 c5 : Nat} {aj : Addr} {dv mv : Value} {t r k m : Nat} {s : LogS} {dn : List Flows} {mk : List Nat} {a : Act} {u : World}
theorem lk_made {nx n0 : Nat} {kk fv : Int} {s0 : LogS} {pv : Value} {g gg : Flows} (hB : LBytesSaid X) (hm : m ≤ 1000) (hn : n0 = s0.bytes) (hst : Stepped s0 s kk fv gg) (hg : fv = 0 → g = gg) (hdn : s0.done = dn) (hmk : s0.marks = mk) (hdm : dn.length ≤ 1000) (hmm : mk.length ≤ 1000) (ha : Slots 397 (lkB a0 a1 a2 a3 a4 a5 caps.length paths.length drops.length syncs.length fails.length keeps.length c0 c1 c2 c3 c4 c5 aj dv mv t r [(29, .int .i64 k), (31, .pointer (some ⟨nx, 0, none⟩)), (33, .int .i64 n0), (34, errV kk)]) a) (hk : KeepsE X w aj (.slice a0 caps.length c0) m s dv mv dn mk [(nx, pv, g)] u) :
    Lk [1, 1, 1, 1, 1, 1, 1, 1, 1, 1, 1, 1, 1, 1, 1, 1, 1, 0, 1, 0, 0, 1, 0, 0, 1, 0, 1, 0, 0, 1, 0, 0, 1, 1, 1, 1, 1, 1, 1, 1, 1, 1, 1, 0] (fun a' u' => ∃ dv' mv', Slots 397 (lkB a0 a1 a2 a3 a4 a5 caps.length paths.length drops.length syncs.length fails.length keeps.length c0 c1 c2 c3 c4 c5 aj dv' mv' t r [(29, .int .i64 k)]) a' ∧ KeepsE X w aj (.slice a0 caps.length c0) m s dv' mv' s.done s.marks [] u') a u := by
  refine Lk.seq (p0 := [1, 1, 1, 1, 1, 1, 1, 1, 1, 1, 1, 1, 1, 1, 1, 1, 1, 0, 1, 0, 0, 1, 0, 0, 1, 0, 1, 0, 0, 1, 0, 0, 1, 1, 1, 1, 1, 1, 1, 1, 1, 1, 1, 0, 0]) (p1 := [1, 1, 1, 1, 1, 1, 1, 1, 1, 1, 1, 1, 1, 1, 1, 1, 1, 0, 1, 0, 0, 1, 0, 0, 1, 0, 1, 0, 0, 1, 0, 0, 1, 1, 1, 1, 1, 1, 1, 1, 1, 1, 1, 0, 1]) (by kernel_rfl) (lk_nil ha) ?_
  rintro a1 u1 ⟨b, hs1, rfl, hb⟩
  refine Lk.cond (k := 261) (p0 := [1, 1, 1, 1, 1, 1, 1, 1, 1, 1, 1, 1, 1, 1, 1, 1, 1, 0, 1, 0, 0, 1, 0, 0, 1, 0, 1, 0, 0, 1, 0, 0, 1, 1, 1, 1, 1, 1, 1, 1, 1, 1, 1, 0, 1, 0]) (p1 := [1, 1, 1, 1, 1, 1, 1, 1, 1, 1, 1, 1, 1, 1, 1, 1, 1, 0, 1, 0, 0, 1, 0, 0, 1, 0, 1, 0, 0, 1, 0, 0, 1, 1, 1, 1, 1, 1, 1, 1, 1, 1, 1, 0, 1, 1]) (by kernel_rfl) (hs1.2.2.2.2.2.2.2.2.2.2.2.2.2.2.2.2.2.1) (fun hbt => ?_) (fun hbf => ?_)
  · obtain ⟨g1, g2, g3, g4⟩ := hst.good (hb.1 hbt)
    have hgg := hg g1
    subst hgg
    refine Lk.seq (p0 := [1, 1, 1, 1, 1, 1, 1, 1, 1, 1, 1, 1, 1, 1, 1, 1, 1, 0, 1, 0, 0, 1, 0, 0, 1, 0, 1, 0, 0, 1, 0, 0, 1, 1, 1, 1, 1, 1, 1, 1, 1, 1, 1, 0, 1, 0, 0]) (p1 := [1, 1, 1, 1, 1, 1, 1, 1, 1, 1, 1, 1, 1, 1, 1, 1, 1, 0, 1, 0, 0, 1, 0, 0, 1, 0, 1, 0, 0, 1, 0, 0, 1, 1, 1, 1, 1, 1, 1, 1, 1, 1, 1, 0, 1, 0, 1]) (by kernel_rfl) (lk_more hB hm (by omega) ⟨hs1.1, hs1.2.1, has_cons hs1.2.2.1 (has_cons hs1.2.2.2.1 (has_cons hs1.2.2.2.2.1 (has_cons hs1.2.2.2.2.2.1 (has_cons hs1.2.2.2.2.2.2.1 (has_cons hs1.2.2.2.2.2.2.2.1 (has_cons hs1.2.2.2.2.2.2.2.2.1 (has_cons hs1.2.2.2.2.2.2.2.2.2.1 (has_cons hs1.2.2.2.2.2.2.2.2.2.2.1 (has_cons hs1.2.2.2.2.2.2.2.2.2.2.2.1 (has_cons hs1.2.2.2.2.2.2.2.2.2.2.2.2.1 (has_cons hs1.2.2.2.2.2.2.2.2.2.2.2.2.2.1 (has_cons hs1.2.2.2.2.2.2.2.2.2.2.2.2.2.2.1 (has_cons hs1.2.2.2.2.2.2.2.2.2.2.2.2.2.2.2.1 (has_cons hs1.2.2.2.2.2.2.2.2.2.2.2.2.2.2.2.2.1 (has_nil)))))))))))))))⟩ hk) ?_
    rintro a2 u2 ⟨hs2, hk2⟩
    refine Lk.seq (p0 := [1, 1, 1, 1, 1, 1, 1, 1, 1, 1, 1, 1, 1, 1, 1, 1, 1, 0, 1, 0, 0, 1, 0, 0, 1, 0, 1, 0, 0, 1, 0, 0, 1, 1, 1, 1, 1, 1, 1, 1, 1, 1, 1, 0, 1, 0, 1, 0]) (p1 := [1, 1, 1, 1, 1, 1, 1, 1, 1, 1, 1, 1, 1, 1, 1, 1, 1, 0, 1, 0, 0, 1, 0, 0, 1, 0, 1, 0, 0, 1, 0, 0, 1, 1, 1, 1, 1, 1, 1, 1, 1, 1, 1, 0, 1, 0, 1, 1]) (by kernel_rfl) (lk_done hdm hs2 hk2) ?_
    rintro a3 u3 ⟨dv', hs3, hk3⟩
    refine (lk_marks hB hm hmm hs3 hk3).mono ?_
    rintro a4 u4 ⟨mv', hs4, hk4⟩
    rw [g2, g3, hdn, hmk]
    exact ⟨dv', mv', hs4, hk4⟩
  · have hne : kk ≠ 0 := fun h => by rw [hb.2 h] at hbf; cases hbf
    obtain ⟨-, g2, g3⟩ := hst.bad hne
    refine Lk.skip (by kernel_rfl) ⟨dv, mv, ⟨hs1.1, hs1.2.1, has_cons hs1.2.2.1 (has_cons hs1.2.2.2.1 (has_cons hs1.2.2.2.2.1 (has_cons hs1.2.2.2.2.2.1 (has_cons hs1.2.2.2.2.2.2.1 (has_cons hs1.2.2.2.2.2.2.2.1 (has_cons hs1.2.2.2.2.2.2.2.2.1 (has_cons hs1.2.2.2.2.2.2.2.2.2.1 (has_cons hs1.2.2.2.2.2.2.2.2.2.2.1 (has_cons hs1.2.2.2.2.2.2.2.2.2.2.2.1 (has_cons hs1.2.2.2.2.2.2.2.2.2.2.2.2.1 (has_cons hs1.2.2.2.2.2.2.2.2.2.2.2.2.2.1 (has_nil))))))))))))⟩, ?_⟩
    rw [g2, g3, hdn, hmk]
    exact hk.less
theorem lk_round2 (hA : LAddSaid X) (hD : LDropSaid X) (hS : LSyncSaid X) (hB : LBytesSaid X) (hSf : LSafeSaid X) (hP : LPathsSaid X) (hg : w.cell? ⟨0, 0, none⟩ = some handleV) (hv0 : IntsAt (fun b => b < w.heap.size) w (.slice a0 caps.length c0) caps) (hv1 : ListsAt (fun b => b < w.heap.size) w (.slice a1 paths.length c1) paths) (hv2 : IntsAt (fun b => b < w.heap.size) w (.slice a2 drops.length c2) drops) (hv3 : IntsAt (fun b => b < w.heap.size) w (.slice a3 syncs.length c3) syncs) (h1 : t < paths.length) (hm : m + 1 ≤ 1000) (hc : s.caps = caps) (ha : Slots 397 (lkB a0 a1 a2 a3 a4 a5 caps.length paths.length drops.length syncs.length fails.length keeps.length c0 c1 c2 c3 c4 c5 aj dv mv t r [(29, .int .i64 k)]) a) (hk : KeepsE X w aj (.slice a0 caps.length c0) m s dv mv s.done s.marks [] u) :
    Lk [1, 1, 1, 1, 1, 1, 1, 1, 1, 1, 1, 1, 1, 1, 1, 1, 1, 0, 1, 0, 0, 1, 0, 0, 1, 0, 1, 0, 0, 1, 0, 0] (fun a' u' => ∃ s' dv' mv', Slots 397 (lkB a0 a1 a2 a3 a4 a5 caps.length paths.length drops.length syncs.length fails.length keeps.length c0 c1 c2 c3 c4 c5 aj dv' mv' (t + 1) r [(29, .int .i64 k)]) a' ∧ KeepsE X w aj (.slice a0 caps.length c0) (m + 1) s' dv' mv' s'.done s'.marks [] u' ∧ s'.caps = caps) a u := by
  have hlen := hk.ok.len
  have hpos := hk.ok.pos
  have hfew := hk.few
  have hpl : paths.length ≤ 9223372036854775807 := by
    obtain ⟨_, _, _, ⟨_, h⟩, _⟩ := id hv1
    exact h
  refine Lk.seq (p0 := [1, 1, 1, 1, 1, 1, 1, 1, 1, 1, 1, 1, 1, 1, 1, 1, 1, 0, 1, 0, 0, 1, 0, 0, 1, 0, 1, 0, 0, 1, 0, 0, 0]) (p1 := [1, 1, 1, 1, 1, 1, 1, 1, 1, 1, 1, 1, 1, 1, 1, 1, 1, 0, 1, 0, 0, 1, 0, 0, 1, 0, 1, 0, 0, 1, 0, 0, 1]) (by kernel_rfl) (lk_sync hS hB hSf hv3 (by omega) ha hk) ?_
  rintro a1 u1 ⟨s1, hs1, hk1, e1, e2, e3⟩
  obtain ⟨d, hd⟩ : ∃ d, s.done.length = d + 1 := ⟨s.done.length - 1, by omega⟩
  have hfl : s.done.getD d [] = s1.flows := by
    show _ = flowsL s1.done
    rw [flowsL, e1, hd]; rfl
  have hf6 : s1.flows.length ≤ 1000 := by have := hk1.ok.flows_right.1; omega
  refine Lk.seq (p0 := [1, 1, 1, 1, 1, 1, 1, 1, 1, 1, 1, 1, 1, 1, 1, 1, 1, 0, 1, 0, 0, 1, 0, 0, 1, 0, 1, 0, 0, 1, 0, 0, 1, 0]) (p1 := [1, 1, 1, 1, 1, 1, 1, 1, 1, 1, 1, 1, 1, 1, 1, 1, 1, 0, 1, 0, 0, 1, 0, 0, 1, 0, 1, 0, 0, 1, 0, 0, 1, 1]) (by kernel_rfl) (lk_now hd (by omega) hs1 hk1) ?_
  rintro a2 u2 ⟨pv, hs2, hk2⟩
  rw [hfl] at hk2
  refine Lk.seq (p0 := [1, 1, 1, 1, 1, 1, 1, 1, 1, 1, 1, 1, 1, 1, 1, 1, 1, 0, 1, 0, 0, 1, 0, 0, 1, 0, 1, 0, 0, 1, 0, 0, 1, 1, 0]) (p1 := [1, 1, 1, 1, 1, 1, 1, 1, 1, 1, 1, 1, 1, 1, 1, 1, 1, 0, 1, 0, 0, 1, 0, 0, 1, 0, 1, 0, 0, 1, 0, 0, 1, 1, 1]) (by kernel_rfl) (lk_next hs2 hk2) ?_
  rintro a3 u3 ⟨hs3, hk3⟩
  refine Lk.seq (p0 := [1, 1, 1, 1, 1, 1, 1, 1, 1, 1, 1, 1, 1, 1, 1, 1, 1, 0, 1, 0, 0, 1, 0, 0, 1, 0, 1, 0, 0, 1, 0, 0, 1, 1, 1, 0]) (p1 := [1, 1, 1, 1, 1, 1, 1, 1, 1, 1, 1, 1, 1, 1, 1, 1, 1, 0, 1, 0, 0, 1, 0, 0, 1, 0, 1, 0, 0, 1, 0, 0, 1, 1, 1, 1]) (by kernel_rfl) (lk_e0 (f := []) (g := []) hs3) ?_
  rintro a4 u4 ⟨hs4, rfl⟩
  refine Lk.seq (p0 := [1, 1, 1, 1, 1, 1, 1, 1, 1, 1, 1, 1, 1, 1, 1, 1, 1, 0, 1, 0, 0, 1, 0, 0, 1, 0, 1, 0, 0, 1, 0, 0, 1, 1, 1, 1, 0]) (p1 := [1, 1, 1, 1, 1, 1, 1, 1, 1, 1, 1, 1, 1, 1, 1, 1, 1, 0, 1, 0, 0, 1, 0, 0, 1, 0, 1, 0, 0, 1, 0, 0, 1, 1, 1, 1, 1]) (by kernel_rfl) (lk_bytes hB (by omega) hs4 hk3) ?_
  rintro a5 u5 ⟨hs5, hk5⟩
  refine Lk.seq (p0 := [1, 1, 1, 1, 1, 1, 1, 1, 1, 1, 1, 1, 1, 1, 1, 1, 1, 0, 1, 0, 0, 1, 0, 0, 1, 0, 1, 0, 0, 1, 0, 0, 1, 1, 1, 1, 1, 0]) (p1 := [1, 1, 1, 1, 1, 1, 1, 1, 1, 1, 1, 1, 1, 1, 1, 1, 1, 0, 1, 0, 0, 1, 0, 0, 1, 0, 1, 0, 0, 1, 0, 0, 1, 1, 1, 1, 1, 1]) (by kernel_rfl) (lk_err0 (f := []) (g := []) hs5) ?_
  rintro a6 u6 ⟨hs6, rfl⟩
  refine Lk.seq (p0 := [1, 1, 1, 1, 1, 1, 1, 1, 1, 1, 1, 1, 1, 1, 1, 1, 1, 0, 1, 0, 0, 1, 0, 0, 1, 0, 1, 0, 0, 1, 0, 0, 1, 1, 1, 1, 1, 1, 0]) (p1 := [1, 1, 1, 1, 1, 1, 1, 1, 1, 1, 1, 1, 1, 1, 1, 1, 1, 0, 1, 0, 0, 1, 0, 0, 1, 0, 1, 0, 0, 1, 0, 0, 1, 1, 1, 1, 1, 1, 1]) (by kernel_rfl) (lk_step hA hD hv0 hv1 hv2 h1 hm hf6 rfl (e3.trans hc) hs6 hk5) ?_
  rintro a7 u7 ⟨s2, kk, fv, gg, g, pv2, hs7, hk7, hst, hg7⟩
  refine Lk.seq (p0 := [1, 1, 1, 1, 1, 1, 1, 1, 1, 1, 1, 1, 1, 1, 1, 1, 1, 0, 1, 0, 0, 1, 0, 0, 1, 0, 1, 0, 0, 1, 0, 0, 1, 1, 1, 1, 1, 1, 1, 0]) (p1 := [1, 1, 1, 1, 1, 1, 1, 1, 1, 1, 1, 1, 1, 1, 1, 1, 1, 0, 1, 0, 0, 1, 0, 0, 1, 0, 1, 0, 0, 1, 0, 0, 1, 1, 1, 1, 1, 1, 1, 1]) (by kernel_rfl) (lk_at (by omega) hs7) ?_
  rintro a8 u8 ⟨hs8, rfl⟩
  refine Lk.seq (p0 := [1, 1, 1, 1, 1, 1, 1, 1, 1, 1, 1, 1, 1, 1, 1, 1, 1, 0, 1, 0, 0, 1, 0, 0, 1, 0, 1, 0, 0, 1, 0, 0, 1, 1, 1, 1, 1, 1, 1, 1, 0]) (p1 := [1, 1, 1, 1, 1, 1, 1, 1, 1, 1, 1, 1, 1, 1, 1, 1, 1, 0, 1, 0, 0, 1, 0, 0, 1, 0, 1, 0, 0, 1, 0, 0, 1, 1, 1, 1, 1, 1, 1, 1, 1]) (by kernel_rfl) (lk_stop hg hs8 hk7) ?_
  rintro a9 u9 ⟨hs9, hk9⟩
  refine Lk.seq (p0 := [1, 1, 1, 1, 1, 1, 1, 1, 1, 1, 1, 1, 1, 1, 1, 1, 1, 0, 1, 0, 0, 1, 0, 0, 1, 0, 1, 0, 0, 1, 0, 0, 1, 1, 1, 1, 1, 1, 1, 1, 1, 0]) (p1 := [1, 1, 1, 1, 1, 1, 1, 1, 1, 1, 1, 1, 1, 1, 1, 1, 1, 0, 1, 0, 0, 1, 0, 0, 1, 0, 1, 0, 0, 1, 0, 0, 1, 1, 1, 1, 1, 1, 1, 1, 1, 1]) (by kernel_rfl) (lk_told hg hs9 hk9) ?_
  rintro a10 u10 ⟨hs10, hk10⟩
  have hxy : (kk == 6) = true ∨ (kk == fv) = true := by
    by_cases h : kk = 0
    · right; rw [h, (hst.good h).1]; rfl
    · rcases (hst.bad h).1 with h | h
      · left; rw [h]; rfl
      · right; rw [h]; simp
  refine Lk.seq (p0 := [1, 1, 1, 1, 1, 1, 1, 1, 1, 1, 1, 1, 1, 1, 1, 1, 1, 0, 1, 0, 0, 1, 0, 0, 1, 0, 1, 0, 0, 1, 0, 0, 1, 1, 1, 1, 1, 1, 1, 1, 1, 1, 0]) (p1 := [1, 1, 1, 1, 1, 1, 1, 1, 1, 1, 1, 1, 1, 1, 1, 1, 1, 0, 1, 0, 0, 1, 0, 0, 1, 0, 1, 0, 0, 1, 0, 0, 1, 1, 1, 1, 1, 1, 1, 1, 1, 1, 1]) (by kernel_rfl) (lk_ok hxy hs10) ?_
  rintro a11 u11 ⟨hs11, rfl⟩
  refine Lk.seq (p0 := [1, 1, 1, 1, 1, 1, 1, 1, 1, 1, 1, 1, 1, 1, 1, 1, 1, 0, 1, 0, 0, 1, 0, 0, 1, 0, 1, 0, 0, 1, 0, 0, 1, 1, 1, 1, 1, 1, 1, 1, 1, 1, 1, 0]) (p1 := [1, 1, 1, 1, 1, 1, 1, 1, 1, 1, 1, 1, 1, 1, 1, 1, 1, 0, 1, 0, 0, 1, 0, 0, 1, 0, 1, 0, 0, 1, 0, 0, 1, 1, 1, 1, 1, 1, 1, 1, 1, 1, 1, 1]) (by kernel_rfl) (lk_made hB hm rfl hst hg7 e1 e2 (by omega) (by omega) hs11 hk10) ?_
  rintro a12 u12 ⟨dv', mv', hs12, hk12⟩
  have hlen2 := hk12.ok.len
  have hpos2 := hk12.ok.pos
  have hfew2 := hk12.few
  obtain ⟨d2, hd2⟩ : ∃ d, s2.done.length = d + 1 := ⟨s2.done.length - 1, by omega⟩
  refine (lk_same hP hm rfl hd2 (by omega) hs12 hk12).mono ?_
  rintro a13 u13 ⟨hs13, hk13⟩
  exact ⟨s2, dv', mv', hs13, hk13, by rw [hst.caps, e3, hc]⟩
end
end Ev
end Go.Proofs.YtdldgefahgojaakDoor

/- The law LogKeeps: the inner loop. -/
namespace Go.Proofs.YtdldgefahgojaakDoor
namespace Ev
open Go.RowKit Fr Ns Ld Fl
set_option linter.unusedSimpArgs false
set_option linter.unusedVariables false

section
variable {X : LogFace} {w : World} {caps : List Int} {paths : List (List Int)} {drops syncs fails keeps : List Int} {a0 a1 a2 a3 a4 a5 : Option Addr} {c0 c1 c2 c3 c4 c5 : Nat} {aj : Addr} {dv mv : Value} {t r k m : Nat} {s : LogS} {dn : List Flows} {mk : List Nat} {a : Act} {u : World}
theorem lk_loop2 (hA : LAddSaid X) (hD : LDropSaid X) (hS : LSyncSaid X) (hB : LBytesSaid X) (hSf : LSafeSaid X) (hP : LPathsSaid X) (hg : w.cell? ⟨0, 0, none⟩ = some handleV) (hv0 : IntsAt (fun b => b < w.heap.size) w (.slice a0 caps.length c0) caps) (hv1 : ListsAt (fun b => b < w.heap.size) w (.slice a1 paths.length c1) paths) (hv2 : IntsAt (fun b => b < w.heap.size) w (.slice a2 drops.length c2) drops) (hv3 : IntsAt (fun b => b < w.heap.size) w (.slice a3 syncs.length c3) syncs) (hm : m + 10 ≤ 1000) (hc : s.caps = caps) (ha : Slots 397 (lkB a0 a1 a2 a3 a4 a5 caps.length paths.length drops.length syncs.length fails.length keeps.length c0 c1 c2 c3 c4 c5 aj dv mv t r [(29, .int .i64 0)]) a) (hk : KeepsE X w aj (.slice a0 caps.length c0) m s dv mv s.done s.marks [] u) :
    Lk [1, 1, 1, 1, 1, 1, 1, 1, 1, 1, 1, 1, 1, 1, 1, 1, 1, 0, 1, 0, 0, 1, 0, 0, 1, 0, 1] (fun a' u' => ∃ (s' : LogS) (dv' mv' : Value) (t' : Nat), Slots 397 (lkB a0 a1 a2 a3 a4 a5 caps.length paths.length drops.length syncs.length fails.length keeps.length c0 c1 c2 c3 c4 c5 aj dv' mv' t' r []) a' ∧ KeepsE X w aj (.slice a0 caps.length c0) (m + 10) s' dv' mv' s'.done s'.marks [] u' ∧ s'.caps = caps) a u := by
  refine Lk.loop (p0 := [1, 1, 1, 1, 1, 1, 1, 1, 1, 1, 1, 1, 1, 1, 1, 1, 1, 0, 1, 0, 0, 1, 0, 0, 1, 0, 1, 0, 0]) (id := 2) (by kernel_rfl) (fun a' u' => ∃ (k t' : Nat) (s' : LogS) (dv' mv' : Value), k ≤ 10 ∧ Slots 397 (lkB a0 a1 a2 a3 a4 a5 caps.length paths.length drops.length syncs.length fails.length keeps.length c0 c1 c2 c3 c4 c5 aj dv' mv' t' r [(29, .int .i64 k)]) a' ∧ KeepsE X w aj (.slice a0 caps.length c0) (m + k) s' dv' mv' s'.done s'.marks [] u' ∧ s'.caps = caps) (fun a' _ => 10 - (intOf (a'.tmps.toList.getD 29 undef)).toNat) ⟨0, t, s, dv, mv, by omega, ha, hk, hc⟩ ?_
  rintro a1 u1 ⟨k, t', s', dv', mv', hk10, hs, hk', hc'⟩
  by_cases h : k < 10 ∧ t' < paths.length
  · left
    refine Lk.seq (p0 := [1, 1, 1, 1, 1, 1, 1, 1, 1, 1, 1, 1, 1, 1, 1, 1, 1, 0, 1, 0, 0, 1, 0, 0, 1, 0, 1, 0, 0, 0]) (p1 := [1, 1, 1, 1, 1, 1, 1, 1, 1, 1, 1, 1, 1, 1, 1, 1, 1, 0, 1, 0, 0, 1, 0, 0, 1, 0, 1, 0, 0, 1]) (by kernel_rfl) (lk_in2 h.1 h.2 hs) ?_
    rintro a2 u2 ⟨hs2, rfl⟩
    refine Lk.seq (p0 := [1, 1, 1, 1, 1, 1, 1, 1, 1, 1, 1, 1, 1, 1, 1, 1, 1, 0, 1, 0, 0, 1, 0, 0, 1, 0, 1, 0, 0, 1, 0]) (p1 := [1, 1, 1, 1, 1, 1, 1, 1, 1, 1, 1, 1, 1, 1, 1, 1, 1, 0, 1, 0, 0, 1, 0, 0, 1, 0, 1, 0, 0, 1, 1]) (by kernel_rfl) (Lk.block (p0 := [1, 1, 1, 1, 1, 1, 1, 1, 1, 1, 1, 1, 1, 1, 1, 1, 1, 0, 1, 0, 0, 1, 0, 0, 1, 0, 1, 0, 0, 1, 0, 0]) (id := 3) (by kernel_rfl) (lk_round2 hA hD hS hB hSf hP hg hv0 hv1 hv2 hv3 h.2 (by omega) hc' hs2 hk')) ?_
    rintro a3 u3 ⟨s3, dv3, mv3, hs3, hk3, hc3⟩
    refine (lk_inc2 h.1 hs3).mono ?_
    rintro a4 u4 ⟨hs4, rfl⟩
    refine ⟨⟨k + 1, t' + 1, s3, dv3, mv3, by omega, hs4, hk3, hc3⟩, ?_⟩
    have e1 := slot_int (hs.2.2.2.2.2.2.2.2.2.2.2.2.2.1)
    have e2 := slot_int (hs4.2.2.2.2.2.2.2.2.2.2.2.2.2.1)
    show 10 - (intOf (a4.tmps.toList.getD 29 undef)).toNat < 10 - (intOf (a1.tmps.toList.getD 29 undef)).toNat
    rw [e1, e2]
    omega
  · right
    refine LkX.seq (p0 := [1, 1, 1, 1, 1, 1, 1, 1, 1, 1, 1, 1, 1, 1, 1, 1, 1, 0, 1, 0, 0, 1, 0, 0, 1, 0, 1, 0, 0, 0]) (p1 := [1, 1, 1, 1, 1, 1, 1, 1, 1, 1, 1, 1, 1, 1, 1, 1, 1, 0, 1, 0, 0, 1, 0, 0, 1, 0, 1, 0, 0, 1]) (by kernel_rfl) ((lk_out2 h hs).mono ?_)
    rintro a2 u2 ⟨hs2, rfl⟩
    exact ⟨s', dv', mv', t', hs2, hk'.to (by have := hk'.few; omega), hc'⟩
end
end Ev
end Go.Proofs.YtdldgefahgojaakDoor

/- The law LogKeeps: behind the crash. -/
namespace Go.Proofs.YtdldgefahgojaakDoor
namespace Ev
open Go.RowKit Fr Ns Ld Fl
set_option linter.unusedSimpArgs false
set_option linter.unusedVariables false

section
variable {X : LogFace} {w : World} {caps : List Int} {paths : List (List Int)} {drops syncs fails keeps : List Int} {a0 a1 a2 a3 a4 a5 : Option Addr} {c0 c1 c2 c3 c4 c5 : Nat} {aj : Addr} {dv mv : Value} {t r k m : Nat} {s : LogS} {dn : List Flows} {mk : List Nat} {a : Act} {u : World}
theorem eqL_selfM (l : List (List Int)) : eqL l l = true := by simp [eqL]
set_option maxRecDepth 100000 in
set_option maxHeartbeats 8000000 in
theorem lk_after {l : Nat} (hP : LPathsSaid X) (hB : LBytesSaid X) (hSf : LSafeSaid X) (hm : m ≤ 1000) (hdn : s.done = dn) (hd : dn.length = l + 1) (hmk : mk.length = l + 1) (hb1 : s.bytes = mk.getD l 0) (hb2 : s.safe = mk.getD l 0) (ha : Slots 397 (lkB a0 a1 a2 a3 a4 a5 caps.length paths.length drops.length syncs.length fails.length keeps.length c0 c1 c2 c3 c4 c5 aj dv mv t r [(40, .int .i64 (l : Nat))]) a) (hk : KeepsE X w aj (.slice a0 caps.length c0) m s dv mv dn mk [] u) :
    Lk [1, 1, 1, 1, 1, 1, 1, 1, 1, 1, 1, 1, 1, 1, 1, 1, 1, 0, 1, 0, 0, 1, 0, 0, 1, 1, 1, 1, 1, 1, 1, 1, 1, 1, 1, 1, 1, 0] (fun a' u' => Slots 397 (lkB a0 a1 a2 a3 a4 a5 caps.length paths.length drops.length syncs.length fails.length keeps.length c0 c1 c2 c3 c4 c5 aj dv mv t r [(40, .int .i64 (l : Nat))]) a' ∧ KeepsE X w aj (.slice a0 caps.length c0) m s dv mv dn mk [] u') a u := by
  obtain ⟨D, c, pv, hdv, hc, hcell, F0, hK0, hL0⟩ := hk.last (i := l) (by omega)
  have hfl : dn.getD l [] = s.flows := by
    show _ = flowsL s.done
    rw [flowsL, hdn, hd]; rfl
  rw [hfl] at hL0
  obtain ⟨M, cm, hmv, hcm, hmcell⟩ := hk.mark (by omega)
  have KL : Hid (∀ u', Below u.heap.size u u' → KeepsE X w aj (.slice a0 caps.length c0) m s dv mv dn mk [] u') := fun u' hb => hk.later hb
  have HP : Hid (∀ u', Below u.heap.size u u' → Calls Tryd.prog 13 #[.pointer (some aj)] u' fun e w' => ∃ ay cy, e = .returned (.slice ay s.flows.length cy) ∧ Hid (Below u.heap.size u w') ∧ Hid (ListsAt (fun _ => True) w' (.slice ay s.flows.length cy) s.flows)) := fun u' hb => by
    refine (k_paths hP (hk.later hb) hm).mono ?_
    rintro e w' ⟨y, he, hl, hb2⟩
    obtain ⟨ay, cy, rfl, _⟩ := id hl
    exact ⟨ay, cy, he, Bel.call hb (Nat.le_refl _) hb2, hl.keep (fun _ _ _ => rfl) (fun _ _ _ => trivial)⟩
  have HL : Hid (∀ u' va, ListsAt (fun _ => True) u' va s.flows → Below u.heap.size u u' → Calls Tryd.prog 21 #[va, pv] u' fun e w' => e = .returned (.bool true) ∧ Hid (Below u.heap.size u w')) := fun u' va hva hb => by
    refine (SLists_any s.flows s.flows va pv u' hva (hL0.later hb)).mono ?_
    rintro e w' ⟨he, n, rfl⟩
    rw [eqL_selfM] at he
    exact ⟨he, below_drewN hb _⟩
  have HBy : Hid (∀ u', Below u.heap.size u u' → Calls Tryd.prog 9 #[.pointer (some aj)] u' fun e w' => e = .returned (.int .i64 (mk.getD l 0 : Nat)) ∧ Hid (Below u.heap.size u w')) := fun u' hb => by
    refine (k_bytes hB (hk.later hb) hm).mono ?_
    rintro e w' ⟨he, n, rfl⟩
    rw [hb1] at he
    exact ⟨he, below_drewN hb _⟩
  have HSf : Hid (∀ u', Below u.heap.size u u' → Calls Tryd.prog 14 #[.pointer (some aj)] u' fun e w' => e = .returned (.int .i64 (mk.getD l 0 : Nat)) ∧ Hid (Below u.heap.size u w')) := fun u' hb => by
    refine (k_safe hSf (hk.later hb) hm).mono ?_
    rintro e w' ⟨he, n, rfl⟩
    rw [hb2] at he
    exact ⟨he, below_drewN hb _⟩
  have HSA : Hid (∀ u', Below u.heap.size u u' → u'.cell? ⟨D, l * 2 + 1, none⟩ = some pv ∧ u'.cell? ⟨M, l, none⟩ = some (.int .i64 (mk.getD l 0 : Nat))) := fun u' hb => ⟨(hcell u' hb).2, hmcell u' l hb (by omega)⟩
  obtain ⟨q2, q3⟩ := HSA.out u (Below.refl _ _)
  have hlt : (l : Int) < dn.length := by omega
  have hlt2 : (l : Int) < mk.length := by omega
  have P1 : Hid (Below u.heap.size u u.drew) := (Below.refl _ _).drew
  subst hdv hmv
  obtain ⟨ap, cp, rfl, _⟩ := hL0
  generalize s.flows.length = fl at *
  have h00 : (0 : Int) ≤ (l : Int) := by omega
  generalize ((mk.getD l 0 : Nat) : Int) = z at *
  have hz : (z != z) = false := by simp
  clear hk hK0 hcell hmcell hP hB hSf hfl hd hdn hmk hb1 hb2
  generalize dn.length = dl at *
  generalize mk.length = ml at *
  refine Thru.mk fun J K hJ hK => ?_
  obtain ⟨Y, rfl, hY⟩ := ha.lay
  obtain ⟨e0, e1, e2, e3, e4, e5, e6, e7, e8, e9, e10, e11, -⟩ := hY
  rw [range_lk]
  simp only [e0, e1, e2, e3, e4, e5, e6, e7, e8, e9, e10, e11]
  clear ha e0 e1 e2 e3 e4 e5 e6 e7 e8 e9 e10 e11
  conv => arg 2; whnf
  go_wp2_with fail
  go_region_held3 (fun u' => u'.cell? ⟨D, l * 2 + 1, none⟩ = some (.slice ap fl cp) ∧ u'.cell? ⟨M, l, none⟩ = some (.int .i64 z)) ((refine HSA.out _ ?_; first | exact P1.out | exact Hb1.out | exact Hb2.out | exact Hb3.out | exact Hb4.out))
    (first
      | (go_at_call 13; refine (HP.out _ P1.out).mono ?_; rintro e w1 ⟨ay, cy, rfl, Hb1, Hl1⟩)
      | (go_at_call 21; refine (HL.out _ _ Hl1.out Hb1.out).mono ?_; rintro e w2 ⟨rfl, Hb2⟩)
      | (go_at_call 9; refine (HBy.out _ Hb2.out).mono ?_; rintro e w3 ⟨rfl, Hb3⟩)
      | (go_at_call 14; refine (HSf.out _ Hb3.out).mono ?_; rintro e w4 ⟨rfl, Hb4⟩))
  all_goals
    go_wp2_with fail
    refine Met.intro (hJ _ _ ?_)
    exact ⟨⟨rfl, by kernel_rfl, has_cons rfl (has_cons rfl (has_cons rfl (has_cons rfl (has_cons rfl (has_cons rfl (has_cons rfl (has_cons rfl (has_cons rfl (has_cons rfl (has_cons rfl (has_cons rfl (has_nil))))))))))))⟩, KL.out _ Hb4.out⟩
end
end Ev
end Go.Proofs.YtdldgefahgojaakDoor

/- The law LogKeeps: the rates. -/
namespace Go.Proofs.YtdldgefahgojaakDoor
namespace Ev
open Go.RowKit Fr Ns Ld Fl
set_option linter.unusedSimpArgs false
set_option linter.unusedVariables false

section
variable {X : LogFace} {w : World} {caps : List Int} {paths : List (List Int)} {drops syncs fails keeps : List Int} {a0 a1 a2 a3 a4 a5 : Option Addr} {c0 c1 c2 c3 c4 c5 : Nat} {aj : Addr} {dv mv : Value} {t r k m : Nat} {s : LogS} {dn : List Flows} {mk : List Nat} {a : Act} {u : World}
theorem eqF_selfK (l : List (Int × Int)) : eqF l l = true := by simp [eqF]
set_option maxRecDepth 100000 in
set_option maxHeartbeats 8000000 in
theorem lk_rates {wv : Value} {fs : List (Int × Int)} (hR : LRatesSaid X) (hm : m ≤ 1000) (hfs : fs = okL (ratesLE s.flows) (fill s.caps s.flows).1) (ha : Slots 397 (lkB a0 a1 a2 a3 a4 a5 caps.length paths.length drops.length syncs.length fails.length keeps.length c0 c1 c2 c3 c4 c5 aj dv mv t r [(42, wv), (43, .int .i64 (ratesLE s.flows))]) a) (hk : KeepsE X w aj (.slice a0 caps.length c0) m s dv mv dn mk [] u) (hw : FracsAt (fun _ => True) u wv fs) :
    Lk [1, 1, 1, 1, 1, 1, 1, 1, 1, 1, 1, 1, 1, 1, 1, 1, 1, 0, 1, 0, 0, 1, 0, 0, 1, 1, 1, 1, 1, 1, 1, 1, 1, 1, 1, 1, 1, 1, 1, 1, 1, 0] (fun a' u' => ∃ rv, Slots 397 (lkB a0 a1 a2 a3 a4 a5 caps.length paths.length drops.length syncs.length fails.length keeps.length c0 c1 c2 c3 c4 c5 aj dv mv t r [(42, wv), (43, .int .i64 (ratesLE s.flows)), (44, rv), (45, errV (ratesLE s.flows))]) a' ∧ KeepsE X w aj (.slice a0 caps.length c0) m s dv mv dn mk [] u' ∧ FracsAt (fun _ => True) u' wv fs ∧ FracsAt (fun _ => True) u' rv fs) a u := by
  have HR : Hid (Calls Tryd.prog 8 #[.pointer (some aj)] u fun e w' => ∃ y, e = .returned (.tuple #[y, errV (ratesLE s.flows)]) ∧ Hid (KeepsE X w aj (.slice a0 caps.length c0) m s dv mv dn mk [] w') ∧ Hid (FracsAt (fun _ => True) w' wv fs) ∧ Hid (FracsAt (fun _ => True) w' y fs)) := by
    refine (k_rates hR hk hm).mono ?_
    rintro e w' ⟨y, he, hy, hb⟩
    rw [← hfs] at hy
    exact ⟨y, he, hk.later hb, hw.later hb, hy.keep (fun _ _ _ => rfl) (fun _ _ _ => trivial)⟩
  clear hk hR hw hfs
  generalize errV (ratesLE s.flows) = ev at *
  generalize ratesLE s.flows = re at *
  refine Thru.mk fun J K hJ hK => ?_
  obtain ⟨Y, rfl, hY⟩ := ha.lay
  obtain ⟨e0, e1, e2, e3, e4, e5, e6, e7, e8, e9, e10, e11, e12, -⟩ := hY
  rw [range_lk]
  simp only [e0, e1, e2, e3, e4, e5, e6, e7, e8, e9, e10, e11, e12]
  clear ha e0 e1 e2 e3 e4 e5 e6 e7 e8 e9 e10 e11 e12
  conv => arg 2; whnf
  go_wp2_with fail
  refine HR.out.mono ?_
  rintro e w1 ⟨y, rfl, hk, h1, h2⟩
  clear HR
  go_wp2
  refine Met.intro (hJ _ _ ?_)
  exact ⟨y, ⟨rfl, by kernel_rfl, has_cons rfl (has_cons rfl (has_cons rfl (has_cons rfl (has_cons rfl (has_cons rfl (has_cons rfl (has_cons rfl (has_cons rfl (has_cons rfl (has_cons rfl (has_cons rfl (has_cons rfl (has_cons rfl (has_cons rfl (has_nil)))))))))))))))⟩, hk.out, h1.out, h2.out⟩
set_option maxRecDepth 100000 in
set_option maxHeartbeats 8000000 in
theorem lk_err {wv rv : Value} {ee : Int} {fs : List (Int × Int)} (hg : w.cell? ⟨0, 0, none⟩ = some handleV) (ha : Slots 397 (lkB a0 a1 a2 a3 a4 a5 caps.length paths.length drops.length syncs.length fails.length keeps.length c0 c1 c2 c3 c4 c5 aj dv mv t r [(42, wv), (43, .int .i64 ee), (44, rv), (45, errV ee)]) a) (hk : KeepsE X w aj (.slice a0 caps.length c0) m s dv mv dn mk [] u) (hw : FracsAt (fun _ => True) u wv fs) (hr : FracsAt (fun _ => True) u rv fs) :
    Lk [1, 1, 1, 1, 1, 1, 1, 1, 1, 1, 1, 1, 1, 1, 1, 1, 1, 0, 1, 0, 0, 1, 0, 0, 1, 1, 1, 1, 1, 1, 1, 1, 1, 1, 1, 1, 1, 1, 1, 1, 1, 1, 0] (fun a' u' => Slots 397 (lkB a0 a1 a2 a3 a4 a5 caps.length paths.length drops.length syncs.length fails.length keeps.length c0 c1 c2 c3 c4 c5 aj dv mv t r [(42, wv), (44, rv), (24, .bool true)]) a' ∧ KeepsE X w aj (.slice a0 caps.length c0) m s dv mv dn mk [] u' ∧ FracsAt (fun _ => True) u' wv fs ∧ FracsAt (fun _ => True) u' rv fs) a u := by
  have HE : Hid (Calls Tryd.prog 7 #[errV ee, .int .i64 ee] u fun e w' => e = .returned (.bool true) ∧ Hid (KeepsE X w aj (.slice a0 caps.length c0) m s dv mv dn mk [] w') ∧ Hid (FracsAt (fun _ => True) w' wv fs) ∧ Hid (FracsAt (fun _ => True) w' rv fs)) := by
    refine (Error_any ee ee u (cell_later hk.below hg)).mono ?_
    rintro e w' ⟨he, hb⟩
    rw [beq_self_eq_true] at he
    exact ⟨he, hk.later hb, hw.later hb, hr.later hb⟩
  clear hk hg hw hr
  generalize errV ee = ev at *
  refine Thru.mk fun J K hJ hK => ?_
  obtain ⟨Y, rfl, hY⟩ := ha.lay
  obtain ⟨e0, e1, e2, e3, e4, e5, e6, e7, e8, e9, e10, e11, e12, e13, e14, -⟩ := hY
  rw [range_lk]
  simp only [e0, e1, e2, e3, e4, e5, e6, e7, e8, e9, e10, e11, e12, e13, e14]
  clear ha e0 e1 e2 e3 e4 e5 e6 e7 e8 e9 e10 e11 e12 e13 e14
  conv => arg 2; whnf
  go_wp2_with fail
  refine HE.out.mono ?_
  rintro e w1 ⟨rfl, hk, h1, h2⟩
  clear HE
  go_wp2
  refine Met.intro (hJ _ _ ?_)
  exact ⟨⟨rfl, by kernel_rfl, has_cons rfl (has_cons rfl (has_cons rfl (has_cons rfl (has_cons rfl (has_cons rfl (has_cons rfl (has_cons rfl (has_cons rfl (has_cons rfl (has_cons rfl (has_cons rfl (has_cons rfl (has_cons rfl (has_nil))))))))))))))⟩, hk.out, h1.out, h2.out⟩
set_option maxRecDepth 100000 in
set_option maxHeartbeats 8000000 in
theorem lk_end {wv rv : Value} {fs : List (Int × Int)} (ha : Slots 397 (lkB a0 a1 a2 a3 a4 a5 caps.length paths.length drops.length syncs.length fails.length keeps.length c0 c1 c2 c3 c4 c5 aj dv mv t r [(42, wv), (44, rv), (24, .bool true)]) a) (hk : KeepsE X w aj (.slice a0 caps.length c0) m s dv mv dn mk [] u) (hw : FracsAt (fun _ => True) u wv fs) (hr : FracsAt (fun _ => True) u rv fs) :
    Lk [1, 1, 1, 1, 1, 1, 1, 1, 1, 1, 1, 1, 1, 1, 1, 1, 1, 0, 1, 0, 0, 1, 0, 0, 1, 1, 1, 1, 1, 1, 1, 1, 1, 1, 1, 1, 1, 1, 1, 1, 1, 1, 1] (fun a' u' => Slots 397 (lkB a0 a1 a2 a3 a4 a5 caps.length paths.length drops.length syncs.length fails.length keeps.length c0 c1 c2 c3 c4 c5 aj dv mv t r []) a' ∧ KeepsE X w aj (.slice a0 caps.length c0) m s dv mv dn mk [] u') a u := by
  have HF : Hid (Calls Tryd.prog 23 #[rv, wv] u fun e w' => e = .returned (.bool true) ∧ Hid (KeepsE X w aj (.slice a0 caps.length c0) m s dv mv dn mk [] w')) := by
    refine (SFracs_any fs fs rv wv u hr hw).mono ?_
    rintro e w' ⟨he, n, rfl⟩
    rw [eqF_selfK] at he
    exact ⟨he, hk.later (below_drewN (Below.refl _ _) _)⟩
  clear hk hw hr
  refine Thru.mk fun J K hJ hK => ?_
  obtain ⟨Y, rfl, hY⟩ := ha.lay
  obtain ⟨e0, e1, e2, e3, e4, e5, e6, e7, e8, e9, e10, e11, e12, e13, -⟩ := hY
  rw [range_lk]
  simp only [e0, e1, e2, e3, e4, e5, e6, e7, e8, e9, e10, e11, e12, e13]
  clear ha e0 e1 e2 e3 e4 e5 e6 e7 e8 e9 e10 e11 e12 e13
  conv => arg 2; whnf
  go_wp2_with fail
  refine HF.out.mono ?_
  rintro e w1 ⟨rfl, hk⟩
  clear HF
  go_wp2
  refine Met.intro (hJ _ _ ?_)
  exact ⟨⟨rfl, by kernel_rfl, has_cons rfl (has_cons rfl (has_cons rfl (has_cons rfl (has_cons rfl (has_cons rfl (has_cons rfl (has_cons rfl (has_cons rfl (has_cons rfl (has_cons rfl (has_nil)))))))))))⟩, hk.out⟩
end
end Ev
end Go.Proofs.YtdldgefahgojaakDoor

/- The law LogKeeps: what the rates should be. -/
namespace Go.Proofs.YtdldgefahgojaakDoor
namespace Ev
open Go.RowKit Fr Ns Ld Fl
set_option linter.unusedSimpArgs false
set_option linter.unusedVariables false

section
variable {X : LogFace} {w : World} {caps : List Int} {paths : List (List Int)} {drops syncs fails keeps : List Int} {a0 a1 a2 a3 a4 a5 : Option Addr} {c0 c1 c2 c3 c4 c5 : Nat} {aj : Addr} {dv mv : Value} {t r k m : Nat} {s : LogS} {dn : List Flows} {mk : List Nat} {a : Act} {u : World}
set_option maxRecDepth 100000 in
set_option maxHeartbeats 8000000 in
theorem lk_want0 {l : Nat} (ha : Slots 397 (lkB a0 a1 a2 a3 a4 a5 caps.length paths.length drops.length syncs.length fails.length keeps.length c0 c1 c2 c3 c4 c5 aj dv mv t r [(40, .int .i64 (l : Nat))]) a) :
    Lk [1, 1, 1, 1, 1, 1, 1, 1, 1, 1, 1, 1, 1, 1, 1, 1, 1, 0, 1, 0, 0, 1, 0, 0, 1, 1, 1, 1, 1, 1, 1, 1, 1, 1, 1, 1, 1, 1, 0] (fun a' u' => Slots 397 (lkB a0 a1 a2 a3 a4 a5 caps.length paths.length drops.length syncs.length fails.length keeps.length c0 c1 c2 c3 c4 c5 aj dv mv t r [(40, .int .i64 (l : Nat)), (42, .slice none 0 0)]) a' ∧ u' = u) a u := by
  refine Thru.mk fun J K hJ hK => ?_
  obtain ⟨Y, rfl, hY⟩ := ha.lay
  obtain ⟨e0, e1, e2, e3, e4, e5, e6, e7, e8, e9, e10, e11, -⟩ := hY
  rw [range_lk]
  simp only [e0, e1, e2, e3, e4, e5, e6, e7, e8, e9, e10, e11]
  clear ha e0 e1 e2 e3 e4 e5 e6 e7 e8 e9 e10 e11
  conv => arg 2; whnf
  go_wp2
  refine Met.intro (hJ _ _ ?_)
  exact ⟨⟨rfl, by kernel_rfl, has_cons rfl (has_cons rfl (has_cons rfl (has_cons rfl (has_cons rfl (has_cons rfl (has_cons rfl (has_cons rfl (has_cons rfl (has_cons rfl (has_cons rfl (has_cons rfl (has_cons rfl (has_nil)))))))))))))⟩, rfl⟩
set_option maxRecDepth 100000 in
set_option maxHeartbeats 8000000 in
theorem lk_e5 {l : Nat} {wv : Value} (ha : Slots 397 (lkB a0 a1 a2 a3 a4 a5 caps.length paths.length drops.length syncs.length fails.length keeps.length c0 c1 c2 c3 c4 c5 aj dv mv t r [(40, .int .i64 (l : Nat)), (42, wv)]) a) :
    Lk [1, 1, 1, 1, 1, 1, 1, 1, 1, 1, 1, 1, 1, 1, 1, 1, 1, 0, 1, 0, 0, 1, 0, 0, 1, 1, 1, 1, 1, 1, 1, 1, 1, 1, 1, 1, 1, 1, 1, 0] (fun a' u' => Slots 397 (lkB a0 a1 a2 a3 a4 a5 caps.length paths.length drops.length syncs.length fails.length keeps.length c0 c1 c2 c3 c4 c5 aj dv mv t r [(40, .int .i64 (l : Nat)), (42, wv), (43, .int .i64 5)]) a' ∧ u' = u) a u := by
  refine Thru.mk fun J K hJ hK => ?_
  obtain ⟨Y, rfl, hY⟩ := ha.lay
  obtain ⟨e0, e1, e2, e3, e4, e5, e6, e7, e8, e9, e10, e11, e12, -⟩ := hY
  rw [range_lk]
  simp only [e0, e1, e2, e3, e4, e5, e6, e7, e8, e9, e10, e11, e12]
  clear ha e0 e1 e2 e3 e4 e5 e6 e7 e8 e9 e10 e11 e12
  conv => arg 2; whnf
  go_wp2
  refine Met.intro (hJ _ _ ?_)
  exact ⟨⟨rfl, by kernel_rfl, has_cons rfl (has_cons rfl (has_cons rfl (has_cons rfl (has_cons rfl (has_cons rfl (has_cons rfl (has_cons rfl (has_cons rfl (has_cons rfl (has_cons rfl (has_cons rfl (has_cons rfl (has_cons rfl (has_nil))))))))))))))⟩, rfl⟩
set_option maxRecDepth 100000 in
set_option maxHeartbeats 8000000 in
theorem lk_some {l : Nat} {wv : Value} (hd : dn.length = l + 1) (ha : Slots 397 (lkB a0 a1 a2 a3 a4 a5 caps.length paths.length drops.length syncs.length fails.length keeps.length c0 c1 c2 c3 c4 c5 aj dv mv t r [(40, .int .i64 (l : Nat)), (42, wv), (43, .int .i64 5)]) a) (hk : KeepsE X w aj (.slice a0 caps.length c0) m s dv mv dn mk [] u) :
    Lk [1, 1, 1, 1, 1, 1, 1, 1, 1, 1, 1, 1, 1, 1, 1, 1, 1, 0, 1, 0, 0, 1, 0, 0, 1, 1, 1, 1, 1, 1, 1, 1, 1, 1, 1, 1, 1, 1, 1, 1, 0, 0] (fun a' u' => ∃ b : Bool, Slots 397 (lkB a0 a1 a2 a3 a4 a5 caps.length paths.length drops.length syncs.length fails.length keeps.length c0 c1 c2 c3 c4 c5 aj dv mv t r [(40, .int .i64 (l : Nat)), (42, wv), (43, .int .i64 5), (372, .bool b)]) a' ∧ u' = u ∧ (b = true ↔ 0 < (dn.getD l []).length)) a u := by
  obtain ⟨D, c, pv, hdv, hc, hcell, F0, hK0, hL0⟩ := hk.last (i := l) (by omega)
  have q2 := (hcell u (Below.refl _ _)).2
  have hlt : (l : Int) < dn.length := by omega
  have h00 : (0 : Int) ≤ (l : Int) := by omega
  subst hdv
  obtain ⟨ap, cp, rfl, _⟩ := hL0
  clear hk hK0 hcell hd
  generalize (dn.getD l []).length = fl at *
  generalize dn.length = dl at *
  refine Thru.mk fun J K hJ hK => ?_
  obtain ⟨Y, rfl, hY⟩ := ha.lay
  obtain ⟨e0, e1, e2, e3, e4, e5, e6, e7, e8, e9, e10, e11, e12, e13, -⟩ := hY
  rw [range_lk]
  simp only [e0, e1, e2, e3, e4, e5, e6, e7, e8, e9, e10, e11, e12, e13]
  clear ha e0 e1 e2 e3 e4 e5 e6 e7 e8 e9 e10 e11 e12 e13
  conv => arg 2; whnf
  go_wp2
  refine Met.intro (hJ _ _ ?_)
  exact ⟨_, ⟨rfl, by kernel_rfl, has_cons rfl (has_cons rfl (has_cons rfl (has_cons rfl (has_cons rfl (has_cons rfl (has_cons rfl (has_cons rfl (has_cons rfl (has_cons rfl (has_cons rfl (has_cons rfl (has_cons rfl (has_cons rfl (has_cons rfl (has_nil)))))))))))))))⟩, rfl, by simp⟩
set_option maxRecDepth 100000 in
set_option maxHeartbeats 8000000 in
theorem lk_fill {l : Nat} {wv : Value} (hv0 : IntsAt (fun b => b < w.heap.size) w (.slice a0 caps.length c0) caps) (hcap : caps.length ≤ 12) (hgood : Fl.Good caps (dn.getD l [])) (hd : dn.length = l + 1) (ha : Slots 397 (lkB a0 a1 a2 a3 a4 a5 caps.length paths.length drops.length syncs.length fails.length keeps.length c0 c1 c2 c3 c4 c5 aj dv mv t r [(40, .int .i64 (l : Nat)), (42, wv), (43, .int .i64 5)]) a) (hk : KeepsE X w aj (.slice a0 caps.length c0) m s dv mv dn mk [] u) :
    Lk [1, 1, 1, 1, 1, 1, 1, 1, 1, 1, 1, 1, 1, 1, 1, 1, 1, 0, 1, 0, 0, 1, 0, 0, 1, 1, 1, 1, 1, 1, 1, 1, 1, 1, 1, 1, 1, 1, 1, 1, 0, 1, 0, 0] (fun a' u' => ∃ wv', Slots 397 (lkB a0 a1 a2 a3 a4 a5 caps.length paths.length drops.length syncs.length fails.length keeps.length c0 c1 c2 c3 c4 c5 aj dv mv t r [(40, .int .i64 (l : Nat)), (42, wv')]) a' ∧ KeepsE X w aj (.slice a0 caps.length c0) m s dv mv dn mk [] u' ∧ FracsAt (fun _ => True) u' wv' (fill caps (dn.getD l [])).1) a u := by
  obtain ⟨D, c, pv, hdv, hc, hcell, F0, hK0, hL0⟩ := hk.last (i := l) (by omega)
  obtain ⟨q1, q2⟩ := hcell u (Below.refl _ _)
  have hlt : (l : Int) < dn.length := by omega
  have h00 : (0 : Int) ≤ (l : Int) := by omega
  have HF : Hid (Calls Tryd.prog 22 #[.agg #[(.slice a0 caps.length c0), pv]] u fun e w' => ∃ y z, e = .returned (.tuple #[y, z]) ∧ Hid (KeepsE X w aj (.slice a0 caps.length c0) m s dv mv dn mk [] w') ∧ Hid (FracsAt (fun _ => True) w' y (fill caps (dn.getD l [])).1)) := by
    refine (RFill_any (Q := fun _ => True) caps (dn.getD l []) _ u ⟨_, _, rfl, (hv0.later hk.below).keep (fun _ _ _ => rfl) (fun _ _ _ => trivial), hL0.keep (fun _ _ _ => rfl) (fun _ _ _ => trivial)⟩ hgood hcap).mono ?_
    rintro e w' ⟨y, z, he, hy, hz, hb⟩
    exact ⟨y, z, he, hk.later hb, hy.keep (fun _ _ _ => rfl) (fun _ _ _ => trivial)⟩
  subst hdv
  obtain ⟨ap, cp, rfl, _⟩ := hL0
  clear hk hK0 hcell hd hgood hv0
  generalize dn.getD l [] = fl at *
  generalize dn.length = dl at *
  refine Thru.mk fun J K hJ hK => ?_
  obtain ⟨Y, rfl, hY⟩ := ha.lay
  obtain ⟨e0, e1, e2, e3, e4, e5, e6, e7, e8, e9, e10, e11, e12, e13, -⟩ := hY
  rw [range_lk]
  simp only [e0, e1, e2, e3, e4, e5, e6, e7, e8, e9, e10, e11, e12, e13]
  clear ha e0 e1 e2 e3 e4 e5 e6 e7 e8 e9 e10 e11 e12 e13
  conv => arg 2; whnf
  go_wp2_with fail
  refine HF.out.mono ?_
  rintro e w1 ⟨y, z, rfl, hk, hy⟩
  clear HF
  go_wp2
  refine Met.intro (hJ _ _ ?_)
  exact ⟨y, ⟨rfl, by kernel_rfl, has_cons rfl (has_cons rfl (has_cons rfl (has_cons rfl (has_cons rfl (has_cons rfl (has_cons rfl (has_cons rfl (has_cons rfl (has_cons rfl (has_cons rfl (has_cons rfl (has_cons rfl (has_nil)))))))))))))⟩, hk.out, hy.out⟩
set_option maxRecDepth 100000 in
set_option maxHeartbeats 8000000 in
theorem lk_e00 {l : Nat} {wv : Value} (ha : Slots 397 (lkB a0 a1 a2 a3 a4 a5 caps.length paths.length drops.length syncs.length fails.length keeps.length c0 c1 c2 c3 c4 c5 aj dv mv t r [(40, .int .i64 (l : Nat)), (42, wv)]) a) :
    Lk [1, 1, 1, 1, 1, 1, 1, 1, 1, 1, 1, 1, 1, 1, 1, 1, 1, 0, 1, 0, 0, 1, 0, 0, 1, 1, 1, 1, 1, 1, 1, 1, 1, 1, 1, 1, 1, 1, 1, 1, 0, 1, 0, 1] (fun a' u' => Slots 397 (lkB a0 a1 a2 a3 a4 a5 caps.length paths.length drops.length syncs.length fails.length keeps.length c0 c1 c2 c3 c4 c5 aj dv mv t r [(42, wv), (43, .int .i64 0)]) a' ∧ u' = u) a u := by
  refine Thru.mk fun J K hJ hK => ?_
  obtain ⟨Y, rfl, hY⟩ := ha.lay
  obtain ⟨e0, e1, e2, e3, e4, e5, e6, e7, e8, e9, e10, e11, e12, -⟩ := hY
  rw [range_lk]
  simp only [e0, e1, e2, e3, e4, e5, e6, e7, e8, e9, e10, e11, e12]
  clear ha e0 e1 e2 e3 e4 e5 e6 e7 e8 e9 e10 e11 e12
  conv => arg 2; whnf
  go_wp2
  refine Met.intro (hJ _ _ ?_)
  exact ⟨⟨rfl, by kernel_rfl, has_cons rfl (has_cons rfl (has_cons rfl (has_cons rfl (has_cons rfl (has_cons rfl (has_cons rfl (has_cons rfl (has_cons rfl (has_cons rfl (has_cons rfl (has_cons rfl (has_cons rfl (has_nil)))))))))))))⟩, rfl⟩
end
end Ev
end Go.Proofs.YtdldgefahgojaakDoor

/- The law LogKeeps: the loop that looks what is left; what the rates should be. -/
namespace Go.Proofs.YtdldgefahgojaakDoor
namespace Ev
open Go.RowKit Fr Ns Ld Fl
set_option linter.unusedSimpArgs false
set_option linter.unusedVariables false

section
variable {X : LogFace} {w : World} {caps : List Int} {paths : List (List Int)} {drops syncs fails keeps : List Int} {a0 a1 a2 a3 a4 a5 : Option Addr} {c0 c1 c2 c3 c4 c5 : Nat} {aj : Addr} {dv mv : Value} {t r k m : Nat} {s : LogS} {dn : List Flows} {mk : List Nat} {a : Act} {u : World}
theorem lk_loop3 {H : Nat} (hl : mk.length ≤ 1000) (hpos : 0 < mk.length) (ha : Slots 397 (lkB a0 a1 a2 a3 a4 a5 caps.length paths.length drops.length syncs.length fails.length keeps.length c0 c1 c2 c3 c4 c5 aj dv mv t r [(39, .int .i64 (H : Nat)), (40, .int .i64 0), (41, .int .i64 0)]) a) (hk : KeepsE X w aj (.slice a0 caps.length c0) m s dv mv dn mk [] u) :
    Lk [1, 1, 1, 1, 1, 1, 1, 1, 1, 1, 1, 1, 1, 1, 1, 1, 1, 0, 1, 0, 0, 1, 0, 0, 1, 1, 1, 1, 1, 1, 1, 1, 1, 1, 0, 1] (fun a' u' => Slots 397 (lkB a0 a1 a2 a3 a4 a5 caps.length paths.length drops.length syncs.length fails.length keeps.length c0 c1 c2 c3 c4 c5 aj dv mv t r [(40, .int .i64 ((scanK mk H mk.length : Nat)))]) a' ∧ u' = u) a u := by
  obtain ⟨M, c, hmv, hc, hcell⟩ := hk.mark hpos
  clear hcell
  subst hmv
  refine Lk.loop (p0 := [1, 1, 1, 1, 1, 1, 1, 1, 1, 1, 1, 1, 1, 1, 1, 1, 1, 0, 1, 0, 0, 1, 0, 0, 1, 1, 1, 1, 1, 1, 1, 1, 1, 1, 0, 1, 0, 0]) (id := 4) (by kernel_rfl) (fun a' u' => ∃ i : Nat, i ≤ mk.length ∧ Slots 397 (lkB a0 a1 a2 a3 a4 a5 caps.length paths.length drops.length syncs.length fails.length keeps.length c0 c1 c2 c3 c4 c5 aj dv (.slice (some ⟨M, 0, none⟩) mk.length c) t r [(39, .int .i64 (H : Nat)), (40, .int .i64 ((scanK mk H i : Nat))), (41, .int .i64 (i : Nat))]) a' ∧ u' = u) (fun a' _ => mk.length - (intOf (a'.tmps.toList.getD 41 undef)).toNat) ⟨0, by omega, ha, rfl⟩ ?_
  rintro a1 u1 ⟨i, hi, hs, rfl⟩
  by_cases h : i < mk.length
  · left
    refine Lk.seq (p0 := [1, 1, 1, 1, 1, 1, 1, 1, 1, 1, 1, 1, 1, 1, 1, 1, 1, 0, 1, 0, 0, 1, 0, 0, 1, 1, 1, 1, 1, 1, 1, 1, 1, 1, 0, 1, 0, 0, 0]) (p1 := [1, 1, 1, 1, 1, 1, 1, 1, 1, 1, 1, 1, 1, 1, 1, 1, 1, 0, 1, 0, 0, 1, 0, 0, 1, 1, 1, 1, 1, 1, 1, 1, 1, 1, 0, 1, 0, 0, 1]) (by kernel_rfl) (lk_in3 h hs) ?_
    rintro a2 u2 ⟨hs2, rfl⟩
    refine Lk.seq (p0 := [1, 1, 1, 1, 1, 1, 1, 1, 1, 1, 1, 1, 1, 1, 1, 1, 1, 0, 1, 0, 0, 1, 0, 0, 1, 1, 1, 1, 1, 1, 1, 1, 1, 1, 0, 1, 0, 0, 1, 0]) (p1 := [1, 1, 1, 1, 1, 1, 1, 1, 1, 1, 1, 1, 1, 1, 1, 1, 1, 0, 1, 0, 0, 1, 0, 0, 1, 1, 1, 1, 1, 1, 1, 1, 1, 1, 0, 1, 0, 0, 1, 1]) (by kernel_rfl) (Lk.block (p0 := [1, 1, 1, 1, 1, 1, 1, 1, 1, 1, 1, 1, 1, 1, 1, 1, 1, 0, 1, 0, 0, 1, 0, 0, 1, 1, 1, 1, 1, 1, 1, 1, 1, 1, 0, 1, 0, 0, 1, 0, 0]) (id := 5) (by kernel_rfl) (lk_scan h hs2 hk)) ?_
    rintro a3 u3 ⟨hs3, rfl⟩
    refine (lk_inc3 (u := u3) (by omega) hs3).mono ?_
    rintro a4 u4 ⟨hs4, rfl⟩
    refine ⟨⟨i + 1, by omega, hs4, rfl⟩, ?_⟩
    have e1 := slot_int (hs.2.2.2.2.2.2.2.2.2.2.2.2.2.2.2.1)
    have e2 := slot_int (hs4.2.2.2.2.2.2.2.2.2.2.2.2.2.2.2.1)
    show mk.length - (intOf (a4.tmps.toList.getD 41 undef)).toNat < mk.length - (intOf (a1.tmps.toList.getD 41 undef)).toNat
    rw [e1, e2]
    omega
  · right
    obtain rfl : i = mk.length := by omega
    refine LkX.seq (p0 := [1, 1, 1, 1, 1, 1, 1, 1, 1, 1, 1, 1, 1, 1, 1, 1, 1, 0, 1, 0, 0, 1, 0, 0, 1, 1, 1, 1, 1, 1, 1, 1, 1, 1, 0, 1, 0, 0, 0]) (p1 := [1, 1, 1, 1, 1, 1, 1, 1, 1, 1, 1, 1, 1, 1, 1, 1, 1, 0, 1, 0, 0, 1, 0, 0, 1, 1, 1, 1, 1, 1, 1, 1, 1, 1, 0, 1, 0, 0, 1]) (by kernel_rfl) ((lk_out3 (by omega) hs).mono ?_)
    rintro a2 u2 ⟨hs2, rfl⟩
    exact ⟨⟨hs2.1, hs2.2.1, has_cons hs2.2.2.1 (has_cons hs2.2.2.2.1 (has_cons hs2.2.2.2.2.1 (has_cons hs2.2.2.2.2.2.1 (has_cons hs2.2.2.2.2.2.2.1 (has_cons hs2.2.2.2.2.2.2.2.1 (has_cons hs2.2.2.2.2.2.2.2.2.1 (has_cons hs2.2.2.2.2.2.2.2.2.2.1 (has_cons hs2.2.2.2.2.2.2.2.2.2.2.1 (has_cons hs2.2.2.2.2.2.2.2.2.2.2.2.1 (has_cons hs2.2.2.2.2.2.2.2.2.2.2.2.2.1 (has_cons hs2.2.2.2.2.2.2.2.2.2.2.2.2.2.2.1 (has_nil))))))))))))⟩, rfl⟩
theorem good_log {s : LogS} (h : LogOk s) (hp : 0 < s.flows.length) : Fl.Good s.caps s.flows ∧ s.caps.length ≤ 12 := by
  obtain ⟨h6, hpa⟩ := h.flows_right
  have hl := h.caps
  have hcl : 0 < s.caps.length ∧ s.caps.length ≤ 6 := by
    unfold linksE at hl
    split at hl
    · omega
    · split at hl <;> omega
  refine ⟨good_of_net ?_, by omega⟩
  rw [netE, if_neg (by omega), if_neg (by omega), if_pos hl]
  exact (pathsFrom_iff _ _).2 hpa
theorem lk_want {l : Nat} (hv0 : IntsAt (fun b => b < w.heap.size) w (.slice a0 caps.length c0) caps) (hd : dn.length = l + 1) (hdn : s.done = dn) (hc : s.caps = caps) (ha : Slots 397 (lkB a0 a1 a2 a3 a4 a5 caps.length paths.length drops.length syncs.length fails.length keeps.length c0 c1 c2 c3 c4 c5 aj dv mv t r [(40, .int .i64 (l : Nat)), (42, .slice none 0 0), (43, .int .i64 5)]) a) (hk : KeepsE X w aj (.slice a0 caps.length c0) m s dv mv dn mk [] u) :
    Lk [1, 1, 1, 1, 1, 1, 1, 1, 1, 1, 1, 1, 1, 1, 1, 1, 1, 0, 1, 0, 0, 1, 0, 0, 1, 1, 1, 1, 1, 1, 1, 1, 1, 1, 1, 1, 1, 1, 1, 1, 0] (fun a' u' => ∃ wv, Slots 397 (lkB a0 a1 a2 a3 a4 a5 caps.length paths.length drops.length syncs.length fails.length keeps.length c0 c1 c2 c3 c4 c5 aj dv mv t r [(42, wv), (43, .int .i64 (ratesLE s.flows))]) a' ∧ KeepsE X w aj (.slice a0 caps.length c0) m s dv mv dn mk [] u' ∧ FracsAt (fun _ => True) u' wv (okL (ratesLE s.flows) (fill s.caps s.flows).1)) a u := by
  have hfl : dn.getD l [] = s.flows := by
    show _ = flowsL s.done
    rw [flowsL, hdn, hd]; rfl
  refine Lk.seq (p0 := [1, 1, 1, 1, 1, 1, 1, 1, 1, 1, 1, 1, 1, 1, 1, 1, 1, 0, 1, 0, 0, 1, 0, 0, 1, 1, 1, 1, 1, 1, 1, 1, 1, 1, 1, 1, 1, 1, 1, 1, 0, 0]) (p1 := [1, 1, 1, 1, 1, 1, 1, 1, 1, 1, 1, 1, 1, 1, 1, 1, 1, 0, 1, 0, 0, 1, 0, 0, 1, 1, 1, 1, 1, 1, 1, 1, 1, 1, 1, 1, 1, 1, 1, 1, 0, 1]) (by kernel_rfl) (lk_some hd ha hk) ?_
  rintro a1 u1 ⟨b, hs1, rfl, hb⟩
  rw [hfl] at hb
  refine Lk.cond (k := 372) (p0 := [1, 1, 1, 1, 1, 1, 1, 1, 1, 1, 1, 1, 1, 1, 1, 1, 1, 0, 1, 0, 0, 1, 0, 0, 1, 1, 1, 1, 1, 1, 1, 1, 1, 1, 1, 1, 1, 1, 1, 1, 0, 1, 0]) (p1 := [1, 1, 1, 1, 1, 1, 1, 1, 1, 1, 1, 1, 1, 1, 1, 1, 1, 0, 1, 0, 0, 1, 0, 0, 1, 1, 1, 1, 1, 1, 1, 1, 1, 1, 1, 1, 1, 1, 1, 1, 0, 1, 1]) (by kernel_rfl) (hs1.2.2.2.2.2.2.2.2.2.2.2.2.2.2.2.2.1) (fun hbt => ?_) (fun hbf => ?_)
  · have hp := hb.1 hbt
    have e0 : ratesLE s.flows = 0 := by rw [ratesLE, if_neg (by omega)]
    obtain ⟨g1, g2⟩ := good_log hk.ok hp
    rw [e0, okL_0, ← hfl, hc]
    rw [hc, ← hfl] at g1
    rw [hc] at g2
    refine Lk.seq (p0 := [1, 1, 1, 1, 1, 1, 1, 1, 1, 1, 1, 1, 1, 1, 1, 1, 1, 0, 1, 0, 0, 1, 0, 0, 1, 1, 1, 1, 1, 1, 1, 1, 1, 1, 1, 1, 1, 1, 1, 1, 0, 1, 0, 0]) (p1 := [1, 1, 1, 1, 1, 1, 1, 1, 1, 1, 1, 1, 1, 1, 1, 1, 1, 0, 1, 0, 0, 1, 0, 0, 1, 1, 1, 1, 1, 1, 1, 1, 1, 1, 1, 1, 1, 1, 1, 1, 0, 1, 0, 1]) (by kernel_rfl) (lk_fill hv0 g2 g1 hd ⟨hs1.1, hs1.2.1, has_cons hs1.2.2.1 (has_cons hs1.2.2.2.1 (has_cons hs1.2.2.2.2.1 (has_cons hs1.2.2.2.2.2.1 (has_cons hs1.2.2.2.2.2.2.1 (has_cons hs1.2.2.2.2.2.2.2.1 (has_cons hs1.2.2.2.2.2.2.2.2.1 (has_cons hs1.2.2.2.2.2.2.2.2.2.1 (has_cons hs1.2.2.2.2.2.2.2.2.2.2.1 (has_cons hs1.2.2.2.2.2.2.2.2.2.2.2.1 (has_cons hs1.2.2.2.2.2.2.2.2.2.2.2.2.1 (has_cons hs1.2.2.2.2.2.2.2.2.2.2.2.2.2.1 (has_cons hs1.2.2.2.2.2.2.2.2.2.2.2.2.2.2.1 (has_cons hs1.2.2.2.2.2.2.2.2.2.2.2.2.2.2.2.1 (has_nil))))))))))))))⟩ hk) ?_
    rintro a2 u2 ⟨wv, hs2, hk2, hf2⟩
    refine (lk_e00 hs2).mono ?_
    rintro a3 u3 ⟨hs3, rfl⟩
    exact ⟨wv, hs3, hk2, hf2⟩
  · have hz : s.flows.length = 0 := by
      by_cases h : 0 < s.flows.length
      · rw [hb.2 h] at hbf; cases hbf
      · omega
    have e0 : ratesLE s.flows = 5 := by rw [ratesLE, if_pos hz]
    rw [e0]
    exact Lk.skip (by kernel_rfl) ⟨_, ⟨hs1.1, hs1.2.1, has_cons hs1.2.2.1 (has_cons hs1.2.2.2.1 (has_cons hs1.2.2.2.2.1 (has_cons hs1.2.2.2.2.2.1 (has_cons hs1.2.2.2.2.2.2.1 (has_cons hs1.2.2.2.2.2.2.2.1 (has_cons hs1.2.2.2.2.2.2.2.2.1 (has_cons hs1.2.2.2.2.2.2.2.2.2.1 (has_cons hs1.2.2.2.2.2.2.2.2.2.2.1 (has_cons hs1.2.2.2.2.2.2.2.2.2.2.2.1 (has_cons hs1.2.2.2.2.2.2.2.2.2.2.2.2.1 (has_cons hs1.2.2.2.2.2.2.2.2.2.2.2.2.2.2.1 (has_cons hs1.2.2.2.2.2.2.2.2.2.2.2.2.2.2.2.1 (has_nil)))))))))))))⟩, hk, fracs_nil _ _⟩
end
end Ev
end Go.Proofs.YtdldgefahgojaakDoor

/- The law LogKeeps: behind the inner loop. -/
namespace Go.Proofs.YtdldgefahgojaakDoor
namespace Ev
open Go.RowKit Fr Ns Ld Fl
set_option linter.unusedSimpArgs false
set_option linter.unusedVariables false

section
variable {X : LogFace} {w : World} {caps : List Int} {paths : List (List Int)} {drops syncs fails keeps : List Int} {a0 a1 a2 a3 a4 a5 : Option Addr} {c0 c1 c2 c3 c4 c5 : Nat} {aj : Addr} {dv mv : Value} {t r k m : Nat} {s : LogS} {dn : List Flows} {mk : List Nat} {a : Act} {u : World}
theorem lk_tail (hC : LCrashSaid X) (hB : LBytesSaid X) (hSf : LSafeSaid X) (hP : LPathsSaid X) (hR : LRatesSaid X) (hg : w.cell? ⟨0, 0, none⟩ = some handleV) (hv0 : IntsAt (fun b => b < w.heap.size) w (.slice a0 caps.length c0) caps) (hv5 : IntsAt (fun b => b < w.heap.size) w (.slice a5 keeps.length c5) keeps) (hm : m ≤ 1000) (hc : s.caps = caps) (ha : Slots 397 (lkB a0 a1 a2 a3 a4 a5 caps.length paths.length drops.length syncs.length fails.length keeps.length c0 c1 c2 c3 c4 c5 aj dv mv t r []) a) (hk : KeepsE X w aj (.slice a0 caps.length c0) m s dv mv s.done s.marks [] u) :
    Lk [1, 1, 1, 1, 1, 1, 1, 1, 1, 1, 1, 1, 1, 1, 1, 1, 1, 0, 1, 0, 0, 1, 0, 0, 1, 1] (fun a' u' => ∃ (s' : LogS) (dv' mv' : Value), Slots 397 (lkB a0 a1 a2 a3 a4 a5 caps.length paths.length drops.length syncs.length fails.length keeps.length c0 c1 c2 c3 c4 c5 aj dv' mv' t r []) a' ∧ KeepsE X w aj (.slice a0 caps.length c0) m s' dv' mv' s'.done s'.marks [] u' ∧ s'.stopped = false ∧ s'.caps = caps) a u := by
  have hok := hk.ok
  have hlen := hok.len
  have hpos := hok.pos
  have hfew := hk.few
  have hbl := hok.bytes_le
  refine Lk.seq (p0 := [1, 1, 1, 1, 1, 1, 1, 1, 1, 1, 1, 1, 1, 1, 1, 1, 1, 0, 1, 0, 0, 1, 0, 0, 1, 1, 0]) (p1 := [1, 1, 1, 1, 1, 1, 1, 1, 1, 1, 1, 1, 1, 1, 1, 1, 1, 0, 1, 0, 0, 1, 0, 0, 1, 1, 1]) (by kernel_rfl) (lk_keep0 ha) ?_
  rintro ac1 u1 ⟨hs1, rfl⟩
  refine Lk.seq (p0 := [1, 1, 1, 1, 1, 1, 1, 1, 1, 1, 1, 1, 1, 1, 1, 1, 1, 0, 1, 0, 0, 1, 0, 0, 1, 1, 1, 0]) (p1 := [1, 1, 1, 1, 1, 1, 1, 1, 1, 1, 1, 1, 1, 1, 1, 1, 1, 0, 1, 0, 0, 1, 0, 0, 1, 1, 1, 1]) (by kernel_rfl) (lk_keep hv5 hk.below hs1) ?_
  rintro ac2 u2 ⟨kp, hs2, rfl⟩
  refine Lk.seq (p0 := [1, 1, 1, 1, 1, 1, 1, 1, 1, 1, 1, 1, 1, 1, 1, 1, 1, 0, 1, 0, 0, 1, 0, 0, 1, 1, 1, 1, 0]) (p1 := [1, 1, 1, 1, 1, 1, 1, 1, 1, 1, 1, 1, 1, 1, 1, 1, 1, 0, 1, 0, 0, 1, 0, 0, 1, 1, 1, 1, 1]) (by kernel_rfl) (lk_all hB hm hs2 hk) ?_
  rintro ac3 u3 ⟨hs3, hk3⟩
  refine Lk.seq (p0 := [1, 1, 1, 1, 1, 1, 1, 1, 1, 1, 1, 1, 1, 1, 1, 1, 1, 0, 1, 0, 0, 1, 0, 0, 1, 1, 1, 1, 1, 0]) (p1 := [1, 1, 1, 1, 1, 1, 1, 1, 1, 1, 1, 1, 1, 1, 1, 1, 1, 0, 1, 0, 0, 1, 0, 0, 1, 1, 1, 1, 1, 1]) (by kernel_rfl) (lk_was hSf hm hs3 hk3) ?_
  rintro ac4 u4 ⟨hs4, hk4⟩
  refine Lk.seq (p0 := [1, 1, 1, 1, 1, 1, 1, 1, 1, 1, 1, 1, 1, 1, 1, 1, 1, 0, 1, 0, 0, 1, 0, 0, 1, 1, 1, 1, 1, 1, 0]) (p1 := [1, 1, 1, 1, 1, 1, 1, 1, 1, 1, 1, 1, 1, 1, 1, 1, 1, 0, 1, 0, 0, 1, 0, 0, 1, 1, 1, 1, 1, 1, 1]) (by kernel_rfl) (lk_crash hC hm hs4 hk4) ?_
  rintro ac5 u5 ⟨hs5, hk5⟩
  refine Lk.seq (p0 := [1, 1, 1, 1, 1, 1, 1, 1, 1, 1, 1, 1, 1, 1, 1, 1, 1, 0, 1, 0, 0, 1, 0, 0, 1, 1, 1, 1, 1, 1, 1, 0]) (p1 := [1, 1, 1, 1, 1, 1, 1, 1, 1, 1, 1, 1, 1, 1, 1, 1, 1, 0, 1, 0, 0, 1, 0, 0, 1, 1, 1, 1, 1, 1, 1, 1]) (by kernel_rfl) (lk_high0 hs5) ?_
  rintro ac6 u6 ⟨hs6, rfl⟩
  refine Lk.seq (p0 := [1, 1, 1, 1, 1, 1, 1, 1, 1, 1, 1, 1, 1, 1, 1, 1, 1, 0, 1, 0, 0, 1, 0, 0, 1, 1, 1, 1, 1, 1, 1, 1, 0]) (p1 := [1, 1, 1, 1, 1, 1, 1, 1, 1, 1, 1, 1, 1, 1, 1, 1, 1, 0, 1, 0, 0, 1, 0, 0, 1, 1, 1, 1, 1, 1, 1, 1, 1]) (by kernel_rfl) (lk_high (safe_le hok) (by omega) hs6) ?_
  rintro ac7 u7 ⟨hs7, rfl⟩
  refine Lk.seq (p0 := [1, 1, 1, 1, 1, 1, 1, 1, 1, 1, 1, 1, 1, 1, 1, 1, 1, 0, 1, 0, 0, 1, 0, 0, 1, 1, 1, 1, 1, 1, 1, 1, 1, 0]) (p1 := [1, 1, 1, 1, 1, 1, 1, 1, 1, 1, 1, 1, 1, 1, 1, 1, 1, 0, 1, 0, 0, 1, 0, 0, 1, 1, 1, 1, 1, 1, 1, 1, 1, 1]) (by kernel_rfl) (lk_left0 hs7) ?_
  rintro ac8 u8 ⟨hs8, rfl⟩
  refine Lk.seq (R := fun a' u' => Slots 397 (lkB a0 a1 a2 a3 a4 a5 caps.length paths.length drops.length syncs.length fails.length keeps.length c0 c1 c2 c3 c4 c5 aj dv mv t r [(40, .int .i64 ((scanK s.marks (highN s kp) s.marks.length : Nat)))]) a' ∧ u' = u8) (p0 := [1, 1, 1, 1, 1, 1, 1, 1, 1, 1, 1, 1, 1, 1, 1, 1, 1, 0, 1, 0, 0, 1, 0, 0, 1, 1, 1, 1, 1, 1, 1, 1, 1, 1, 0]) (p1 := [1, 1, 1, 1, 1, 1, 1, 1, 1, 1, 1, 1, 1, 1, 1, 1, 1, 0, 1, 0, 0, 1, 0, 0, 1, 1, 1, 1, 1, 1, 1, 1, 1, 1, 1]) (by kernel_rfl) (Lk.seq (p0 := [1, 1, 1, 1, 1, 1, 1, 1, 1, 1, 1, 1, 1, 1, 1, 1, 1, 0, 1, 0, 0, 1, 0, 0, 1, 1, 1, 1, 1, 1, 1, 1, 1, 1, 0, 0]) (p1 := [1, 1, 1, 1, 1, 1, 1, 1, 1, 1, 1, 1, 1, 1, 1, 1, 1, 0, 1, 0, 0, 1, 0, 0, 1, 1, 1, 1, 1, 1, 1, 1, 1, 1, 0, 1]) (by kernel_rfl) (lk_i0 hs8) ?_) ?_
  · rintro ac9 u9 ⟨hs9, rfl⟩
    exact lk_loop3 (by omega) hpos hs9 hk5
  rintro ac10 u10 ⟨hs10, rfl⟩
  have el : scanK s.marks (highN s kp) s.marks.length = leftN' s.marks (highN s kp) := scanK_eq _ _ _
  rw [el] at hs10
  have hlt := left_lt hok (highN s kp)
  obtain ⟨l, hl⟩ : ∃ l, leftN' s.marks (highN s kp) = l := ⟨_, rfl⟩
  rw [hl] at hs10 hlt
  obtain ⟨DD, cd, pv, hdv, hcd, _⟩ := hk5.last (i := 0) (by omega)
  obtain ⟨MM, cm, hmv, hcm, _⟩ := hk5.mark hpos
  subst hdv hmv
  have hcut := hk5.cut (k := l + 1) (by omega) (by omega) (by omega) hpos
  obtain ⟨s2, hs2e⟩ : ∃ s2, crashS s kp = s2 := ⟨_, rfl⟩
  have d1 : s.done.take (l + 1) = s2.done := by rw [← hs2e, ← hl]; rfl
  have d2 : s.marks.take (l + 1) = s2.marks := by rw [← hs2e, ← hl]; rfl
  have d3 : s2.stopped = false := by rw [← hs2e]; rfl
  have d4 : s2.caps = caps := by rw [← hs2e]; exact hc
  have d5 : s2.bytes = s2.marks.getD l 0 := by
    rw [← d2, ← hs2e]
    show s.marks.getD (leftN' s.marks (highN s kp)) 0 = _
    rw [hl]; simp [List.getD, List.getElem?_take]
  have d6 : s2.safe = s2.marks.getD l 0 := by
    rw [← d5, ← hs2e]; rfl
  have l1 : s2.done.length = l + 1 := by rw [← d1, List.length_take]; omega
  have l2 : s2.marks.length = l + 1 := by rw [← d2, List.length_take]; omega
  rw [hs2e, d1, d2] at hcut
  refine Lk.seq (p0 := [1, 1, 1, 1, 1, 1, 1, 1, 1, 1, 1, 1, 1, 1, 1, 1, 1, 0, 1, 0, 0, 1, 0, 0, 1, 1, 1, 1, 1, 1, 1, 1, 1, 1, 1, 0]) (p1 := [1, 1, 1, 1, 1, 1, 1, 1, 1, 1, 1, 1, 1, 1, 1, 1, 1, 0, 1, 0, 0, 1, 0, 0, 1, 1, 1, 1, 1, 1, 1, 1, 1, 1, 1, 1]) (by kernel_rfl) (lk_cutD (by omega) hcd (by omega) hs10) ?_
  rintro ac11 u11 ⟨hs11, rfl⟩
  refine Lk.seq (p0 := [1, 1, 1, 1, 1, 1, 1, 1, 1, 1, 1, 1, 1, 1, 1, 1, 1, 0, 1, 0, 0, 1, 0, 0, 1, 1, 1, 1, 1, 1, 1, 1, 1, 1, 1, 1, 0]) (p1 := [1, 1, 1, 1, 1, 1, 1, 1, 1, 1, 1, 1, 1, 1, 1, 1, 1, 0, 1, 0, 0, 1, 0, 0, 1, 1, 1, 1, 1, 1, 1, 1, 1, 1, 1, 1, 1]) (by kernel_rfl) (lk_cutM (by omega) hcm (by omega) hs11) ?_
  rintro ac12 u12 ⟨hs12, rfl⟩
  refine Lk.seq (p0 := [1, 1, 1, 1, 1, 1, 1, 1, 1, 1, 1, 1, 1, 1, 1, 1, 1, 0, 1, 0, 0, 1, 0, 0, 1, 1, 1, 1, 1, 1, 1, 1, 1, 1, 1, 1, 1, 0]) (p1 := [1, 1, 1, 1, 1, 1, 1, 1, 1, 1, 1, 1, 1, 1, 1, 1, 1, 0, 1, 0, 0, 1, 0, 0, 1, 1, 1, 1, 1, 1, 1, 1, 1, 1, 1, 1, 1, 1]) (by kernel_rfl) (lk_after hP hB hSf hm rfl l1 l2 d5 d6 hs12 hcut) ?_
  rintro ac13 u13 ⟨hs13, hk13⟩
  refine Lk.seq (p0 := [1, 1, 1, 1, 1, 1, 1, 1, 1, 1, 1, 1, 1, 1, 1, 1, 1, 0, 1, 0, 0, 1, 0, 0, 1, 1, 1, 1, 1, 1, 1, 1, 1, 1, 1, 1, 1, 1, 0]) (p1 := [1, 1, 1, 1, 1, 1, 1, 1, 1, 1, 1, 1, 1, 1, 1, 1, 1, 0, 1, 0, 0, 1, 0, 0, 1, 1, 1, 1, 1, 1, 1, 1, 1, 1, 1, 1, 1, 1, 1]) (by kernel_rfl) (lk_want0 hs13) ?_
  rintro ac14 u14 ⟨hs14, rfl⟩
  refine Lk.seq (p0 := [1, 1, 1, 1, 1, 1, 1, 1, 1, 1, 1, 1, 1, 1, 1, 1, 1, 0, 1, 0, 0, 1, 0, 0, 1, 1, 1, 1, 1, 1, 1, 1, 1, 1, 1, 1, 1, 1, 1, 0]) (p1 := [1, 1, 1, 1, 1, 1, 1, 1, 1, 1, 1, 1, 1, 1, 1, 1, 1, 0, 1, 0, 0, 1, 0, 0, 1, 1, 1, 1, 1, 1, 1, 1, 1, 1, 1, 1, 1, 1, 1, 1]) (by kernel_rfl) (lk_e5 hs14) ?_
  rintro ac15 u15 ⟨hs15, rfl⟩
  refine Lk.seq (p0 := [1, 1, 1, 1, 1, 1, 1, 1, 1, 1, 1, 1, 1, 1, 1, 1, 1, 0, 1, 0, 0, 1, 0, 0, 1, 1, 1, 1, 1, 1, 1, 1, 1, 1, 1, 1, 1, 1, 1, 1, 0]) (p1 := [1, 1, 1, 1, 1, 1, 1, 1, 1, 1, 1, 1, 1, 1, 1, 1, 1, 0, 1, 0, 0, 1, 0, 0, 1, 1, 1, 1, 1, 1, 1, 1, 1, 1, 1, 1, 1, 1, 1, 1, 1]) (by kernel_rfl) (lk_want hv0 l1 rfl d4 hs15 hk13) ?_
  rintro ac16 u16 ⟨wv, hs16, hk16, hw16⟩
  refine Lk.seq (p0 := [1, 1, 1, 1, 1, 1, 1, 1, 1, 1, 1, 1, 1, 1, 1, 1, 1, 0, 1, 0, 0, 1, 0, 0, 1, 1, 1, 1, 1, 1, 1, 1, 1, 1, 1, 1, 1, 1, 1, 1, 1, 0]) (p1 := [1, 1, 1, 1, 1, 1, 1, 1, 1, 1, 1, 1, 1, 1, 1, 1, 1, 0, 1, 0, 0, 1, 0, 0, 1, 1, 1, 1, 1, 1, 1, 1, 1, 1, 1, 1, 1, 1, 1, 1, 1, 1]) (by kernel_rfl) (lk_rates hR hm rfl hs16 hk16 hw16) ?_
  rintro ac17 u17 ⟨rv, hs17, hk17, hw17, hr17⟩
  refine Lk.seq (p0 := [1, 1, 1, 1, 1, 1, 1, 1, 1, 1, 1, 1, 1, 1, 1, 1, 1, 0, 1, 0, 0, 1, 0, 0, 1, 1, 1, 1, 1, 1, 1, 1, 1, 1, 1, 1, 1, 1, 1, 1, 1, 1, 0]) (p1 := [1, 1, 1, 1, 1, 1, 1, 1, 1, 1, 1, 1, 1, 1, 1, 1, 1, 0, 1, 0, 0, 1, 0, 0, 1, 1, 1, 1, 1, 1, 1, 1, 1, 1, 1, 1, 1, 1, 1, 1, 1, 1, 1]) (by kernel_rfl) (lk_err hg hs17 hk17 hw17 hr17) ?_
  rintro ac18 u18 ⟨hs18, hk18, hw18, hr18⟩
  refine (lk_end hs18 hk18 hw18 hr18).mono ?_
  rintro ac19 u19 ⟨hs19, hk19⟩
  exact ⟨s2, _, _, hs19, hk19, d3, d4⟩
end
end Ev
end Go.Proofs.YtdldgefahgojaakDoor

/- The law LogKeeps: the outer loop. -/
namespace Go.Proofs.YtdldgefahgojaakDoor
namespace Ev
open Go.RowKit Fr Ns Ld Fl
set_option linter.unusedSimpArgs false
set_option linter.unusedVariables false

section
variable {X : LogFace} {w : World} {caps : List Int} {paths : List (List Int)} {drops syncs fails keeps : List Int} {a0 a1 a2 a3 a4 a5 : Option Addr} {c0 c1 c2 c3 c4 c5 : Nat} {aj : Addr} {dv mv : Value} {t r k m : Nat} {s : LogS} {dn : List Flows} {mk : List Nat} {a : Act} {u : World}
theorem lk_loop1 (hA : LAddSaid X) (hD : LDropSaid X) (hS : LSyncSaid X) (hC : LCrashSaid X) (hF : LFailSaid X) (hfr : ∀ x ∈ fails, x ≤ 9223372036854775807) (hP : LPathsSaid X) (hB : LBytesSaid X) (hSf : LSafeSaid X) (hR : LRatesSaid X) (hg : w.cell? ⟨0, 0, none⟩ = some handleV) (hv0 : IntsAt (fun b => b < w.heap.size) w (.slice a0 caps.length c0) caps) (hv1 : ListsAt (fun b => b < w.heap.size) w (.slice a1 paths.length c1) paths) (hv2 : IntsAt (fun b => b < w.heap.size) w (.slice a2 drops.length c2) drops) (hv3 : IntsAt (fun b => b < w.heap.size) w (.slice a3 syncs.length c3) syncs) (hv4 : IntsAt (fun b => b < w.heap.size) w (.slice a4 fails.length c4) fails) (hv5 : IntsAt (fun b => b < w.heap.size) w (.slice a5 keeps.length c5) keeps) (hc : s.caps = caps) (hst : s.stopped = false) (ha : Slots 397 (lkB a0 a1 a2 a3 a4 a5 caps.length paths.length drops.length syncs.length fails.length keeps.length c0 c1 c2 c3 c4 c5 aj dv mv 0 0 []) a) (hk : KeepsE X w aj (.slice a0 caps.length c0) 1 s dv mv s.done s.marks [] u) :
    Lk [1, 1, 1, 1, 1, 1, 1, 1, 1, 1, 1, 1, 1, 1, 1, 1, 1, 0, 1] (fun a' u' => a'.defers = [] ∧ a'.tmps.toList.length = 397 ∧ Below w.heap.size w u') a u := by
  refine Lk.loop (p0 := [1, 1, 1, 1, 1, 1, 1, 1, 1, 1, 1, 1, 1, 1, 1, 1, 1, 0, 1, 0, 0]) (id := 0) (by kernel_rfl) (fun a' u' => ∃ (r t' : Nat) (s' : LogS) (dv' mv' : Value), r ≤ 4 ∧ Slots 397 (lkB a0 a1 a2 a3 a4 a5 caps.length paths.length drops.length syncs.length fails.length keeps.length c0 c1 c2 c3 c4 c5 aj dv' mv' t' r []) a' ∧ KeepsE X w aj (.slice a0 caps.length c0) (1 + 10 * r) s' dv' mv' s'.done s'.marks [] u' ∧ s'.stopped = false ∧ s'.caps = caps) (fun a' _ => 4 - (intOf (a'.tmps.toList.getD 28 undef)).toNat) ⟨0, 0, s, dv, mv, by omega, ha, hk, hst, hc⟩ ?_
  rintro ac1 u1 ⟨r, t', s', dv', mv', hr4, hs, hk', hst', hc'⟩
  by_cases h : r ≤ fails.length ∧ r < 4
  · left
    refine Lk.seq (p0 := [1, 1, 1, 1, 1, 1, 1, 1, 1, 1, 1, 1, 1, 1, 1, 1, 1, 0, 1, 0, 0, 0]) (p1 := [1, 1, 1, 1, 1, 1, 1, 1, 1, 1, 1, 1, 1, 1, 1, 1, 1, 0, 1, 0, 0, 1]) (by kernel_rfl) (lk_in1 h.1 h.2 hs) ?_
    rintro ac2 u2 ⟨hs2, rfl⟩
    refine Lk.seq (R := fun a' u' => ∃ (s' : LogS) (dv' mv' : Value) (t' : Nat), Slots 397 (lkB a0 a1 a2 a3 a4 a5 caps.length paths.length drops.length syncs.length fails.length keeps.length c0 c1 c2 c3 c4 c5 aj dv' mv' t' r []) a' ∧ KeepsE X w aj (.slice a0 caps.length c0) (1 + 10 * r + 10) s' dv' mv' s'.done s'.marks [] u' ∧ s'.stopped = false ∧ s'.caps = caps) (p0 := [1, 1, 1, 1, 1, 1, 1, 1, 1, 1, 1, 1, 1, 1, 1, 1, 1, 0, 1, 0, 0, 1, 0]) (p1 := [1, 1, 1, 1, 1, 1, 1, 1, 1, 1, 1, 1, 1, 1, 1, 1, 1, 0, 1, 0, 0, 1, 1]) (by kernel_rfl) (Lk.block (p0 := [1, 1, 1, 1, 1, 1, 1, 1, 1, 1, 1, 1, 1, 1, 1, 1, 1, 0, 1, 0, 0, 1, 0, 0]) (id := 1) (by kernel_rfl) (Lk.seq (p0 := [1, 1, 1, 1, 1, 1, 1, 1, 1, 1, 1, 1, 1, 1, 1, 1, 1, 0, 1, 0, 0, 1, 0, 0, 0]) (p1 := [1, 1, 1, 1, 1, 1, 1, 1, 1, 1, 1, 1, 1, 1, 1, 1, 1, 0, 1, 0, 0, 1, 0, 0, 1]) (by kernel_rfl) (lk_fail hF hfr hv4 (by omega) hst' hs2 hk') ?_)) ?_
    · rintro ac3 u3 ⟨s3, hs3, hk3, e1, e2, e3⟩
      rw [← e1, ← e2] at hk3
      refine Lk.seq (R := fun a' u' => ∃ (s' : LogS) (dv' mv' : Value) (t' : Nat), Slots 397 (lkB a0 a1 a2 a3 a4 a5 caps.length paths.length drops.length syncs.length fails.length keeps.length c0 c1 c2 c3 c4 c5 aj dv' mv' t' r []) a' ∧ KeepsE X w aj (.slice a0 caps.length c0) (1 + 10 * r + 10) s' dv' mv' s'.done s'.marks [] u' ∧ s'.caps = caps) (p0 := [1, 1, 1, 1, 1, 1, 1, 1, 1, 1, 1, 1, 1, 1, 1, 1, 1, 0, 1, 0, 0, 1, 0, 0, 1, 0]) (p1 := [1, 1, 1, 1, 1, 1, 1, 1, 1, 1, 1, 1, 1, 1, 1, 1, 1, 0, 1, 0, 0, 1, 0, 0, 1, 1]) (by kernel_rfl) (Lk.seq (p0 := [1, 1, 1, 1, 1, 1, 1, 1, 1, 1, 1, 1, 1, 1, 1, 1, 1, 0, 1, 0, 0, 1, 0, 0, 1, 0, 0]) (p1 := [1, 1, 1, 1, 1, 1, 1, 1, 1, 1, 1, 1, 1, 1, 1, 1, 1, 0, 1, 0, 0, 1, 0, 0, 1, 0, 1]) (by kernel_rfl) (lk_k0 hs3) ?_) ?_
      · rintro ac4 u4 ⟨hs4, rfl⟩
        exact lk_loop2 hA hD hS hB hSf hP hg hv0 hv1 hv2 hv3 (by omega) (e3.trans hc') hs4 hk3
      · rintro ac5 u5 ⟨s5, dv5, mv5, t5, hs5, hk5, hc5⟩
        refine (lk_tail hC hB hSf hP hR hg hv0 hv5 (by omega) hc5 hs5 hk5).mono ?_
        rintro ac6 u6 ⟨s6, dv6, mv6, hs6, hk6, hst6, hc6⟩
        exact ⟨s6, dv6, mv6, t5, hs6, hk6, hst6, hc6⟩
    · rintro ac7 u7 ⟨s7, dv7, mv7, t7, hs7, hk7, hst7, hc7⟩
      refine (lk_inc1 (by omega) hs7).mono ?_
      rintro ac8 u8 ⟨hs8, rfl⟩
      refine ⟨⟨r + 1, t7, s7, dv7, mv7, by omega, hs8, hk7.to (by have := hk7.few; omega), hst7, hc7⟩, ?_⟩
      have e1 := slot_int (hs.2.2.2.2.2.2.2.2.2.2.2.2.1)
      have e2 := slot_int (hs8.2.2.2.2.2.2.2.2.2.2.2.2.1)
      show 4 - (intOf (ac8.tmps.toList.getD 28 undef)).toNat < 4 - (intOf (ac1.tmps.toList.getD 28 undef)).toNat
      rw [e1, e2]
      omega
  · right
    refine LkX.seq (p0 := [1, 1, 1, 1, 1, 1, 1, 1, 1, 1, 1, 1, 1, 1, 1, 1, 1, 0, 1, 0, 0, 0]) (p1 := [1, 1, 1, 1, 1, 1, 1, 1, 1, 1, 1, 1, 1, 1, 1, 1, 1, 0, 1, 0, 0, 1]) (by kernel_rfl) ((lk_out1 h hs).mono ?_)
    rintro ac2 u2 ⟨hs2, rfl⟩
    exact ⟨hs2.1, hs2.2.1, hk'.below⟩
end
end Ev
end Go.Proofs.YtdldgefahgojaakDoor
