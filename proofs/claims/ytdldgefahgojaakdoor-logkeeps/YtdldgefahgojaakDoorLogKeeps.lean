/- The law LogKeeps returns true for every input, from what is asked of package log's calls: what is safe is kept. -/
import Derived.Test.YtdldgefahgojaakDoorLkAll
import Derived.Test.YtdldgefahgojaakDoorPlains
import Derived.Test.YtdldgefahgojaakDoorLogMany
import Derived.Deep.CutBlock
namespace Go.Proofs.YtdldgefahgojaakDoor
namespace Ev
open Go.RowKit Fr Ns Ld Fl
set_option linter.unusedSimpArgs false
set_option linter.unusedVariables false

theorem links8 : linksE [8] = 0 := by decide
theorem keeps0 {X : LogFace} {w u : World} {a : Addr} {caps : List Int} {cv : Value} (h : LogAt X w a 1 (log0 caps) u) : KeepsE X w a cv 1 (log0 caps) (.slice (some ⟨u.heap.size, 0, none⟩) 1 1) (.slice (some ⟨u.heap.size + 1, 0, none⟩) 1 1) (log0 caps).done (log0 caps).marks [] ((u.alloc (.cells #[cv, .slice none 0 0] 45)).alloc (.cells #[.int .i64 0] 3)) := by
  obtain ⟨F, h1, h2, h3, h4, h5⟩ := h
  have hs := h5.size
  have hb : Below u.heap.size u ((u.alloc (.cells #[cv, .slice none 0 0] 45)).alloc (.cells #[.int .i64 0] 3)) := ((Below.refl _ _).alloc (Nat.le_refl _) _).alloc (by simp) _
  have hlt := fun b (hF : F b) => X.lt h1 b hF
  refine ⟨F, X.later hb h1, h2, h3, h4, Bel.call h5 (Nat.le_refl _) hb, ⟨[.slice none 0 0], rfl, ?_, fun i hi => ?_⟩, ?_, fun b hb' hF => ?_, fun b hb' hF => ?_, fun b hb' hM => ?_, fun e he => by simp at he⟩
  · have := (World.ownsRow_lit (base := w.heap.size) (e := 45) (size := 2) u #[cv, .slice none 0 0] 1 hs (by unfold maxLen; omega) rfl).alloc (.cells #[.int .i64 0] 3)
    exact this
  · obtain rfl : i = 0 := by
      have : i < 1 := hi
      omega
    exact ⟨none, 0, rfl, ⟨Nat.le_refl _, Nat.zero_le _⟩, .inl rfl⟩
  · have := World.ownsRow_lit (base := w.heap.size) (e := 3) (size := 1) (u.alloc (.cells #[cv, .slice none 0 0] 45)) #[.int .i64 0] 1 (by simp; omega) (by unfold maxLen; omega) rfl
    simpa [log0] using this
  · simp [Value.ownBlock] at hb'; have := hlt b hF; omega
  · simp [Value.ownBlock] at hb'; have := hlt b hF; omega
  · simp [Value.ownBlock] at hb' hM; omega

set_option maxRecDepth 100000 in
set_option maxHeartbeats 32000000 in
theorem logKeeps_walk (X : LogFace) (hN : LNewSaid X) (hA : LAddSaid X) (hD : LDropSaid X) (hS : LSyncSaid X) (hC : LCrashSaid X) (hF : LFailSaid X) (hP : LPathsSaid X) (hB : LBytesSaid X) (hSf : LSafeSaid X) (hR : LRatesSaid X)
    (caps : List Int) (paths : List (List Int)) (drops syncs fails keeps : List Int) (v0 v1 v2 v3 v4 v5 : Value) (w : World)
    (hg : w.cell? ⟨0, 0, none⟩ = some handleV) (h0 : IntsAt (fun b => b < w.heap.size) w v0 caps) (h1 : ListsAt (fun b => b < w.heap.size) w v1 paths) (h2 : IntsAt (fun b => b < w.heap.size) w v2 drops) (h3 : IntsAt (fun b => b < w.heap.size) w v3 syncs) (h4 : IntsAt (fun b => b < w.heap.size) w v4 fails) (h5 : IntsAt (fun b => b < w.heap.size) w v5 keeps) (hfr : ∀ x ∈ fails, x ≤ 9223372036854775807) :
    Calls Tryd.prog 4 #[v0, v1, v2, v3, v4, v5] w fun e w' => e = .returned (.bool true) ∧ Below w.heap.size w w' := by
  have HErr : Hid (∀ (k e : Int) (u : World), Below w.heap.size w u → Calls Tryd.prog 7 #[errV k, .int .i64 e] u fun r w' => r = .returned (.bool (k == e)) ∧ Below u.heap.size u w') := fun k e u hu => Error_any k e u (cell_later hu hg)
  have HN1 : Hid (Calls Tryd.prog 5 #[.slice (some ⟨w.heap.size, 0, none⟩) 1 1] (w.alloc (.cells #[.int .i64 8] 3)) fun e w' => ∃ a, e = .returned (.tuple #[.pointer (some a), .nilIface]) ∧ LogAt X w a 1 (log0 [8]) w') :=
    (hN _ [8] _ _ (lit_ints w [8] #[.int .i64 8] rfl 1 rfl (by decide))).mono (fun e w' h => made_logAt links8 ((Below.refl _ _).alloc (Nat.le_refl _) _) e w' h)
  have HA0 : Hid (∀ (a : Addr) (m : Nat) (s : LogS) (u : World), LogAt X w a m s u → m ≤ 1000 → addLE s [0] = 0 → Calls Tryd.prog 6 #[.pointer (some a), .slice (some ⟨u.heap.size, 0, none⟩) 1 1] (u.alloc (.cells #[.int .i64 0] 3)) fun e w' => ∃ n, e = .returned .nilIface ∧ LogAt X w a (m + 1) (addLS s [0] n) w') := fun a m s u h hm he0 => by
    refine (add_at hA h ((Below.refl _ _).alloc (Nat.le_refl _) _) (lit_ints u [0] #[.int .i64 0] rfl 1 rfl (by decide)) (fun b hb => .inl hb) hm).mono ?_
    rintro e w' ⟨n, he, hl⟩
    rw [he0, errV_0] at he
    exact ⟨n, he, hl⟩
  have HS0 : Hid (∀ (a : Addr) (m : Nat) (s : LogS) (u : World), LogAt X w a m s u → m ≤ 1000 → syncE s = 0 → Calls Tryd.prog 11 #[.pointer (some a)] u fun e w' => e = .returned .nilIface ∧ LogAt X w a m (syncS s) w') := fun a m s u h hm h0 => by
    have := sync_at hS h hm
    rw [h0, errV_0] at this
    exact this
  have HC0 : Hid (∀ (a : Addr) (m : Nat) (s : LogS) (u : World), LogAt X w a m s u → m ≤ 1000 → Calls Tryd.prog 12 #[.pointer (some a), .int .i64 0] u fun e w' => e = .returned (.tuple #[]) ∧ LogAt X w a m (crashS s 0) w') := fun a m s u h hm => crash_at hC 0 h hm
  have HP0 : Hid (∀ (a : Addr) (m : Nat) (s : LogS) (u : World), LogAt X w a m s u → m ≤ 1000 → s.flows = [[0]] → Calls Tryd.prog 13 #[.pointer (some a)] u fun e w' => ∃ ay cy, e = .returned (.slice ay 1 cy) ∧ LogAt X w a m s w') := fun a m s u h hm hf => by
    refine (paths_at hP h hm).mono ?_
    rintro e w' ⟨y, he, ⟨ay, cy, rfl, _⟩, hl, _⟩
    rw [hf] at he
    exact ⟨ay, cy, he, hl⟩
  have HR0 : Hid (∀ (a : Addr) (m : Nat) (s : LogS) (u : World), LogAt X w a m s u → m ≤ 1000 → s.flows = [[0]] → s.caps = [8] → Calls Tryd.prog 8 #[.pointer (some a)] u fun e w' => ∃ b o c, e = .returned (.tuple #[.slice (some ⟨b, o, none⟩) 1 c, .nilIface]) ∧ 1 ≤ c ∧ w'.cell? ⟨b, o, none⟩ = some (.int .i64 8) ∧ LogAt X w a m s w') := fun a m s u h hm hf hc => by
    refine (rates_at hR h hm).mono ?_
    rintro e w' ⟨y, he, hy, hl, _⟩
    have e0 : ratesLE s.flows = 0 := by rw [hf]; rfl
    rw [e0, errV_0] at he
    rw [e0, okL_0, hc, hf, show ([[0]] : List (List Int)) = List.replicate 1 [0] from rfl, (fill_alike (c := 8) (m := 1) (by decide) (by decide) (by decide) (by decide)).1] at hy
    obtain ⟨ay, cy, rfl, ⟨hy1, _⟩, hyc⟩ := hy
    rcases hyc with hyc | ⟨b, o, rfl, hyc, _⟩
    · cases hyc
    · have h1 := (hyc 0 (by decide)).1
      have e1 : ((List.replicate 1 (lowT 8 (1 : Nat), lowB 8 (1 : Nat))).getD 0 (0, 0)).1 = 8 := by decide
      rw [e1] at h1
      exact ⟨b, o, cy, he, hy1, by simpa using h1, hl⟩
  have HB0 : Hid (∀ (a : Addr) (m : Nat) (s : LogS) (u : World), LogAt X w a m s u → m ≤ 1000 → Calls Tryd.prog 9 #[.pointer (some a)] u fun e w' => e = .returned (.int .i64 s.bytes) ∧ ∃ n, w' = u.drewN n) := fun a m s u h hm => bytes_at hB h hm
  have HSf0 : Hid (∀ (a : Addr) (m : Nat) (s : LogS) (u : World), LogAt X w a m s u → m ≤ 1000 → Calls Tryd.prog 14 #[.pointer (some a)] u fun e w' => e = .returned (.int .i64 s.safe) ∧ ∃ n, w' = u.drewN n) := fun a m s u h hm => safe_at hSf h hm
  have HLk : Hid (∀ u, Below w.heap.size w u → Calls Tryd.prog 15 #[v0] u fun e w' => e = .returned (.int .i64 (linksE caps)) ∧ Below u.heap.size u w') := fun u hu => by
    refine (Links_any caps v0 u (h0.later hu)).mono ?_
    rintro e w' ⟨he, rfl⟩
    exact ⟨he, Below.refl _ _⟩
  have HNw : Hid (∀ u, Below w.heap.size w u → Calls Tryd.prog 5 #[v0] u fun e w' => MadeL X caps u w' e) := fun u hu => hN _ caps v0 u (h0.later hu)
  obtain ⟨a0, c0, hv0, ⟨hm0, hn0⟩, _⟩ := id h0
  obtain ⟨a1, c1, hv1, ⟨hm1, hn1⟩, _⟩ := id h1
  obtain ⟨a2, c2, hv2, ⟨hm2, hn2⟩, _⟩ := id h2
  obtain ⟨a3, c3, hv3, ⟨hm3, hn3⟩, _⟩ := id h3
  obtain ⟨a4, c4, hv4, ⟨hm4, hn4⟩, _⟩ := id h4
  obtain ⟨a5, c5, hv5, ⟨hm5, hn5⟩, _⟩ := id h5
  subst hv0 hv1 hv2 hv3 hv4 hv5
  go_enter Tryd.func4, Tryd.ntmps4
  go_wp2_with fail
  refine HN1.out.mono ?_
  rintro e w1 ⟨a, rfl, hl⟩
  have L1 : Hid (LogAt X w a 1 (log0 [8]) w1) := hl
  clear hl
  go_wp2_with fail
  refine (HA0.out _ _ _ _ L1.out (by decide) rfl).mono ?_
  rintro e w2 ⟨n1, rfl, hl⟩
  have L2 : Hid (LogAt X w a 2 ⟨[8], [[], [[0]]], [0, 0 + n1], 0 + n1, 0, -1, false⟩ w2) := hl
  clear hl L1
  go_wp2_with fail
  refine (HS0.out _ _ _ _ L2.out (by decide) rfl).mono ?_
  rintro e w3 ⟨rfl, hl⟩
  have L3 : Hid (LogAt X w a 2 ⟨[8], [[], [[0]]], [0, 0 + n1], 0 + n1, 0 + n1, -1, false⟩ w3) := hl
  clear hl L2
  go_wp2_with fail
  refine (HA0.out _ _ _ _ L3.out (by decide) rfl).mono ?_
  rintro e w4 ⟨n2, rfl, hl⟩
  have L4 : Hid (LogAt X w a 3 ⟨[8], [[], [[0]], [[0], [0]]], [0, 0 + n1, 0 + n1 + n2], 0 + n1 + n2, 0 + n1, -1, false⟩ w4) := hl
  clear hl L3
  go_wp2_with fail
  refine (HC0.out _ _ _ _ L4.out (by decide)).mono ?_
  rintro e w5 ⟨rfl, hl⟩
  have L5 : Hid (LogAt X w a 3 ⟨[8], [[], [[0]]], [0, 0 + n1], 0 + n1, 0 + n1, -1, false⟩ w5) := by
    have hk := L4.out.ok.rise 1 (by show 1 + 1 < 3; omega)
    have : 2 ≤ n2 := by
      have h' : (0 + n1) + 2 ≤ 0 + n1 + n2 := hk
      omega
    rw [fact_crash n1 n2 this] at hl
    exact hl
  clear hl L4
  go_wp2_with fail
  refine (HP0.out _ _ _ _ L5.out (by decide) rfl).mono ?_
  rintro e w6 ⟨ay, cy, rfl, hl⟩
  have L6 : Hid (LogAt X w a 3 ⟨[8], [[], [[0]]], [0, 0 + n1], 0 + n1, 0 + n1, -1, false⟩ w6) := hl
  clear hl L5
  go_wp2_with fail
  refine (HR0.out _ _ _ _ L6.out (by decide) rfl rfl).mono ?_
  rintro e w7 ⟨br, orr, cr, rfl, hcr, cell8, hl⟩
  have L7 : Hid (LogAt X w a 3 ⟨[8], [[], [[0]]], [0, 0 + n1], 0 + n1, 0 + n1, -1, false⟩ w7) := hl
  clear hl L6
  go_wp2_with fail
  refine (HB0.out _ _ _ _ L7.out (by decide)).mono ?_
  rintro e w8 ⟨rfl, q1, rfl⟩
  have L8 : Hid (LogAt X w a 3 ⟨[8], [[], [[0]]], [0, 0 + n1], 0 + n1, 0 + n1, -1, false⟩ (w7.drewN q1)) := L7.out.later (below_drewN (Below.refl _ _) _)
  go_wp2_with fail
  refine (HSf0.out _ _ _ _ L8.out (by decide)).mono ?_
  rintro e w9 ⟨rfl, q2, rfl⟩
  have B9 : Hid (Below w.heap.size w ((w7.drewN q1).drewN q2)) := below_drewN L8.out.below _
  generalize (w7.drewN q1).drewN q2 = w9 at *
  clear L7 L8 cell8
  clear HN1 HA0 HS0 HC0 HP0 HR0 HB0 HSf0
  go_wp2_with fail
  refine (HLk.out _ B9.out).mono ?_
  rintro e w10 ⟨rfl, hw10⟩
  have B10 : Hid (Below w.heap.size w w10) := Bel.call B9.out (Nat.le_refl _) hw10
  clear hw10 B9
  by_cases hle : linksE caps = 0
  · have HMd : Hid (∀ u e w', Below w.heap.size w u → MadeL X caps u w' e → ∃ a, e = .returned (.tuple #[.pointer (some a), .nilIface]) ∧ LogAt X w a 1 (log0 caps) w') := fun u e w' hu h => made_logAt hle hu e w' h
    have HE0 : Hid (∀ u : World, Below w.heap.size w u → Calls Tryd.prog 7 #[.nilIface, .int .i64 0] u fun e w' => e = .returned (.bool true) ∧ Below u.heap.size u w') := fun u hu => HErr.out 0 0 u hu
    rw [hle]
    go_wp2_with fail
    refine (HNw.out _ B10.out).mono ?_
    intro e w11 hmade
    obtain ⟨aj, rfl, hl⟩ := HMd.out _ _ _ B10.out hmade
    have L11 : Hid (LogAt X w aj 1 (log0 caps) w11) := hl
    clear hmade hl B10
    go_wp2_with fail
    refine (HE0.out _ L11.out.below).mono ?_
    rintro e w12 ⟨rfl, hw12⟩
    have L12 : Hid (LogAt X w aj 1 (log0 caps) w12) := L11.out.later hw12
    clear hw12 L11
    clear HMd HE0 HLk HNw
    have K0 : Hid (KeepsE X w aj (.slice a0 caps.length c0) 1 (log0 caps) (.slice (some ⟨w12.heap.size, 0, none⟩) 1 1) (.slice (some ⟨w12.heap.size + 1, 0, none⟩) 1 1) (log0 caps).done (log0 caps).marks [] ((w12.alloc (.cells #[.slice a0 caps.length c0, .slice none 0 0] 45)).alloc (.cells #[.int .i64 0] 3))) := keeps0 L12.out
    obtain ⟨w13, hw13⟩ : ∃ u, u = ((w12.alloc (.cells #[.slice a0 caps.length c0, .slice none 0 0] 45)).alloc (.cells #[.int .i64 0] 3)) := ⟨_, rfl⟩
    have HW13 : Hid (((w12.alloc (.cells #[.slice a0 caps.length c0, .slice none 0 0] 45)).alloc (.cells #[.int .i64 0] 3)) = w13) := hw13.symm
    rw [HW13.out] at K0
    clear hw13 L12
    clear HErr
    go_upto_block 0 with fail
    rw [HW13.out]
    clear HW13
    refine Thru.here (lk_loop1 (s := log0 caps) hA hD hS hC hF hfr hP hB hSf hR hg h0 h1 h2 h3 h4 h5 rfl rfl ⟨rfl, by kernel_rfl, has_cons rfl (has_cons rfl (has_cons rfl (has_cons rfl (has_cons rfl (has_cons rfl (has_cons rfl (has_cons rfl (has_cons rfl (has_cons rfl (has_cons rfl (has_nil)))))))))))⟩ K0.out) ?_
    rintro a' w14 ⟨hd, hl, hb⟩
    have HB : Hid (Below w.heap.size w w14) := hb
    obtain ⟨Y, rfl, -⟩ := Slots.lay (n := 397) (vs := []) ⟨hd, hl, trivial⟩
    clear hd hl hb K0
    rw [range_lk]
    go_wp2
    go_ret
    exact ⟨rfl, HB.out⟩
  · have HMd : Hid (∀ u e w', MadeL X caps u w' e → ∃ a, e = .returned (.tuple #[.pointer a, .iface 61 (.int .i64 (linksE caps))]) ∧ Below u.heap.size u w') := fun u e w' h => made_logBad hle e w' h
    have HE0 : Hid (∀ u : World, Below w.heap.size w u → Calls Tryd.prog 7 #[.iface 61 (.int .i64 (linksE caps)), .int .i64 (linksE caps)] u fun e w' => e = .returned (.bool true) ∧ Below u.heap.size u w') := fun u hu => by
      have := HErr.out (linksE caps) (linksE caps) u hu
      rw [errV_ne hle, beq_self_eq_true] at this
      exact this
    generalize linksE caps = le at *
    have q : (le == 0) = false := beq_eq_false_iff_ne.2 hle
    go_wp2_with fail
    refine (HNw.out _ B10.out).mono ?_
    intro e w11 hmade
    obtain ⟨aj, rfl, hw11⟩ := HMd.out _ _ _ hmade
    have B11 : Hid (Below w.heap.size w w11) := Bel.call B10.out (Nat.le_refl _) hw11
    clear hmade hw11 B10
    go_wp2_with fail
    refine (HE0.out _ B11.out).mono ?_
    rintro e w12 ⟨rfl, hw12⟩
    have B12 : Hid (Below w.heap.size w w12) := Bel.call B11.out (Nat.le_refl _) hw12
    clear hw12 B11
    go_wp2
    go_ret
    exact ⟨rfl, B12.out⟩
end Ev
end Go.Proofs.YtdldgefahgojaakDoor

