/- The law NetBack returns true for every net, path and link: a flow that was added goes over its links, no other one's users change, and dropped again the net is itself. -/
import Derived.Test.YtldhapldkjokkaaNetD
import Derived.Test.YtldhapldkjokkaaNetG
import Derived.Test.YtldhapldkjokkaaSame
import Derived.Test.YtldhapldkjokkaaOpen
import Derived.Deep.DeepCutAuto
import Derived.ChangeSame
import Derived.JoinedOf
import Derived.Carry
namespace Go.Proofs.Ytldhapldkjokkaa
namespace Ns
open Go.RowKit Fr
set_option linter.unusedSimpArgs false
set_option linter.unusedVariables false

theorem IntsAt.shape {Q : Nat → Prop} {w : World} {v : Value} {l : List Int} (h : IntsAt Q w v l) : ∃ a n k, v = .slice a n k := by
  obtain ⟨_, _, rfl, _⟩ := h
  exact ⟨_, _, _, rfl⟩
theorem eqI_self (l : List Int) : eqI l l = true := by simp [eqI]

theorem ints_one (w : World) (g : Nat) (x : Int) (h : w.cell? ⟨g, 0, none⟩ = some (.int .i64 x)) : IntsAt (fun _ => True) w (.slice (some ⟨g, 0, none⟩) 1 1) [x] :=
  ⟨_, 1, rfl, ⟨Nat.le_refl _, by simp⟩, .inr ⟨g, 0, rfl, fun i hi => by
    match i, hi with
    | 0, _ => simpa using h, trivial⟩⟩
theorem ints_two (w : World) (g : Nat) (x y : Int) (h0 : w.cell? ⟨g, 0, none⟩ = some (.int .i64 x)) (h1 : w.cell? ⟨g, 1, none⟩ = some (.int .i64 y)) : IntsAt (fun _ => True) w (.slice (some ⟨g, 0, none⟩) 2 2) [x, y] :=
  ⟨_, 2, rfl, ⟨Nat.le_refl _, by simp⟩, .inr ⟨g, 0, rfl, fun i hi => by
    match i, hi with
    | 0, _ => simpa using h0
    | 1, _ => simpa using h1, trivial⟩⟩
theorem lists_two (w : World) (g : Nat) (x y : Value) (l m : List Int) (h0 : w.cell? ⟨g, 0, none⟩ = some x) (h1 : w.cell? ⟨g, 1, none⟩ = some y) (hx : IntsAt (fun _ => True) w x l) (hy : IntsAt (fun _ => True) w y m) : ListsAt (fun _ => True) w (.slice (some ⟨g, 0, none⟩) 2 2) [l, m] :=
  ⟨_, 2, rfl, ⟨Nat.le_refl _, by simp⟩, .inr ⟨g, 0, rfl, fun i hi => by
    match i, hi with
    | 0, _ => exact ⟨x, by simpa using h0, hx⟩
    | 1, _ => exact ⟨y, by simpa using h1, hy⟩, trivial⟩⟩

theorem users_add (paths : List (List Int)) (path : List Int) (link : Int) : users (paths ++ [path]) link = users paths link ++ (if inB path link then [(paths.length : Int)] else []) := by
  unfold users
  rw [usersFrom_snoc, Nat.zero_add]
theorem less_add (paths : List (List Int)) (path : List Int) : less (paths ++ [path]) paths.length = paths := by
  unfold less
  simp
theorem back_plain {caps : List Int} {paths : List (List Int)} {path : List Int} (h : addE caps paths path = 0) (link : Int) :
    dropE caps (paths ++ [path]) paths.length = 0 ∧ usersE caps (paths ++ [path]) link = (if link < 0 ∨ (caps.length : Int) ≤ link then 1 else 0) ∧ usersE caps paths link = (if link < 0 ∨ (caps.length : Int) ≤ link then 1 else 0) ∧ paths.length < 6 := by
  obtain ⟨h1, h2, h3, h4⟩ := netE_add h
  have h0 := netE_0 h1
  refine ⟨?_, ?_, ?_, h2⟩
  · rw [dropE, if_pos h4, if_neg (by simp only [List.length_append, List.length_cons, List.length_nil]; omega), if_neg (by simp only [List.length_append, List.length_cons, List.length_nil]; omega)]
  · rw [usersE, if_pos h4]
  · rw [usersE, if_pos h1]

set_option maxRecDepth 100000 in
set_option maxHeartbeats 4000000 in
theorem netBack_walk (caps path : List Int) (paths : List (List Int)) (link : Int) (v p : Value) (w : World)
    (hv : NetAt (fun b => b < w.heap.size) w v caps paths) (hp : IntsAt (fun b => b < w.heap.size) w p path) :
    Calls Try.prog 6 #[v, p, .int .i64 link] w fun e w' => e = .returned (.bool true) ∧ Below w.heap.size w w' := by
  have HV : Hid (NetAt (fun b => b < w.heap.size) w v caps paths) := hv
  have HP : Hid (IntsAt (fun b => b < w.heap.size) w p path) := hp
  obtain ⟨v1, v2, rfl, h1, h2⟩ := hv
  obtain ⟨a1, cap1, rfl, ⟨hm1, hn1⟩, _⟩ := h1
  obtain ⟨a2, cap2, rfl, ⟨hm2, hn2⟩, _⟩ := h2
  obtain ⟨ap, capp, rfl, ⟨hm3, hn3⟩, _⟩ := hp
  go_enter Try.func6, Try.ntmps6
  go_wp2_with fail
  refine (users_said (fun _ => True) [5, 5] [[0], [1, 0]] 0 _ _ ?lit).mono ?_
  case lit =>
    exact ⟨_, _, rfl, ints_two _ (w.heap.size + 1) 5 5 (by go_simp) (by go_simp), lists_two _ (w.heap.size + 1 + 1 + 1 + 1) _ _ [0] [1, 0] (by go_simp) (by go_simp) (ints_one _ (w.heap.size + 1 + 1) 0 (by go_simp)) (ints_two _ (w.heap.size + 1 + 1 + 1) 1 0 (by go_simp) (by go_simp))⟩
  rintro e w1 ⟨x1, rfl, hx1, hw1⟩
  have hx1' : IntsAt (fun b => _ ≤ b) w1 x1 [0, 1] := hx1
  obtain ⟨ax, cx, rfl, _, hx1''⟩ := hx1'
  rcases hx1'' with h | ⟨bx, ox, rfl, hcx, _⟩
  · cases h
  have x1c : w1.cell? ⟨bx, ox + 1, none⟩ = some (.int .i64 1) := hcx 1 (by decide)
  have hE1 : errV (usersE [5, 5] [[0], [1, 0]] 0) = .nilIface := rfl
  rw [hE1]
  have HC1 : Hid (Below (w.heap.size + 1) (w.alloc (.cells #[.slice a1 caps.length cap1, .slice a2 paths.length cap2] 42)) w1) := (((((Below.refl _ _).alloc (by simp) _).alloc (by simp) _).alloc (by simp) _).alloc (by simp) _).trans (hw1.mono (by simp))
  have HBW : Hid (∀ u, Below (w.heap.size + 1) (w.alloc (.cells #[.slice a1 caps.length cap1, .slice a2 paths.length cap2] 42)) u → Below w.heap.size w u) := fun u hu => ((Below.refl _ _).alloc (Nat.le_refl _) _).trans (hu.mono (by omega))
  have HCW : Hid (∀ u, Below (w.heap.size + 1) (w.alloc (.cells #[.slice a1 caps.length cap1, .slice a2 paths.length cap2] 42)) u → u.cell? ⟨w.heap.size, 0, none⟩ = some (.slice a1 caps.length cap1) ∧ u.cell? ⟨w.heap.size, 1, none⟩ = some (.slice a2 paths.length cap2) ∧ w.heap.size + 1 ≤ u.heap.size) := fun u hu =>
    ⟨(hu.cell (p := ⟨w.heap.size, 0, none⟩) (by simp)).trans (by simp), (hu.cell (p := ⟨w.heap.size, 1, none⟩) (by simp)).trans (by simp), by have := hu.size; simpa using this⟩
  obtain ⟨g0, g1, z1⟩ := HCW.out _ HC1.out
  have hAd := add_said _ caps paths path _ _ w1 (HV.out.later (HBW.out _ HC1.out)) (HP.out.later (HBW.out _ HC1.out))
  clear hx1 hw1 hcx hE1
  by_cases hA : addE caps paths path = 0
  · obtain ⟨hD, hU1, hU2, h6⟩ := back_plain hA link
    rw [hA, errV_0, okL_0, okL_0] at hAd
    have HAd : Hid (Calls Try.prog 15 #[.agg #[.slice a1 caps.length cap1, .slice a2 paths.length cap2], .slice ap path.length capp] w1 fun e w' => ∃ x, e = .returned (.tuple #[x, .nilIface]) ∧ NetAt (fun b => w1.heap.size ≤ b) w' x caps (paths ++ [path]) ∧ Below w1.heap.size w1 w') := hAd
    have HD : Hid (dropE caps (paths ++ [path]) paths.length = 0) := hD
    have HU1 : Hid (usersE caps (paths ++ [path]) link = (if link < 0 ∨ (caps.length : Int) ≤ link then 1 else 0)) := hU1
    have HU2 : Hid (usersE caps paths link = (if link < 0 ∨ (caps.length : Int) ≤ link then 1 else 0)) := hU2
    clear hAd hA hD hU1 hU2
    go_wp2_with fail
    refine HAd.out.mono ?_
    rintro e w2 ⟨x2, rfl, hx2, hw2⟩
    have HX2 : Hid (NetAt (fun b => w1.heap.size ≤ b) w2 x2 caps (paths ++ [path])) := hx2
    have HC2 : Hid (Below (w.heap.size + 1) (w.alloc (.cells #[.slice a1 caps.length cap1, .slice a2 paths.length cap2] 42)) w2) := HC1.out.trans (hw2.mono z1)
    obtain ⟨g0, g1, z2⟩ := HCW.out _ HC2.out
    obtain ⟨_, _, rfl, ⟨a3, cap3, rfl, _⟩, ⟨a4, cap4, rfl, _⟩⟩ := hx2
    have hl4 : (paths ++ [path]).length = paths.length + 1 := by simp
    rw [hl4] at HX2 ⊢
    have hDr := drop_said _ caps (paths ++ [path]) paths.length _ (w2.alloc (.cells #[.slice a3 caps.length cap3, .slice a4 (paths.length + 1) cap4] 42)) (HX2.out.later ((Below.refl _ _).alloc (Nat.le_refl _) _))
    rw [HD.out, errV_0, okL_0, okL_0, less_add] at hDr
    have HDr : Hid (Calls Try.prog 16 #[.agg #[.slice a3 caps.length cap3, .slice a4 (paths.length + 1) cap4], .int .i64 paths.length] (w2.alloc (.cells #[.slice a3 caps.length cap3, .slice a4 (paths.length + 1) cap4] 42)) fun e w' => ∃ x, e = .returned (.tuple #[x, .nilIface]) ∧ NetAt (fun b => (w2.alloc (.cells #[.slice a3 caps.length cap3, .slice a4 (paths.length + 1) cap4] 42)).heap.size ≤ b) w' x caps paths ∧ Below (w2.alloc (.cells #[.slice a3 caps.length cap3, .slice a4 (paths.length + 1) cap4] 42)).heap.size (w2.alloc (.cells #[.slice a3 caps.length cap3, .slice a4 (paths.length + 1) cap4] 42)) w') := hDr
    have HC2' : Hid (Below (w.heap.size + 1) (w.alloc (.cells #[.slice a1 caps.length cap1, .slice a2 paths.length cap2] 42)) (w2.alloc (.cells #[.slice a3 caps.length cap3, .slice a4 (paths.length + 1) cap4] 42))) := HC2.out.alloc z2 _
    have hne2 : ¬ w.heap.size = w2.heap.size := by omega
    have g1' := cell_later ((Below.refl _ w2).alloc (Nat.le_refl _) (.cells #[.slice a3 caps.length cap3, .slice a4 (paths.length + 1) cap4] 42)) g1
    clear hDr hw2 hl4
    go_wp2_with fail
    refine HDr.out.mono ?_
    rintro e w3 ⟨x3, rfl, hx3, hw3⟩
    have HC3 : Hid (Below (w.heap.size + 1) (w.alloc (.cells #[.slice a1 caps.length cap1, .slice a2 paths.length cap2] 42)) w3) := HC2'.out.trans (hw3.mono (by simp; omega))
    obtain ⟨g0, g1, z3⟩ := HCW.out _ HC3.out
    have q0 : w3.cell? ⟨w2.heap.size, 0, none⟩ = some (.slice a3 caps.length cap3) := cell_later hw3 (by simp)
    have q1 : w3.cell? ⟨w2.heap.size, 1, none⟩ = some (.slice a4 (paths.length + 1) cap4) := cell_later hw3 (by simp)
    have HX3 : Hid (NetAt (fun b => w1.heap.size ≤ b) w3 (.agg #[.slice a3 caps.length cap3, .slice a4 (paths.length + 1) cap4]) caps (paths ++ [path])) := (HX2.out.later ((Below.refl _ _).alloc (Nat.le_refl _) _)).later hw3
    have HY3 : Hid (NetAt (fun _ => True) w3 x3 caps paths) := hx3.keep (fun _ _ _ => rfl) (fun _ _ _ => trivial)
    obtain ⟨_, _, rfl, ⟨a5, cap5, rfl, _⟩, ⟨a6, cap6, rfl, _⟩⟩ := hx3
    have hz3 : w2.heap.size < w3.heap.size := by have := hw3.size; simp at this; omega
    have hne3 : ¬ w.heap.size = w3.heap.size := by omega
    have hne3' : ¬ w2.heap.size = w3.heap.size := by omega
    have g0'' := cell_later ((Below.refl _ w3).alloc (Nat.le_refl _) (.cells #[.slice a5 caps.length cap5, .slice a6 paths.length cap6] 42)) g0
    have g1'' := cell_later ((Below.refl _ w3).alloc (Nat.le_refl _) (.cells #[.slice a5 caps.length cap5, .slice a6 paths.length cap6] 42)) g1
    clear hw3
    have HSn : Hid (∀ o : Obj, Calls Try.prog 17 #[.agg #[.slice a5 caps.length cap5, .slice a6 paths.length cap6], .agg #[.slice a1 caps.length cap1, .slice a2 paths.length cap2]] (w3.alloc o) fun e w' => e = .returned (.bool true) ∧ Below (w3.alloc o).heap.size (w3.alloc o) w') := fun o => by
      have := SNet_any caps caps paths paths _ _ (w3.alloc o) (HY3.out.later ((Below.refl _ _).alloc (Nat.le_refl _) _)) (HV.out.later ((HBW.out _ HC3.out).alloc (HBW.out _ HC3.out).size o))
      rw [eqN_self] at this
      exact this
    go_wp2_with fail
    refine (HSn.out _).mono ?_
    rintro e w4 ⟨rfl, hw4⟩
    have b34 : Below w3.heap.size w3 w4 := ((Below.refl _ _).alloc (Nat.le_refl _) _).trans (hw4.mono (by simp))
    have HC4 : Hid (Below (w.heap.size + 1) (w.alloc (.cells #[.slice a1 caps.length cap1, .slice a2 paths.length cap2] 42)) w4) := HC3.out.trans (b34.mono z3)
    obtain ⟨g0, g1, z4⟩ := HCW.out _ HC4.out
    replace q0 : w4.cell? ⟨w2.heap.size, 0, none⟩ = some (.slice a3 caps.length cap3) := cell_later b34 q0
    replace q1 : w4.cell? ⟨w2.heap.size, 1, none⟩ = some (.slice a4 (paths.length + 1) cap4) := cell_later b34 q1
    have hUs := users_said _ caps (paths ++ [path]) link _ w4 (HX3.out.later b34)
    have hwr : IntKind.i64.wrap ((paths.length : Int) + 1) = (paths.length : Int) + 1 := by rw [IntKind.wrap_i64]; omega
    have hbq : (((paths.length : Int) + 1) == ((paths.length : Int) + 1)) = true := by simp
    clear hw4 b34
    have hUn := fun (u : World) (hu : Below (w.heap.size + 1) (w.alloc (.cells #[.slice a1 caps.length cap1, .slice a2 paths.length cap2] 42)) u) => users_said _ caps paths link _ u (HV.out.later (HBW.out _ hu))
    by_cases hlk : link < 0 ∨ (caps.length : Int) ≤ link
    · rw [HU1.out, if_pos hlk, okL_ne (by decide), errV_ne (by decide)] at hUs
      rw [HU2.out, if_pos hlk, okL_ne (by decide), errV_ne (by decide)] at hUn
      have HUs : Hid (Calls Try.prog 14 #[.agg #[.slice a3 caps.length cap3, .slice a4 (paths.length + 1) cap4], .int .i64 link] w4 fun e w' => ∃ x, e = .returned (.tuple #[x, .iface 23 (.int .i64 1)]) ∧ IntsAt (fun b => w4.heap.size ≤ b) w' x [] ∧ Below w4.heap.size w4 w') := hUs
      have HUn : Hid (∀ u : World, Below (w.heap.size + 1) (w.alloc (.cells #[.slice a1 caps.length cap1, .slice a2 paths.length cap2] 42)) u → Calls Try.prog 14 #[.agg #[.slice a1 caps.length cap1, .slice a2 paths.length cap2], .int .i64 link] u fun e w' => ∃ x, e = .returned (.tuple #[x, .iface 23 (.int .i64 1)]) ∧ IntsAt (fun b => u.heap.size ≤ b) w' x [] ∧ Below u.heap.size u w') := hUn
      clear hUs hUn
      go_wp2_with fail
      refine HUs.out.mono ?_
      rintro e w5 ⟨xu, rfl, hxu, hw5⟩
      have HC5 : Hid (Below (w.heap.size + 1) (w.alloc (.cells #[.slice a1 caps.length cap1, .slice a2 paths.length cap2] 42)) w5) := HC4.out.trans (hw5.mono z4)
      obtain ⟨g0, g1, z5⟩ := HCW.out _ HC5.out
      obtain ⟨_, _, rfl, _⟩ := hxu
      clear hw5
      go_wp2_with fail
      refine (HUn.out _ HC5.out).mono ?_
      rintro e w6 ⟨xn, rfl, hxn, hw6⟩
      have HC6 : Hid (Below (w.heap.size + 1) (w.alloc (.cells #[.slice a1 caps.length cap1, .slice a2 paths.length cap2] 42)) w6) := HC5.out.trans (hw6.mono z5)
      obtain ⟨g0, g1, z6⟩ := HCW.out _ HC6.out
      obtain ⟨_, _, rfl, _⟩ := hxn
      clear hw6
      by_cases hneg : link < 0
      · clear hlk
        go_wp2
        go_ret
        exact ⟨ret_bool rfl, HBW.out _ HC6.out⟩
      · have hge : decide ((caps.length : Int) ≤ link) = true := by simp; omega
        clear hlk
        go_wp2
        go_ret
        exact ⟨ret_bool rfl, HBW.out _ HC6.out⟩
    · rw [HU1.out, if_neg hlk, okL_0, errV_0] at hUs
      rw [HU2.out, if_neg hlk, okL_0, errV_0] at hUn
      have hul := users_length link 0 paths
      have HUA : Hid (users (paths ++ [path]) link = users paths link ++ (if inB path link then [(paths.length : Int)] else [])) := users_add paths path link
      change (users paths link).length ≤ paths.length at hul
      generalize users (paths ++ [path]) link = us1 at *
      generalize users paths link = us at *
      have HUs : Hid (Calls Try.prog 14 #[.agg #[.slice a3 caps.length cap3, .slice a4 (paths.length + 1) cap4], .int .i64 link] w4 fun e w' => ∃ x, e = .returned (.tuple #[x, .nilIface]) ∧ IntsAt (fun b => w4.heap.size ≤ b) w' x us1 ∧ Below w4.heap.size w4 w') := hUs
      have HUn : Hid (∀ u : World, Below (w.heap.size + 1) (w.alloc (.cells #[.slice a1 caps.length cap1, .slice a2 paths.length cap2] 42)) u → Calls Try.prog 14 #[.agg #[.slice a1 caps.length cap1, .slice a2 paths.length cap2], .int .i64 link] u fun e w' => ∃ x, e = .returned (.tuple #[x, .nilIface]) ∧ IntsAt (fun b => u.heap.size ≤ b) w' x us ∧ Below u.heap.size u w') := hUn
      clear hUs hUn hlk
      go_wp2_with fail
      refine HUs.out.mono ?_
      rintro e w5 ⟨xu, rfl, hxu, hw5⟩
      have HC5 : Hid (Below (w.heap.size + 1) (w.alloc (.cells #[.slice a1 caps.length cap1, .slice a2 paths.length cap2] 42)) w5) := HC4.out.trans (hw5.mono z4)
      obtain ⟨g0, g1, z5⟩ := HCW.out _ HC5.out
      have HXU5 : Hid (IntsAt (fun _ => True) w5 xu us1) := hxu.keep (fun _ _ _ => rfl) (fun _ _ _ => trivial)
      obtain ⟨au, capu, rfl, ⟨hmu, hnu⟩, _⟩ := hxu
      clear hw5
      go_wp2_with fail
      refine (HUn.out _ HC5.out).mono ?_
      rintro e w6 ⟨xn, rfl, hxn, hw6⟩
      have HC6 : Hid (Below (w.heap.size + 1) (w.alloc (.cells #[.slice a1 caps.length cap1, .slice a2 paths.length cap2] 42)) w6) := HC5.out.trans (hw6.mono z5)
      have HXN : Hid (IntsAt (fun _ => True) w6 xn us) := hxn.keep (fun _ _ _ => rfl) (fun _ _ _ => trivial)
      have HXU : Hid (IntsAt (fun _ => True) w6 (.slice au us1.length capu) us1) := HXU5.out.later hw6
      have HPc : Hid (∀ i, i < path.length → ∃ b off, ap = some ⟨b, off, none⟩ ∧ w6.cell? ⟨b, off + i, none⟩ = some (.int .i64 (path.getD i 0))) := by
        intro i hi
        obtain ⟨_, _, e, _, h⟩ := HP.out.later (HBW.out _ HC6.out)
        simp only [Value.slice.injEq] at e
        obtain ⟨rfl, _, rfl⟩ := e
        rcases h with rfl | ⟨b, off, rfl, h, _⟩
        · simp at hi
        · exact ⟨b, off, rfl, h i hi⟩
      obtain ⟨an, capn, rfl, ⟨hmn, hnn⟩, _⟩ := hxn
      clear hw6 g0 g1 q0 q1 x1c g1' g0'' g1''
      go_wp2
      go_loop [18, 19] (fun o i => ∃ k : Nat, k ≤ path.length ∧ i = .int .i64 k ∧ o = .bool (inB (path.take k) link)) (fun _ i => path.length - (intOf i).toNat)
      case atStart => exact ⟨0, by omega, rfl, rfl⟩
      case round =>
        obtain ⟨k, hk, rfl, rfl⟩ := hrel
        by_cases hlt : k < path.length
        · obtain ⟨b, off, rfl, hc⟩ := HPc.out k hlt
          have HS : Hid (inB (path.take (k + 1)) link = (inB (path.take k) link || path.getD k 0 == link)) := by show _ = _; rw [take_snoc path k hlt 0, inB_snoc]
          generalize path.getD k 0 = x at hc HS
          cases hb : inB (path.take k) link with
          | true =>
            have HS' : Hid (inB (path.take (k + 1)) link = true) := by show _ = _; rw [HS.out, hb]; rfl
            go_wp2
            go_round
            case rel => exact ⟨k + 1, by omega, by go_num, by rw [HS'.out]⟩
            case measure => simp [intOf]; omega
          | false =>
            have HS' : Hid (inB (path.take (k + 1)) link = (x == link)) := by show _ = _; rw [HS.out, hb]; rfl
            generalize hxl : (x == link) = bx' at HS'
            go_wp2
            go_round
            case rel => exact ⟨k + 1, by omega, by go_num, by rw [HS'.out]⟩
            case measure => simp [intOf]; omega
        · rw [List.take_of_length_le (by omega)]
          cases hb : inB path link with
          | false =>
            have e1 : us1 = us := by rw [HUA.out, hb]; simp
            subst e1
            have HSi : Hid (Calls Try.prog 18 #[.slice au us1.length capu, .slice an us1.length capn] w6 fun e w' => e = .returned (.bool true) ∧ ∃ n, w' = w6.drewN n) := by
              have := SInts_any us1 us1 _ _ w6 HXU.out HXN.out
              rw [eqI_self] at this
              exact this
            go_wp2_with fail
            refine HSi.out.mono ?_
            rintro e w7 ⟨rfl, n7, rfl⟩
            go_wp2
            go_ret
            exact ⟨ret_bool rfl, below_drewN (HBW.out _ HC6.out) _⟩
          | true =>
            have e1 : us1 = us ++ [(paths.length : Int)] := by rw [HUA.out, hb]; simp
            have el : us1.length = us.length + 1 := by rw [e1]; simp
            have hXU := HXU.out
            obtain ⟨au', capu', e, ⟨hm', hn'⟩, hcs⟩ := hXU
            simp only [Value.slice.injEq] at e
            obtain ⟨rfl, _, rfl⟩ := e
            rcases hcs with h | ⟨bu, ou, rfl, hcs, _⟩
            · rw [h] at el; simp at el
            have hcu : w6.cell? ⟨bu, ou + us.length, none⟩ = some (.int .i64 paths.length) := by
              rw [hcs us.length (by omega), e1]
              simp [List.getD]
            have htk : us1.take us.length = us := by rw [e1]; simp
            have HSi : Hid (Calls Try.prog 18 #[.slice (some ⟨bu, ou, none⟩) us.length capu, .slice an us.length capn] w6 fun e w' => e = .returned (.bool true) ∧ ∃ n, w' = w6.drewN n) := by
              have h := IntsAt.take (Q := fun _ => True) hm' hn' hcs us.length (by omega) trivial
              rw [htk] at h
              have := SInts_any us us _ _ w6 h HXN.out
              rw [eqI_self] at this
              exact this
            have hwr2 : IntKind.i64.wrap ((us.length : Int) + 1) = (us.length : Int) + 1 := by rw [IntKind.wrap_i64]; omega
            have hkc : (us.length : Int) ≤ (capu : Int) := by omega
            have hkl : us.length < us.length + 1 := by omega
            rw [el]
            clear hcs e1 htk el hb
            go_wp2_with fail
            refine HSi.out.mono ?_
            rintro e w7 ⟨rfl, n7, rfl⟩
            go_wp2
            go_ret
            exact ⟨ret_bool rfl, below_drewN (HBW.out _ HC6.out) _⟩
  · have HV' : Hid (errV (addE caps paths path) = .iface 23 (.int .i64 (addE caps paths path))) := errV_ne hA
    rw [HV'.out] at hAd
    have HAd : Hid (Calls Try.prog 15 #[.agg #[.slice a1 caps.length cap1, .slice a2 paths.length cap2], .slice ap path.length capp] w1 fun e w' => ∃ x, e = .returned (.tuple #[x, .iface 23 (.int .i64 (addE caps paths path))]) ∧ NetAt (fun b => w1.heap.size ≤ b) w' x (okL (addE caps paths path) caps) (okL (addE caps paths path) (paths ++ [path])) ∧ Below w1.heap.size w1 w') := hAd
    generalize addE caps paths path = ek at *
    clear hAd hA
    go_wp2_with fail
    refine HAd.out.mono ?_
    rintro e w2 ⟨x2, rfl, hx2, hw2⟩
    have HC2 : Hid (Below (w.heap.size + 1) (w.alloc (.cells #[.slice a1 caps.length cap1, .slice a2 paths.length cap2] 42)) w2) := HC1.out.trans (hw2.mono z1)
    obtain ⟨g0, g1, z2⟩ := HCW.out _ HC2.out
    obtain ⟨a, n, c, a', n', c', rfl⟩ := hx2.shape
    clear hw2 hx2
    go_wp2
    go_ret
    exact ⟨ret_bool rfl, (HBW.out _ HC2.out).alloc (by omega) _⟩
end Ns
end Go.Proofs.Ytldhapldkjokkaa
