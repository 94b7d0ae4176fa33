/- Pieces of one walk, one text behind the other. -/
import Derived.Test.YtpnmmmlckdkcdakGreatDoorPlains
import Derived.Test.YtpnmmmlckdkcdakGreatDoorNetA
import Derived.Laws.CopyOwn
import Derived.Deep.RegionLaw
import Derived.OwnWalk
import Derived.Test.YtpnmmmlckdkcdakGreatDoorFracAll
import Derived.Deep.DeepCutAuto
import Derived.Test.YtpnmmmlckdkcdakGreatDoorNetB
import Derived.Maps.AppendAt
/- The library's Repeat of one bool, Index and Contains at bools; package fill's negative. -/
namespace Go.Proofs.YtpnmmmlckdkcdakGreatDoor
namespace Fl
open Go.RowKit Fr Ns Ld
set_option linter.unusedSimpArgs false
set_option linter.unusedVariables false

set_option maxRecDepth 100000 in
theorem Mul64_one (n : Nat) (w : World) (h1 : 1 ≤ n) (h6 : n ≤ 6) :
    Calls Tryz.prog 152 #[.int .u64 1, .int .u64 n] w fun e w' => e = .returned (.tuple #[.int .u64 0, .int .u64 n]) ∧ w' = w := by
  have hn : n = 1 ∨ n = 2 ∨ n = 3 ∨ n = 4 ∨ n = 5 ∨ n = 6 := by omega
  clear h1 h6
  rcases hn with rfl | rfl | rfl | rfl | rfl | rfl <;>
    (go_enter Tryz.func152, Tryz.ntmps152
     go_wp2
     exact bodyPost_ret (by simp [results, Tryz.results152, go_sem]; rfl) rfl ⟨rfl, rfl⟩)

set_option maxRecDepth 100000 in
theorem Mul_one (n : Nat) (w : World) (h1 : 1 ≤ n) (h6 : n ≤ 6) :
    Calls Tryz.prog 123 #[.int .u64 1, .int .u64 n] w fun e w' => e = .returned (.tuple #[.int .u64 0, .int .u64 n]) ∧ w' = w := by
  have HM : Hid (Calls Tryz.prog 152 #[.int .u64 1, .int .u64 n] w fun e w' => e = .returned (.tuple #[.int .u64 0, .int .u64 n]) ∧ w' = w) := Mul64_one n w h1 h6
  go_enter Tryz.func123, Tryz.ntmps123
  go_wp2_with fail
  refine HM.out.mono ?_
  rintro e w ⟨rfl, rfl⟩
  go_wp2
  exact bodyPost_ret (v := .tuple #[.int .u64 0, .int .u64 n]) (by simp [results, Tryz.results123, go_sem]) rfl ⟨rfl, rfl⟩

theorem FNeg_any (t b : Int) (w : World) (h : fault t b = 0) :
    Calls Tryz.prog 174 #[.agg #[.int .i64 t, .int .i64 b]] w fun e w' => e = .returned (.agg #[.int .i64 (-t), .int .i64 b]) ∧ Below w.heap.size w w' := by
  obtain ⟨h1, h2, h3, h4⟩ := fault_0 h
  clear h
  go_enter Tryz.func174, Tryz.ntmps174
  go_wp2
  refine bodyPost_ret (v := .agg #[.int .i64 (-t), .int .i64 b]) (by simp [results, Tryz.results174, go_sem]) rfl ⟨rfl, ?_⟩
  repeat (first | exact Below.refl _ _ | refine Below.setCell ?_ (by simp) _ | refine Below.alloc ?_ (by simp) _ | refine Below.drew ?_)

theorem any_snoc (l : List Bool) (i : Nat) (h : i < l.length) : (l.take (i + 1)).any id = ((l.take i).any id || l.getD i false) := by
  rw [take_snoc l i h false, List.any_append]
  simp

set_option maxHeartbeats 400000 in
theorem IndexB_any (l : List Bool) (g : Nat) (w : World) (h : RowAt w g 4 (boolsV l)) (hl : l.length ≤ 1000) :
    Calls Tryz.prog 124 #[.slice (some ⟨g, 0, none⟩) l.length l.length, .bool true] w fun e w' => ∃ j : Int, e = .returned (.int .i64 j) ∧ decide (0 ≤ j) = l.any id ∧ w' = w := by
  have H : Hid (∀ i, i < l.length → w.cell? ⟨g, i, none⟩ = some (.bool (l.getD i false))) := fun i hi => h.cell (bools_cell hi)
  clear h
  go_enter Tryz.func124, Tryz.ntmps124
  go_wp2
  go_loop [5, 8] (fun _ i => ∃ k : Nat, k ≤ l.length ∧ i = .int .i64 k ∧ Hid ((l.take k).any id = false)) (fun _ i => l.length - (intOf i).toNat)
  case atStart => exact ⟨0, by omega, rfl, rfl⟩
  case round =>
    obtain ⟨k, hk, rfl, hn⟩ := hrel
    by_cases hlt : k < l.length
    · have hc := H.out k hlt
      have hs : Hid ((l.take (k + 1)).any id = ((l.take k).any id || l.getD k false)) := any_snoc l k hlt
      have hme : Hid (l.getD k false ∈ l) := getD_mem l k hlt false
      generalize l.getD k false = x at hc hs hme
      cases x with
      | true =>
        have HR : Hid (l.any id = true) := List.any_eq_true.2 ⟨true, hme.out, rfl⟩
        go_wp2
        go_ret
        exact ⟨_, rfl, by rw [HR.out]; simp, rfl⟩
      | false =>
        have HR : Hid ((l.take (k + 1)).any id = false) := by show _ = _; rw [hs.out, hn.out]; rfl
        go_wp2
        go_round
        case rel => exact ⟨k + 1, by omega, by go_num, HR⟩
        case measure => simp [intOf]; omega
    · go_wp2
      go_ret
      refine ⟨_, rfl, ?_, rfl⟩
      have := hn.out
      rw [List.take_of_length_le (by omega)] at this
      rw [this]
      rfl

theorem ContainsB_any (l : List Bool) (g : Nat) (w : World) (h : RowAt w g 4 (boolsV l)) (hl : l.length ≤ 1000) :
    Calls Tryz.prog 96 #[.slice (some ⟨g, 0, none⟩) l.length l.length, .bool true] w fun e w' => e = .returned (.bool (l.any id)) ∧ w' = w := by
  have HI : Hid (Calls Tryz.prog 124 #[.slice (some ⟨g, 0, none⟩) l.length l.length, .bool true] w fun e w' => ∃ j : Int, e = .returned (.int .i64 j) ∧ decide (0 ≤ j) = l.any id ∧ w' = w) := IndexB_any l g w h hl
  go_enter Tryz.func96, Tryz.ntmps96
  go_wp2_with fail
  refine HI.out.mono ?_
  rintro e w ⟨j, rfl, hj, rfl⟩
  have HJ : Hid (decide (0 ≤ j) = l.any id) := hj
  clear hj
  go_wp2
  go_ret
  exact ⟨ret_bool HJ.out, rfl⟩

/-- the first k of n are true -/
def firstT (n k : Nat) : List Value := boolsV (List.replicate k true ++ List.replicate (n - k) false)
theorem firstT_length {n k : Nat} (h : k ≤ n) : (firstT n k).length = n := by simp [firstT, boolsV]; omega
theorem firstT_all (n : Nat) : firstT n n = boolsV (List.replicate n true) := by simp [firstT]
theorem firstT_cell {n k j : Nat} (hk : k ≤ n) (hj : j < k) : (firstT n k)[j]? = some (.bool true) := by
  unfold firstT boolsV
  rw [List.getElem?_map, List.getElem?_append_left (by simpa using hj), List.getElem?_replicate, if_pos hj]
  rfl
theorem firstT_splice {n k m : Nat} (hk : k + m ≤ n) : splice (firstT n k) k (List.replicate m (.bool true)) = firstT n (k + m) := by
  unfold splice firstT boolsV
  simp only [List.map_append, List.map_replicate, List.length_replicate]
  rw [List.take_left' (by simp), ← List.append_assoc, List.replicate_append_replicate, List.drop_append]
  congr 1
  simp
  omega

set_option maxRecDepth 100000 in
set_option maxHeartbeats 2000000 in
theorem Repeat_any (n g : Nat) (w : World) (h1 : 1 ≤ n) (h6 : n ≤ 6) (hg : RowAt w g 4 [.bool true]) :
    Calls Tryz.prog 95 #[.slice (some ⟨g, 0, none⟩) 1 1, .int .i64 n] w fun e w' => ∃ k, e = .returned (.slice (some ⟨k, 0, none⟩) n n) ∧ w.heap.size ≤ k ∧ RowAt w' k 4 (boolsV (List.replicate n true)) ∧ Below w.heap.size w w' := by
  have HM : Hid (Calls Tryz.prog 123 #[.int .u64 1, .int .u64 n] w fun e w' => e = .returned (.tuple #[.int .u64 0, .int .u64 n]) ∧ w' = w) := Mul_one n w h1 h6
  obtain ⟨j0, hJ, hy0, hy1, hy2⟩ := info_parts infoBool
  have hsz : (Tryz.prog.info? 4).map (·.size) = some 1 := by rw [hJ]; simp [hy1]
  have hc0 := hg.cell (i := 0) rfl
  have hu : IntKind.u64.wrap (n : Int) = n := by rw [IntKind.wrap_u64]; omega
  have hu1 : IntKind.i64.wrap (n : Int) = n := by rw [IntKind.wrap_i64]; omega
  go_enter Tryz.func95, Tryz.ntmps95
  go_wp2_with fail
  refine HM.out.mono ?_
  rintro e w ⟨rfl, rfl⟩
  go_wp2_with (at_make; go_must (refine wpList_make_full _ rfl _ _ 134 rfl w.heap.size 4 j0 (.bool false) 1 Tryz.underlying134 hJ hy0 hy1 .i64 .i64 _ _ n rfl rfl rfl rfl ?b2 ?b3 ?b4 ?_))
  case b2 => rw [hy2]; omega
  case b3 => unfold maxLen; omega
  case b4 => simp
  intro w1 hown hgrow
  have hown' : w1.ownsRow w.heap.size 4 1 (.slice (some ⟨w.heap.size, 0, none⟩) n n) n (madeCells #[.bool false] n).toList := by simpa using hown
  rw [made_bools] at hown'
  have R1 : RowAt w1 w.heap.size 4 (firstT n 0) := by
    have := RowAt.of_owns hown'
    simpa [firstT] using this
  have B1 : Below w.heap.size w w1 := (Below.refl _ _).grown hgrow (by simp) (by intro k hk; cases hk)
  have hc1 := (hg.later B1 hg.lt).cell (i := 0) rfl
  clear hown hgrow hown' hc0
  have hz : w.heap.size < w1.heap.size := R1.lt
  have S1 : Hid (splice (firstT n 0) 0 [.bool true] = firstT n 1) := firstT_splice (n := n) (k := 0) (m := 1) (by omega)
  obtain ⟨w2, hrun, R2, B2⟩ : ∃ w2, (Builtin.copy_ #[134, 134] 3 #[.slice (some ⟨w.heap.size, 0, none⟩) n n, .slice (some ⟨g, 0, none⟩) 1 1]).run Tryz.prog w1 = .ok (.int .i64 1) w2 ∧ Hid (RowAt w2 w.heap.size 4 (firstT n 1)) ∧ Hid (Below w.heap.size w w2) := by
    have hrun := run_copy_row (P := Tryz.prog) w1 134 134 3 4 w.heap.size 0 n n ⟨g, 0, none⟩ 1 1 (firstT n 0).toArray 4 [.bool true] Tryz.underlying134 hsz R1 (by simp; show 1 = min 1 n; omega) (by
      intro j v hj
      match j, hj with
      | 0, hj => simp at hj; subst hj; exact hc1) (by have := firstT_length (n := n) (k := 0) (by omega); simp [this]; omega) (by intro v hv; simp at hv; subst hv; rfl)
    refine ⟨_, hrun, ?_, below_setRow B1 (Nat.le_refl _) _⟩
    show RowAt _ _ _ _
    rw [← S1.out]
    have := setRow_heap w1 w.heap.size _ (splice (firstT n 0) 0 [.bool true]).toArray 4 (0, 0) R1
    simpa [splice, RowAt] using this
  clear R1 B1 hc1 hz
  go_wp2
  go_loopw [8] (fun s8 wr => ∃ k : Nat, 1 ≤ k ∧ k ≤ n ∧ s8 = .int .i64 k ∧ Hid (RowAt wr w.heap.size 4 (firstT n k)) ∧ Hid (Below w.heap.size w wr)) (fun s8 _ => n - (intOf s8).toNat)
  case atStart => exact ⟨1, by omega, by omega, rfl, R2, B2⟩
  case round =>
    obtain ⟨k, hk1, hkn, rfl, hr, hb⟩ := hrel
    by_cases hlt : k < n
    · obtain ⟨m, hm⟩ : ∃ m, m = Nat.min k (n - k) := ⟨_, rfl⟩
      have hm1 : 1 ≤ m := by rw [hm]; show 1 ≤ min k (n - k); omega
      have hm2 : k + m ≤ n := by rw [hm]; show k + min k (n - k) ≤ n; omega
      have S2 : splice (firstT n k) k (List.replicate m (.bool true)) = firstT n (k + m) := firstT_splice hm2
      obtain ⟨w3, hrun2, R3, B3⟩ : ∃ w3, (Builtin.copy_ #[134, 134] 3 #[.slice (some ⟨w.heap.size, k, none⟩) (n - k) (n - k), .slice (some ⟨w.heap.size, 0, none⟩) k n]).run Tryz.prog wr.drew = .ok (.int .i64 (m : Nat)) w3 ∧ Hid (RowAt w3 w.heap.size 4 (firstT n (k + m))) ∧ Hid (Below w.heap.size w w3) := by
        have hr' : RowAt wr.drew w.heap.size 4 (firstT n k) := hr.out
        have hrun := run_copy_row (P := Tryz.prog) wr.drew 134 134 3 4 w.heap.size k (n - k) (n - k) ⟨w.heap.size, 0, none⟩ k n (firstT n k).toArray 4 (List.replicate m (.bool true)) Tryz.underlying134 hsz hr' (by rw [List.length_replicate, hm]) (by
          intro j v hj
          rw [List.getElem?_replicate] at hj
          split at hj
          · rename_i hjm
            obtain rfl := Option.some.inj hj
            rw [add_addr, Nat.zero_add]
            have hkm : m ≤ k := by rw [hm]; exact Nat.min_le_left _ _
            exact hr'.cell (firstT_cell hkn (by omega))
          · cases hj) (by have := firstT_length hkn; simp [this]; omega) (by intro v hv; rw [List.mem_replicate] at hv; rw [hv.2]; rfl)
        rw [List.length_replicate] at hrun
        refine ⟨_, hrun, ?_, below_setRow hb.out.drew (Nat.le_refl _) _⟩
        show RowAt _ _ _ _
        rw [← S2]
        have := setRow_heap wr.drew w.heap.size _ (splice (firstT n k) k (List.replicate m (.bool true))).toArray 4 (0, 0) hr'
        simpa [splice, RowAt] using this
      clear S2
      have hne : ¬ n = k := by omega
      have hne' : ¬ k = n := by omega
      clear hrun
      go_wp2_with fail
      go_region
      go_wp2
      go_roundw
      case rel => exact ⟨k + m, by omega, by omega, by go_num, R3, B3⟩
      case measure => simp [intOf]; omega
    · obtain rfl : k = n := by omega
      have R3 : Hid (RowAt wr w.heap.size 4 (boolsV (List.replicate k true))) := by rw [← firstT_all]; exact hr
      clear hrun
      go_wp2
      go_ret
      exact ⟨_, rfl, Nat.le_refl _, R3.out, hb.out⟩
end Fl
end Go.Proofs.YtpnmmmlckdkcdakGreatDoor

/- What package fill's own struct holds, and its sharers. -/
namespace Go.Proofs.YtpnmmmlckdkcdakGreatDoor
namespace Fl
open Go.RowKit Fr Ns Ld
set_option linter.unusedSimpArgs false
set_option linter.unusedVariables false

/-- how far the flows of a net have come, as it lies in memory -/
def FillW (caps : List Int) (paths : List (List Int)) (rate : List (Int × Int)) (done : List Bool) (gF gf gr : Nat) (v : Value) (w : World) : Prop :=
  ∃ a1 cap1 a2 cap2, v = .agg #[.slice a1 caps.length cap1, .slice a2 paths.length cap2] ∧
    RowAt w gF 153 [.slice a1 caps.length cap1, .slice a2 paths.length cap2, .slice (some ⟨gf, 0, none⟩) paths.length paths.length, .slice (some ⟨gr, 0, none⟩) paths.length paths.length] ∧
    NetAt (fun b => b ≠ gF ∧ b ≠ gf ∧ b ≠ gr) w v caps paths ∧ RowAt w gf 4 (boolsV (freeL done)) ∧ RowAt w gr 58 (flat rate)
theorem FillW.later {caps : List Int} {paths : List (List Int)} {rate : List (Int × Int)} {done : List Bool} {gF gf gr : Nat} {v : Value} {w w' : World} (h : FillW caps paths rate done gF gf gr v w) (hb : Below w.heap.size w w') : FillW caps paths rate done gF gf gr v w' := by
  obtain ⟨a1, cap1, a2, cap2, e, h1, h2, h3, h4⟩ := h
  exact ⟨a1, cap1, a2, cap2, e, h1.later hb h1.lt, h2.later hb, h3.later hb h3.lt, h4.later hb h4.lt⟩
/-- what a walk reads of it, in this world and in every later one -/
theorem FillW.facts {caps : List Int} {paths : List (List Int)} {rate : List (Int × Int)} {done : List Bool} {gF gf gr : Nat} {v : Value} {w : World} (h : FillW caps paths rate done gF gf gr v w) (hld : done.length = paths.length) (hlr : rate.length = paths.length) :
    ∃ a1 cap1 a2 cap2, v = .agg #[.slice a1 caps.length cap1, .slice a2 paths.length cap2] ∧ (caps.length ≤ cap1 ∧ caps.length ≤ 9223372036854775807) ∧ (paths.length ≤ cap2 ∧ paths.length ≤ 9223372036854775807) ∧ (gF < w.heap.size ∧ gf < w.heap.size ∧ gr < w.heap.size) ∧
      Hid (∀ u, Below w.heap.size w u → u.cell? ⟨gF, 0, none⟩ = some (.slice a1 caps.length cap1) ∧ u.cell? ⟨gF, 1, none⟩ = some (.slice a2 paths.length cap2) ∧ u.cell? ⟨gF, 2, none⟩ = some (.slice (some ⟨gf, 0, none⟩) paths.length paths.length) ∧ u.cell? ⟨gF, 3, none⟩ = some (.slice (some ⟨gr, 0, none⟩) paths.length paths.length)) ∧
      Hid (∀ i, i < paths.length → ∀ u, Below w.heap.size w u → u.cell? ⟨gf, i, none⟩ = some (.bool (!dB done i))) ∧
      Hid (∀ i, i < paths.length → ∀ u, Below w.heap.size w u → u.cell? ⟨gr, i * 2, none⟩ = some (.int .i64 (rP rate i).1) ∧ u.cell? ⟨gr, i * 2 + 1, none⟩ = some (.int .i64 (rP rate i).2)) ∧
      Hid (∀ i, i < caps.length → ∃ b off, a1 = some ⟨b, off, none⟩ ∧ ∀ u, Below w.heap.size w u → u.cell? ⟨b, off + i, none⟩ = some (.int .i64 (caps.getD i 0))) ∧
      Hid (∀ i, i < paths.length → ∃ b off x, a2 = some ⟨b, off, none⟩ ∧ ∀ u, Below w.heap.size w u → u.cell? ⟨b, off + i, none⟩ = some x ∧ IntsAt (fun _ => True) u x (paths.getD i [])) := by
  obtain ⟨a1, cap1, a2, cap2, rfl, hF, hN, hf, hr⟩ := h
  obtain ⟨v1, v2, e, h1, h2⟩ := hN
  simp only [Value.agg.injEq, Array.mk.injEq, List.cons.injEq, and_true] at e
  obtain ⟨rfl, rfl⟩ := e
  obtain ⟨_, _, e, hm1, hc1⟩ := h1
  simp only [Value.slice.injEq] at e
  obtain ⟨rfl, _, rfl⟩ := e
  obtain ⟨_, _, e, hm2, hc2⟩ := h2
  simp only [Value.slice.injEq] at e
  obtain ⟨rfl, _, rfl⟩ := e
  refine ⟨a1, cap1, a2, cap2, rfl, hm1, hm2, ⟨hF.lt, hf.lt, hr.lt⟩, fun u hu => ?_, fun i hi u hu => ?_, fun i hi u hu => ?_, fun i hi => ?_, fun i hi => ?_⟩
  · have := hF.later hu hF.lt
    exact ⟨this.cell (i := 0) rfl, this.cell (i := 1) rfl, this.cell (i := 2) rfl, this.cell (i := 3) rfl⟩
  · exact (hf.later hu hf.lt).cell (free_cell (by omega))
  · obtain ⟨e1, e2⟩ := flat_cells (rate := rate) (m := i) (by omega)
    exact ⟨(hr.later hu hr.lt).cell e1, (hr.later hu hr.lt).cell e2⟩
  · rcases hc1 with rfl | ⟨b, off, rfl, hc, _⟩
    · simp at hi
    · exact ⟨b, off, rfl, fun u hu => cell_later hu (hc i hi)⟩
  · rcases hc2 with rfl | ⟨b, off, rfl, hc, _⟩
    · simp at hi
    · obtain ⟨x, hx, hxi⟩ := hc i hi
      exact ⟨b, off, x, rfl, fun u hu => ⟨cell_later hu hx, (hxi.later hu).keep (fun _ _ _ => rfl) (fun _ _ _ => trivial)⟩⟩

set_option maxHeartbeats 1000000 in
theorem sharers_any (caps : List Int) (paths : List (List Int)) (rate : List (Int × Int)) (done : List Bool) (gF gf gr : Nat) (v : Value) (w : World) (l : Nat) (h : FillW caps paths rate done gF gf gr v w) (hld : done.length = paths.length) (hlr : rate.length = paths.length) (h6 : paths.length ≤ 6) :
    Calls Tryz.prog 153 #[.pointer (some ⟨gF, 0, none⟩), .int .i64 l] w fun e w' => e = .returned (.int .i64 ((linkTo caps paths rate done l paths.length).2 : Nat)) ∧ w' = w := by
  obtain ⟨a1, cap1, a2, cap2, rfl, ⟨hm1, hn1⟩, ⟨hm2, hn2⟩, ⟨z1, z2, z3⟩, HF, Hf, Hr, HC, HP⟩ := h.facts hld hlr
  have HS : Hid (∀ k, k < paths.length → (linkTo caps paths rate done l (k + 1)).2 = if inB (paths.getD k []) l = true then (if dB done k = true then (linkTo caps paths rate done l k).2 else (linkTo caps paths rate done l k).2 + 1) else (linkTo caps paths rate done l k).2) := fun k hk => by
    rw [linkTo_step hk]
    split
    · split <;> rfl
    · rfl
  have HL : Hid (∀ k, k ≤ paths.length → (linkTo caps paths rate done l k).2 ≤ k) := fun k hk => linkTo_free k hk
  have H0 : Hid (Value.int .i64 0 = .int .i64 ((linkTo caps paths rate done l 0).2 : Nat)) := rfl
  generalize (fun k => (linkTo caps paths rate done l k).2) = LS at *
  obtain ⟨LS, hLS⟩ : ∃ LS : Nat → Nat, ∀ k, (linkTo caps paths rate done l k).2 = LS k := ⟨_, fun _ => rfl⟩
  simp only [hLS] at HS HL H0 ⊢
  obtain ⟨c0, c1, c2, c3⟩ := HF.out w (Below.refl _ _)
  clear hLS h
  go_enter Tryz.func153, Tryz.ntmps153
  go_wp2
  go_loop [5, 6, 7, 14] (fun m _ _ i => ∃ k : Nat, k ≤ paths.length ∧ i = .int .i64 k ∧ m = .int .i64 (LS k : Nat)) (fun _ _ _ i => paths.length - (intOf i).toNat)
  case atStart => exact ⟨0, by omega, rfl, H0.out⟩
  case round =>
    obtain ⟨k, hk, rfl, rfl⟩ := hrel
    have hlk := HL.out k hk
    by_cases hlt : k < paths.length
    · obtain ⟨b, off, x, rfl, hx⟩ := HP.out k hlt
      obtain ⟨cx, hxi⟩ := hx w (Below.refl _ _)
      have cf := Hf.out k hlt w (Below.refl _ _)
      have hs := HS.out k hlt
      have HCo : Hid (Calls Tryz.prog 69 #[x, .int .i64 l] w fun e w' => e = .returned (.bool (inB (paths.getD k []) l)) ∧ w' = w) := Contains_any _ _ _ w hxi
      clear hx
      generalize paths.getD k [] = pf at *
      obtain ⟨ax, capx, rfl, _⟩ := hxi
      generalize inB pf l = ib at *
      cases hd : dB done k with
      | true =>
        rw [hd] at cf hs
        have HN : Hid (LS (k + 1) = LS k) := by
          show _ = _
          rw [hs]
          simp
        clear hs hd
        go_wp2
        go_round
        case rel => exact ⟨k + 1, by omega, by go_num, by rw [HN.out]⟩
        case measure => simp [intOf]; omega
      | false =>
        rw [hd] at cf hs
        cases ib with
        | true =>
          have HN : Hid (LS (k + 1) = LS k + 1) := by
            show _ = _
            rw [hs]
            simp
          clear hs hd
          go_wp2_with fail
          refine HCo.out.mono ?_
          rintro e w ⟨rfl, rfl⟩
          go_wp2
          go_round
          case rel => exact ⟨k + 1, by omega, by go_num, by rw [HN.out]; go_num⟩
          case measure => simp [intOf]; omega
        | false =>
          have HN : Hid (LS (k + 1) = LS k) := by
            show _ = _
            rw [hs]
            simp
          clear hs hd
          go_wp2_with fail
          refine HCo.out.mono ?_
          rintro e w ⟨rfl, rfl⟩
          go_wp2
          go_round
          case rel => exact ⟨k + 1, by omega, by go_num, by rw [HN.out]⟩
          case measure => simp [intOf]; omega
    · obtain rfl : k = paths.length := by omega
      go_wp2
      go_ret
      exact ⟨rfl, rfl⟩
end Fl
end Go.Proofs.YtpnmmmlckdkcdakGreatDoor

/- Package fill's share: what a link takes, less the rates of those over it that are not free, by how many are. -/
namespace Go.Proofs.YtpnmmmlckdkcdakGreatDoor
namespace Fl
open Go.RowKit Fr Ns Ld
set_option linter.unusedSimpArgs false
set_option linter.unusedVariables false

set_option maxRecDepth 100000 in
set_option maxHeartbeats 4000000 in
theorem share_any (caps : List Int) (paths : List (List Int)) (rate : List (Int × Int)) (done : List Bool) (gF gf gr : Nat) (v : Value) (w : World) (l kk : Nat) (h : FillW caps paths rate done gF gf gr v w) (hld : done.length = paths.length) (hlr : rate.length = paths.length) (h6 : paths.length ≤ 6)
    (hl : l < caps.length) (hLf : ∀ k, k ≤ paths.length → faultP (linkTo caps paths rate done l k).1 = 0) (hRR : ∀ f, f < paths.length → dB done f = true → faultP (rP rate f) = 0) (hk1 : 1 ≤ kk) (hk6 : kk ≤ 6) (hp : faultP (partP (linkTo caps paths rate done l paths.length).1 (kk : Int)) = 0) :
    Calls Tryz.prog 154 #[.pointer (some ⟨gF, 0, none⟩), .int .i64 l, .int .i64 kk] w fun e w' => e = .returned (.tuple #[.agg #[.int .i64 (partP (linkTo caps paths rate done l paths.length).1 (kk : Int)).1, .int .i64 (partP (linkTo caps paths rate done l paths.length).1 (kk : Int)).2], .nilIface]) ∧ Below w.heap.size w w' := by
  obtain ⟨a1, cap1, a2, cap2, rfl, ⟨hm1, hn1⟩, ⟨hm2, hn2⟩, ⟨z1, z2, z3⟩, HF, Hf, Hr, HC, HP⟩ := h.facts hld hlr
  have HS : Hid (∀ k, k < paths.length → (linkTo caps paths rate done l (k + 1)).1 = if inB (paths.getD k []) l = true then (if dB done k = true then sumP (linkTo caps paths rate done l k).1 (negP (rP rate k)) else (linkTo caps paths rate done l k).1) else (linkTo caps paths rate done l k).1) := fun k hk => by
    rw [linkTo_step hk]
    split
    · split <;> rfl
    · rfl
  have HLf : Hid (∀ k, k ≤ paths.length → faultP (linkTo caps paths rate done l k).1 = 0) := hLf
  have HRR : Hid (∀ f, f < paths.length → dB done f = true → faultP (rP rate f) = 0) := hRR
  have H0 : (linkTo caps paths rate done l 0).1 = (caps.getD l 0, 1) := rfl
  have HB : Hid (∀ u, Calls Tryz.prog 175 #[.agg #[.int .i64 (linkTo caps paths rate done l paths.length).1.1, .int .i64 (linkTo caps paths rate done l paths.length).1.2], .int .i64 kk] u fun e w' => e = .returned (.tuple #[.agg #[.int .i64 (partP (linkTo caps paths rate done l paths.length).1 (kk : Int)).1, .int .i64 (partP (linkTo caps paths rate done l paths.length).1 (kk : Int)).2], .nilIface]) ∧ Below u.heap.size u w') := fun u => FBy_may (hLf _ (Nat.le_refl _)) (by omega) (by omega) hp u
  generalize partP (linkTo caps paths rate done l paths.length).1 (kk : Int) = pp at *
  obtain ⟨p1, p2⟩ := pp
  obtain ⟨LS, hLS⟩ : ∃ LS : Nat → Int × Int, ∀ k, (linkTo caps paths rate done l k).1 = LS k := ⟨_, fun _ => rfl⟩
  simp only [hLS] at HS HLf H0 HB
  obtain ⟨bc, oc, rfl, hcc⟩ := HC.out l hl
  have cc := hcc w (Below.refl _ _)
  have hbc : bc < w.heap.size := World.block_lt_of_cell? _ _ cc
  have R0 : Hid (RowAt ((w.alloc (.cells #[.int .i64 0, .int .i64 0] 58)).alloc (.cells #[.int .i64 (caps.getD l 0), .int .i64 1] 58)) (w.heap.size + 1) 58 [.int .i64 (LS 0).1, .int .i64 (LS 0).2]) := by
    rw [H0]
    have := RowAt.new (w.alloc (.cells #[.int .i64 0, .int .i64 0] 58)) #[.int .i64 (caps.getD l 0), .int .i64 1] 58
    simpa [Hid] using this
  have R1 : Hid (RowAt ((w.alloc (.cells #[.int .i64 0, .int .i64 0] 58)).alloc (.cells #[.int .i64 (caps.getD l 0), .int .i64 1] 58)) w.heap.size 58 [.int .i64 0, .int .i64 0]) := (RowAt.new w #[.int .i64 0, .int .i64 0] 58).alloc _
  have B0 : Hid (Below w.heap.size w ((w.alloc (.cells #[.int .i64 0, .int .i64 0] 58)).alloc (.cells #[.int .i64 (caps.getD l 0), .int .i64 1] 58))) := ((Below.refl _ _).alloc (Nat.le_refl _) _).alloc (by simp) _
  generalize caps.getD l 0 = c at *
  obtain ⟨c0, c1, c2, c3⟩ := HF.out w (Below.refl _ _)
  clear hLS h hcc hp hLf hRR H0
  go_enter Tryz.func154, Tryz.ntmps154
  go_wp2
  go_loopw [9, 10, 11, 12, 28] (fun _ _ _ _ i wr => ∃ k : Nat, k ≤ paths.length ∧ i = .int .i64 k ∧ Hid (RowAt wr (w.heap.size + 1) 58 [.int .i64 (LS k).1, .int .i64 (LS k).2]) ∧ Hid (RowAt wr w.heap.size 58 [.int .i64 0, .int .i64 0]) ∧ Hid (Below w.heap.size w wr)) (fun _ _ _ _ i _ => paths.length - (intOf i).toNat)
  case atStart => exact ⟨0, by omega, rfl, R0, R1, B0⟩
  case round =>
    obtain ⟨k, hk, rfl, hr0, hr1, hb⟩ := hrel
    have hz : w.heap.size + 1 < wr.heap.size := hr0.out.lt
    clear c0 c1 c2 c3 cc
    obtain ⟨c0, c1, c2, c3⟩ := HF.out wr hb.out
    have m0 := hr0.out.cell (i := 0) rfl
    have m1 := hr0.out.cell (i := 1) rfl
    have f0 := hr0.out.frozen 0
    have f1 := hr0.out.frozen 1
    by_cases hlt : k < paths.length
    · obtain ⟨b, off, x, rfl, hx⟩ := HP.out k hlt
      obtain ⟨cx, hxi⟩ := hx wr hb.out
      have cf := Hf.out k hlt wr hb.out
      have hs := HS.out k hlt
      have HCo : Hid (Calls Tryz.prog 69 #[x, .int .i64 l] wr fun e w' => e = .returned (.bool (inB (paths.getD k []) l)) ∧ w' = wr) := Contains_any _ _ _ wr hxi
      clear hx
      generalize paths.getD k [] = pf at *
      obtain ⟨ax, capx, rfl, _⟩ := hxi
      generalize inB pf l = ib at *
      cases hd : dB done k with
      | false =>
        rw [hd] at cf hs
        have HN : Hid (LS (k + 1) = LS k) := by
          show _ = _
          rw [hs]
          simp
        clear hs hd
        go_wp2
        go_roundw
        case rel => exact ⟨k + 1, by omega, by go_num, by rw [HN.out]; exact hr0, hr1, hb⟩
        case measure => simp [intOf]; omega
      | true =>
        have fr := HRR.out k hlt hd
        rw [hd] at cf hs
        cases ib with
        | false =>
          have HN : Hid (LS (k + 1) = LS k) := by
            show _ = _
            rw [hs]
            simp
          clear hs hd
          go_wp2_with fail
          refine HCo.out.mono ?_
          rintro e wr ⟨rfl, rfl⟩
          go_wp2
          go_roundw
          case rel => exact ⟨k + 1, by omega, by go_num, by rw [HN.out]; exact hr0, hr1, hb⟩
          case measure => simp [intOf]; omega
        | true =>
          have HN : LS (k + 1) = sumP (LS k) (negP (rP rate k)) := by rw [hs]; simp
          have HNe : Hid (∀ u : World, Calls Tryz.prog 174 #[.agg #[.int .i64 (rP rate k).1, .int .i64 (rP rate k).2]] u fun e w' => e = .returned (.agg #[.int .i64 (-(rP rate k).1), .int .i64 (rP rate k).2]) ∧ Below u.heap.size u w') := fun u => FNeg_any _ _ u fr
          have HAdd : Hid (∀ u : World, Calls Tryz.prog 101 #[.agg #[.int .i64 (LS k).1, .int .i64 (LS k).2], .agg #[.int .i64 (-(rP rate k).1), .int .i64 (rP rate k).2]] u fun e w' => e = .returned (.tuple #[.agg #[.int .i64 (LS (k + 1)).1, .int .i64 (LS (k + 1)).2], .nilIface]) ∧ Below u.heap.size u w') := fun u => by
            have h1 := HLf.out (k + 1) (by omega)
            rw [HN] at h1 ⊢
            exact FAdd_may (s := LS k) (a := negP (rP rate k)) (HLf.out k hk) (neg_right fr) h1 u
          obtain ⟨x', y', HXY⟩ : ∃ x' y', Hid ((LS (k + 1)).1 = x' ∧ (LS (k + 1)).2 = y') := ⟨_, _, rfl, rfl⟩
          rw [HXY.out.1, HXY.out.2] at HAdd
          have HSA : Hid (∀ u : World, Below wr.heap.size wr u → u.cell? ⟨w.heap.size + 1, 0, none⟩ = some (.int .i64 (LS k).1) ∧ u.cell? ⟨w.heap.size + 1, 1, none⟩ = some (.int .i64 (LS k).2) ∧ u.cell? ⟨gF, 3, none⟩ = some (.slice (some ⟨gr, 0, none⟩) paths.length paths.length) ∧ u.cell? ⟨gr, k * 2, none⟩ = some (.int .i64 (rP rate k).1) ∧ u.cell? ⟨gr, k * 2 + 1, none⟩ = some (.int .i64 (rP rate k).2)) := fun u hu =>
            ⟨cell_later hu m0, cell_later hu m1, cell_later hu c3, (Hr.out k hlt u (hb.out.trans (hu.mono (by omega)))).1, (Hr.out k hlt u (hb.out.trans (hu.mono (by omega)))).2⟩
          have P1 : Hid (Below wr.heap.size wr wr.drew) := (Below.refl _ _).drew
          generalize (rP rate k).1 = t at *
          generalize (rP rate k).2 = bo at *
          clear hs hd fr HN
          generalize (LS k).1 = s1 at *
          generalize (LS k).2 = s2 at *
          go_upto_region 6 with (go_at_call 69; refine HCo.out.mono ?_; rintro e wr ⟨rfl, rfl⟩)
          go_cut [11, 12] (fun s11 s12 wc => ∃ g, s11 = .pointer (some ⟨g, 0, none⟩) ∧ s12 = .nilIface ∧ Hid (wr.heap.size ≤ g) ∧ wc.cell? ⟨g, 0, none⟩ = some (.int .i64 x') ∧ wc.cell? ⟨g, 1, none⟩ = some (.int .i64 y') ∧ Hid (Below wr.heap.size wr wc))
          case first =>
            go_region_held3 (fun u => u.cell? ⟨w.heap.size + 1, 0, none⟩ = some (.int .i64 s1) ∧ u.cell? ⟨w.heap.size + 1, 1, none⟩ = some (.int .i64 s2) ∧ u.cell? ⟨gF, 3, none⟩ = some (.slice (some ⟨gr, 0, none⟩) paths.length paths.length) ∧ u.cell? ⟨gr, k * 2, none⟩ = some (.int .i64 t) ∧ u.cell? ⟨gr, k * 2 + 1, none⟩ = some (.int .i64 bo))
              ((refine HSA.out _ ?_; first
                | exact P1.out | exact Hbn.out | exact Hba.out
                | exact Bel.more P1.out (Nat.le_refl _) _ | exact Bel.more Hbn.out (Nat.le_refl _) _ | exact Bel.more Hba.out (Nat.le_refl _) _
                | (refine (Hba.out.setCell ?_ _).setCell ?_ _ <;> (simp; try omega))))
              (first
                | (go_at_call 174; refine (HNe.out _).mono ?_; rintro e wn ⟨rfl, hwn⟩; obtain ⟨hcn, hfn⟩ := bcell hwn; have hzn : ∀ n, n < _ → n < wn.heap.size := fun n h => Nat.lt_of_lt_of_le h hwn.size; have Hbn : Hid (Below wr.heap.size wr wn) := (by first | exact Bel.call P1.out (Nat.le_refl _) hwn | exact Bel.call (Bel.more P1.out (Nat.le_refl _) _) (Nat.le_refl _) hwn); have yn := Hbn.out.size)
                | (go_at_call 101; refine (HAdd.out _).mono ?_; rintro e wa ⟨rfl, hwa⟩; obtain ⟨hca, hfa⟩ := bcell hwa; have hza : ∀ n, n < _ → n < wa.heap.size := fun n h => Nat.lt_of_lt_of_le h hwa.size; (first | (have zz := fun (n : Nat) h => Nat.lt_of_lt_of_le (hzn n h) (Nat.le_trans (by simp) hwa.size)) | skip); have Hba : Hid (Below wr.heap.size wr wa) := (by first | exact Bel.call Hbn.out (Nat.le_refl _) hwa | exact Bel.call (Bel.more Hbn.out (Nat.le_refl _) _) (Nat.le_refl _) hwa); have ya := Hba.out.size))
            all_goals
              have hbw := Hba.out
              go_wp2_with fail
              go_meet
              case rel =>
                refine ⟨_, rfl, rfl, ?_, ?_, ?_, ?_⟩
                · show wr.heap.size ≤ _
                  omega
                · first | (go_simp; done) | (refine (cell_set2 (z := .int .i64 0) (z' := .int .i64 0) ?_ ?_).1 <;> (go_simp; done))
                · first | (go_simp; done) | (refine (cell_set2 (z := .int .i64 0) (z' := .int .i64 0) ?_ ?_).2 <;> (go_simp; done))
                · first | exact hbw.alloc hbw.size _ | exact hbw | (refine (hbw.setCell ?_ _).setCell ?_ _ <;> (simp; try omega))
          case rest =>
            obtain ⟨g, rfl, rfl, hg, q0, q1, hba⟩ := hcut
            have hrr := hr0.out.later hba.out hz
            have n0 := hrr.cell (i := 0) rfl
            have n1 := hrr.cell (i := 1) rfl
            have n2 := hrr.frozen 0
            have n3 := hrr.frozen 1
            have HR' : Hid (RowAt ((wc.setCell ⟨w.heap.size + 1, 0, none⟩ (.int .i64 x')).setCell ⟨w.heap.size + 1, 1, none⟩ (.int .i64 y')) (w.heap.size + 1) 58 [.int .i64 (LS (k + 1)).1, .int .i64 (LS (k + 1)).2]) := by
              rw [HXY.out.1, HXY.out.2]
              exact hrr.set2 _ _
            have HR1 : Hid (RowAt ((wc.setCell ⟨w.heap.size + 1, 0, none⟩ (.int .i64 x')).setCell ⟨w.heap.size + 1, 1, none⟩ (.int .i64 y')) w.heap.size 58 [.int .i64 0, .int .i64 0]) := ((hr1.out.later hba.out hr1.out.lt).other (by simp) _).other (by simp) _
            have HB' : Hid (Below w.heap.size w ((wc.setCell ⟨w.heap.size + 1, 0, none⟩ (.int .i64 x')).setCell ⟨w.heap.size + 1, 1, none⟩ (.int .i64 y'))) := ((hb.out.trans (hba.out.mono (by omega))).setCell (by simp) _).setCell (by simp) _
            clear hrr P1
            go_wp2
            go_roundw
            case rel => exact ⟨k + 1, by omega, by go_num, HR', HR1, HB'⟩
            case measure => simp [intOf]; omega
    · obtain rfl : k = paths.length := by omega
      have hr0' := hr0
      generalize (LS paths.length).1 = s1 at *
      generalize (LS paths.length).2 = s2 at *
      go_wp2_with fail
      refine (HB.out _).mono ?_
      rintro e w1 ⟨rfl, hw1⟩
      have hq := hr1.out.later hw1 hr1.out.lt
      have q0 := hq.cell (i := 0) rfl
      have q1 := hq.cell (i := 1) rfl
      have q2 := hq.frozen 0
      have q3 := hq.frozen 1
      have hq' := hq.set2 (.int .i64 p1) (.int .i64 p2)
      have t0 := hq'.cell (i := 0) rfl
      have t1 := hq'.cell (i := 1) rfl
      have HB1 : Hid (Below w.heap.size w ((w1.setCell ⟨w.heap.size, 0, none⟩ (.int .i64 p1)).setCell ⟨w.heap.size, 1, none⟩ (.int .i64 p2))) := ((hb.out.trans (hw1.mono (by omega))).setCell (by simp) _).setCell (by simp) _
      clear hw1 hq hq'
      go_wp2
      refine bodyPost_ret (v := .tuple #[.agg #[.int .i64 p1, .int .i64 p2], .nilIface]) (by simp [results, Tryz.results154, go_sem, t0, t1]) rfl ⟨rfl, HB1.out⟩
end Fl
end Go.Proofs.YtpnmmmlckdkcdakGreatDoor

/- Package fill's narrowest: the least share, and all links that have it. -/
namespace Go.Proofs.YtpnmmmlckdkcdakGreatDoor
namespace Fl
open Go.RowKit Fr Ns Ld
set_option linter.unusedSimpArgs false
set_option linter.unusedVariables false

theorem one_new (w : World) (x : Value) (T : TypeId) (g : Nat) (hg : g = w.heap.size) : ∀ j u, [x][j]? = some u → (w.alloc (.cells #[x] T)).cell? ((⟨g, 0, none⟩ : Addr).add j) = some u := by
  subst hg
  intro j u hj
  match j, hj with
  | 0, hj => simp at hj; subst hj; simp [Addr.add]

theorem grown1 {B : Nat} {W wg : World} {o1 : Obj} {k : Option Nat} (hs : B ≤ W.heap.size) (hg : (W.alloc o1).grownBy wg k) (hk : ∀ j, k = some j → B ≤ j) : Below B W wg :=
  ((Below.refl B W).alloc hs o1).grown hg (by simp; omega) hk
theorem grown2 {B : Nat} {W wg : World} {o1 o2 : Obj} {k : Option Nat} (hs : B ≤ W.heap.size) (hg : ((W.alloc o1).alloc o2).grownBy wg k) (hk : ∀ j, k = some j → B ≤ j) : Below B W wg :=
  (((Below.refl B W).alloc hs o1).alloc (by simp; omega) o2).grown hg (by simp; omega) hk

set_option maxRecDepth 100000 in
set_option maxHeartbeats 8000000 in
theorem narrowest_any (caps : List Int) (paths : List (List Int)) (rate : List (Int × Int)) (done : List Bool) (gF gf gr : Nat) (v : Value) (w : World) (bst : Int × Int) (h : FillW caps paths rate done gF gf gr v w) (hld : done.length = paths.length) (hlr : rate.length = paths.length) (h6 : paths.length ≤ 6) (hc12 : caps.length ≤ 12)
    (hLf : ∀ l, l < caps.length → ∀ k, k ≤ paths.length → faultP (linkTo caps paths rate done l k).1 = 0) (hRR : ∀ f, f < paths.length → dB done f = true → faultP (rP rate f) = 0)
    (hSR : ∀ l s, l < caps.length → shareOf caps paths rate done l = some s → faultP s = 0) (hB : bestOf (shareOf caps paths rate done) caps.length = some bst) :
    Calls Tryz.prog 125 #[.pointer (some ⟨gF, 0, none⟩)] w fun e w' => ∃ y, e = .returned (.tuple #[.agg #[.int .i64 bst.1, .int .i64 bst.2], y, .nilIface]) ∧ IntsAt (fun b => w.heap.size ≤ b) w' y (linksTo (shareOf caps paths rate done) caps.length) ∧ Below w.heap.size w w' := by
  obtain ⟨a1, cap1, a2, cap2, hv, ⟨hm1, hn1⟩, ⟨hm2, hn2⟩, ⟨z1, z2, z3⟩, HF, Hf, Hr, HC, HP⟩ := h.facts hld hlr
  have HSh : Hid (∀ (l : Nat) (u : World), Below w.heap.size w u → Calls Tryz.prog 153 #[.pointer (some ⟨gF, 0, none⟩), .int .i64 l] u fun e w' => e = .returned (.int .i64 ((linkTo caps paths rate done l paths.length).2 : Nat)) ∧ w' = u) := fun l u hu => sharers_any caps paths rate done gF gf gr v u l (h.later hu) hld hlr h6
  have HSe : Hid (∀ l, shareOf caps paths rate done l = if (linkTo caps paths rate done l paths.length).2 = 0 then none else some (partP (linkTo caps paths rate done l paths.length).1 ((linkTo caps paths rate done l paths.length).2 : Nat))) := fun l => by
    rw [linkTo_all]; rfl
  have HLk : Hid (∀ l, (linkTo caps paths rate done l paths.length).2 ≤ 6) := fun l => Nat.le_trans (linkTo_free _ (Nat.le_refl _)) h6
  have HSa : Hid (∀ (l kk : Nat) (u : World) (p : Int × Int), l < caps.length → kk = (linkTo caps paths rate done l paths.length).2 → kk ≠ 0 → shareOf caps paths rate done l = some p → Below w.heap.size w u → Calls Tryz.prog 154 #[.pointer (some ⟨gF, 0, none⟩), .int .i64 l, .int .i64 kk] u fun e w' => e = .returned (.tuple #[.agg #[.int .i64 p.1, .int .i64 p.2], .nilIface]) ∧ Below u.heap.size u w') := fun l kk u p hl hk hk0 hp hu => by
    have e := HSe.out l
    rw [← hk, if_neg hk0, hp] at e
    obtain rfl := Option.some.inj e
    exact share_any caps paths rate done gF gf gr v u l kk (h.later hu) hld hlr h6 hl (hLf l hl) hRR (by omega) (by have := HLk.out l; omega) (hSR l _ hl hp)
  have HSR : Hid (∀ l s, l < caps.length → shareOf caps paths rate done l = some s → faultP s = 0) := hSR
  have HB : Hid (bestOf (shareOf caps paths rate done) caps.length = some bst) := hB
  obtain ⟨LK, hLK⟩ : ∃ LK : Nat → Nat, ∀ l, (linkTo caps paths rate done l paths.length).2 = LK l := ⟨_, fun _ => rfl⟩
  simp only [hLK] at HSh HSe HLk HSa
  have HSn : Hid (∀ l, LK l = 0 → shareOf caps paths rate done l = none) := fun l hl => by rw [HSe.out l, if_pos hl]
  have HSs : Hid (∀ l, LK l ≠ 0 → ∃ p, shareOf caps paths rate done l = some p) := fun l hl => ⟨_, by rw [HSe.out l, if_neg hl]⟩
  generalize shareOf caps paths rate done = sh at *
  have HLl : Hid (∀ l, (linksTo sh l).length ≤ l) := fun l => linksTo_length sh l
  obtain ⟨k0, hKI, hx0, hx1, hx2⟩ := info_parts infoInt
  obtain ⟨c0, c1, c2, c3⟩ := HF.out w (Below.refl _ _)
  have R1 : Hid (RowAt ((w.alloc (.cells #[.int .i64 0, .int .i64 0] 58)).alloc (.cells #[.int .i64 0, .int .i64 0] 58)) (w.heap.size + 1) 58 [.int .i64 (bestZ (bestOf sh 0)).1, .int .i64 (bestZ (bestOf sh 0)).2]) := by
    have := RowAt.new (w.alloc (.cells #[.int .i64 0, .int .i64 0] 58)) #[.int .i64 0, .int .i64 0] 58
    simpa [Hid, bestZ, bestOf] using this
  have R0 : Hid (RowAt ((w.alloc (.cells #[.int .i64 0, .int .i64 0] 58)).alloc (.cells #[.int .i64 0, .int .i64 0] 58)) w.heap.size 58 [.int .i64 0, .int .i64 0]) := (RowAt.new w #[.int .i64 0, .int .i64 0] 58).alloc _
  have B0 : Hid (Below w.heap.size w ((w.alloc (.cells #[.int .i64 0, .int .i64 0] 58)).alloc (.cells #[.int .i64 0, .int .i64 0] 58))) := ((Below.refl _ _).alloc (Nat.le_refl _) _).alloc (by simp) _
  have HFr : Hid (∀ u, Below w.heap.size w u → u.cell? ⟨gF, 0, none⟩ = some (.slice a1 caps.length cap1)) := fun u hu => (HF.out u hu).1
  clear hLK h hv hLf hRR hSR hB HF Hf Hr HC HP HSe c1 c2 c3
  go_enter Tryz.func125, Tryz.ntmps125
  go_wp2
  go_loopw [6, 7, 8, 9, 10, 11, 18] (fun s6 _ _ _ _ _ i wr => ∃ l : Nat, l ≤ caps.length ∧ i = .int .i64 l ∧ Hid (wr.ownsRow (w.heap.size + 2) 3 1 s6 (linksTo sh l).length ((linksTo sh l).map (Value.int .i64))) ∧ Hid (RowAt wr (w.heap.size + 1) 58 [.int .i64 (bestZ (bestOf sh l)).1, .int .i64 (bestZ (bestOf sh l)).2]) ∧ Hid (RowAt wr w.heap.size 58 [.int .i64 0, .int .i64 0]) ∧ Hid (Below w.heap.size w wr)) (fun _ _ _ _ _ _ i _ => caps.length - (intOf i).toNat)
  case atStart => exact ⟨0, by omega, rfl, World.ownsRow_nil _ _ _ _, R1, R0, B0⟩
  case round =>
    obtain ⟨l, hl, rfl, ho, hr1, hr0, hb⟩ := hrel
    have hz : w.heap.size + 1 < wr.heap.size := hr1.out.lt
    clear c0
    have c0 := HFr.out wr hb.out
    by_cases hlt : l < caps.length
    · have HS1 : Hid (Calls Tryz.prog 153 #[.pointer (some ⟨gF, 0, none⟩), .int .i64 l] wr fun e w' => e = .returned (.int .i64 (LK l : Nat)) ∧ w' = wr) := HSh.out l wr hb.out
      have hk6 := HLk.out l
      have hll := HLl.out l
      by_cases hk0 : LK l = 0
      · obtain ⟨bs1, bs2⟩ := best_skip (HSn.out l hk0)
        have HO : Hid (wr.ownsRow (w.heap.size + 2) 3 1 u6 (linksTo sh (l + 1)).length ((linksTo sh (l + 1)).map (Value.int .i64))) := by rw [links_keep bs2]; exact ho
        have HQ : Hid (RowAt wr (w.heap.size + 1) 58 [.int .i64 (bestZ (bestOf sh (l + 1))).1, .int .i64 (bestZ (bestOf sh (l + 1))).2]) := by rw [bs1]; exact hr1
        rw [hk0] at HS1
        clear hk0 bs1 bs2
        go_wp2_with fail
        refine HS1.out.mono ?_
        rintro e wr ⟨rfl, rfl⟩
        go_wp2
        go_roundw
        case rel => exact ⟨l + 1, by omega, by go_num, HO, HQ, hr0, hb⟩
        case measure => simp [intOf]; omega
      · obtain ⟨⟨p1, p2⟩, hsz⟩ := HSs.out l hk0
        have hpf := HSR.out l _ hlt hsz
        have HS2 : Hid (∀ u, Below w.heap.size w u → Calls Tryz.prog 154 #[.pointer (some ⟨gF, 0, none⟩), .int .i64 l, .int .i64 (LK l : Nat)] u fun e w' => e = .returned (.tuple #[.agg #[.int .i64 p1, .int .i64 p2], .nilIface]) ∧ Below u.heap.size u w') := fun u hu => HSa.out l (LK l) u (p1, p2) hlt rfl hk0 hsz hu
        have hsr' : ∀ l' t, l' ≤ l → sh l' = some t → faultP t = 0 := fun l' t hl' ht => HSR.out l' t (by omega) ht
        have hk0' : ¬ ((LK l : Nat) : Int) = 0 := by omega
        obtain ⟨a6, cap6, rfl⟩ := owns_shape ho.out
        generalize LK l = kk at *
        cases hbo : bestOf sh l with
        | none =>
          obtain ⟨bn1, bn2⟩ := best_new hsr' hsz (.inl hbo)
          have hlN : (linksTo sh l).length = 0 := by rw [links_none hbo]; rfl
          have HLN : Hid (linksTo sh (l + 1) = [(l : Int)]) := links_new bn2
          have HBN : Hid (bestOf sh (l + 1) = some (p1, p2)) := bn1
          rw [hbo] at hr1
          replace hr1 : Hid (RowAt wr (w.heap.size + 1) 58 [.int .i64 0, .int .i64 0]) := hr1
          rw [hlN]
          clear hbo bn1 bn2 hsz hpf hsr' hk0
          go_wp2_with fail
          refine HS1.out.mono ?_
          rintro e wr ⟨rfl, rfl⟩
          go_wp2_with fail
          refine (HS2.out _ hb.out).mono ?_
          rintro e w1 ⟨rfl, hw1⟩
          have hs1 : wr.heap.size ≤ w1.heap.size := hw1.size
          have r1 := hr1.out.later hw1 hr1.out.lt
          have r1' := r1.alloc (.cells #[.int .i64 p1, .int .i64 p2] 58)
          have q0 := r1.cell (i := 0) rfl
          have q1 := r1.cell (i := 1) rfl
          have q2 := r1.frozen 0
          have q3 := r1.frozen 1
          have hz1 : w.heap.size + 1 < w1.heap.size := by omega
          have hb1 : Below w.heap.size w w1 := hb.out.trans (hw1.mono (by omega))
          have r0 := hr0.out.later hw1 hr0.out.lt
          clear hw1
          go_wp2_with (at_builtin; go_must (refine wpList_append_own _ rfl (.tmp 55) (.tmp 57) 22 rfl (w.heap.size + 2) 3 k0 (.int .i64 0) 1 8 Tryz.underlying22 hKI hx0 hx1 hx2 rfl (by decide) _ _ _ rfl (World.ownsRow_nil _ _ _ _) ⟨_, 0, none⟩ 1 1 [.int .i64 l] rfl rfl (one_new _ _ _ _ ?c1) (by intro u hu; simp at hu; subst hu; rfl) (by unfold maxLen; omega) (by omega) ?c2 ?_))
          case c1 => simp
          case c2 => simp; omega
          intro v' wg hown' hgrow _
          have hG := grown2 (B := w.heap.size + 2) (by simp; omega) hgrow (by intro k hk; cases hk)
          have HO : Hid (wg.ownsRow (w.heap.size + 2) 3 1 v' (linksTo sh (l + 1)).length ((linksTo sh (l + 1)).map (Value.int .i64))) := by rw [HLN.out]; exact hown'
          have HQ : Hid (RowAt wg (w.heap.size + 1) 58 [.int .i64 (bestZ (bestOf sh (l + 1))).1, .int .i64 (bestZ (bestOf sh (l + 1))).2]) := by
            rw [HBN.out]
            exact (r1.set2 _ _).later hG (by omega)
          have HR0 : Hid (RowAt wg w.heap.size 58 [.int .i64 0, .int .i64 0]) := ((r0.other (by simp) _).other (by simp) _).later hG (by omega)
          have HBB : Hid (Below w.heap.size w wg) := ((hb1.setCell (by simp) _).setCell (by simp) _).trans (hG.mono (by omega))
          clear hG hown' hgrow q0 q1 q2 q3
          go_wp2
          go_roundw
          case rel => exact ⟨l + 1, by omega, by go_num, HO, HQ, HR0, HBB⟩
          case measure => simp [intOf]; omega
        | some bq =>
          obtain ⟨q1, q2⟩ := bq
          obtain ⟨lq, hlq, hsq⟩ := best_mem _ _ hbo
          have hqf := HSR.out lq _ (by omega) hsq
          have hlP : 0 < (linksTo sh l).length := links_some hbo
          have hlP' : (0 : Int) < ((linksTo sh l).length : Int) := by omega
          have HLk1 : Hid (∀ (n : Nat), (∀ i, narAt sh (l + 1) i = decide (i = l)) → linksTo sh (l + 1) = [(l : Int)]) := fun _ h => links_new h
          have hr1' : Hid (RowAt wr (w.heap.size + 1) 58 [.int .i64 q1, .int .i64 q2]) := by
            rw [hbo] at hr1
            exact hr1
          have HCm : Hid (∀ u, Calls Tryz.prog 40 #[.agg #[.int .i64 p1, .int .i64 p2], .agg #[.int .i64 q1, .int .i64 q2]] u fun e w' => e = .returned (.tuple #[.int .i64 (cmpI (p1 * q2) (q1 * p2)), .nilIface]) ∧ Below u.heap.size u w') := fun u => FCmp_right (s := (p1, p2)) (a := (q1, q2)) hpf hqf u
          clear hsq hlq hk0
          by_cases hc1 : p1 * q2 < q1 * p2
          · obtain ⟨bn1, bn2⟩ := best_new hsr' hsz (.inr ⟨_, hbo, hc1⟩)
            have HLN : Hid (linksTo sh (l + 1) = [(l : Int)]) := links_new bn2
            have HBN : Hid (bestOf sh (l + 1) = some (p1, p2)) := bn1
            rw [show cmpI (p1 * q2) (q1 * p2) = -1 by unfold cmpI; rw [if_pos hc1]] at HCm
            clear hbo bn1 bn2 hsz hpf hsr' hqf hr1 hc1
            go_wp2_with fail
            refine HS1.out.mono ?_
            rintro e wr ⟨rfl, rfl⟩
            go_wp2_with fail
            refine (HS2.out _ hb.out).mono ?_
            rintro e w1 ⟨rfl, hw1⟩
            have hs1 : wr.heap.size ≤ w1.heap.size := hw1.size
            have hz1 : w.heap.size + 1 < w1.heap.size := by omega
            have r1 : Hid (RowAt w1 (w.heap.size + 1) 58 [.int .i64 q1, .int .i64 q2]) := hr1'.out.later hw1 hr1'.out.lt
            have r0 : Hid (RowAt w1 w.heap.size 58 [.int .i64 0, .int .i64 0]) := hr0.out.later hw1 hr0.out.lt
            have hb1 : Hid (Below w.heap.size w w1) := hb.out.trans (hw1.mono (by omega))
            have d0 := r1.out.cell (i := 0) rfl
            have d1 := r1.out.cell (i := 1) rfl
            clear hw1
            go_wp2_with fail
            refine (HCm.out _).mono ?_
            rintro e w4 ⟨rfl, hw4⟩
            have hw4' : Below w1.heap.size w1 w4 := ((Below.refl _ _).alloc (Nat.le_refl _) _).trans (hw4.mono (by simp))
            have e0 : w4.cell? ⟨w1.heap.size, 0, none⟩ = some (.int .i64 p1) := cell_later hw4 (by simp)
            have e1 : w4.cell? ⟨w1.heap.size, 1, none⟩ = some (.int .i64 p2) := cell_later hw4 (by simp)
            have r4 := r1.out.later hw4' hz1
            have x0 := r4.cell (i := 0) rfl
            have x1 := r4.cell (i := 1) rfl
            have x2 := r4.frozen 0
            have x3 := r4.frozen 1
            have r04 := r0.out.later hw4' r0.out.lt
            have hb4 : Below w.heap.size w w4 := hb1.out.trans (hw4'.mono (by omega))
            have hs4 : w1.heap.size < w4.heap.size := by have := hw4.size; simp at this; omega
            have hne : ¬ w.heap.size + 1 = w1.heap.size := by omega
            clear hw4 hw4' d0 d1
            go_wp2_with (at_builtin; go_must (refine wpList_append_own _ rfl (.tmp 55) (.tmp 57) 22 rfl (w.heap.size + 2) 3 k0 (.int .i64 0) 1 8 Tryz.underlying22 hKI hx0 hx1 hx2 rfl (by decide) _ _ _ rfl (World.ownsRow_nil _ _ _ _) ⟨_, 0, none⟩ 1 1 [.int .i64 l] rfl rfl (one_new _ _ _ _ ?c1) (by intro u hu; simp at hu; subst hu; rfl) (by unfold maxLen; omega) (by omega) ?c2 ?_))
            case c1 => simp
            case c2 => simp; omega
            intro v' wg hown' hgrow _
            have hG := grown1 (B := w.heap.size + 2) (by simp; omega) hgrow (by intro k hk; cases hk)
            have HO : Hid (wg.ownsRow (w.heap.size + 2) 3 1 v' (linksTo sh (l + 1)).length ((linksTo sh (l + 1)).map (Value.int .i64))) := by rw [HLN.out]; exact hown'
            have HQ : Hid (RowAt wg (w.heap.size + 1) 58 [.int .i64 (bestZ (bestOf sh (l + 1))).1, .int .i64 (bestZ (bestOf sh (l + 1))).2]) := by
              rw [HBN.out]
              exact (r4.set2 _ _).later hG (by omega)
            have HR0 : Hid (RowAt wg w.heap.size 58 [.int .i64 0, .int .i64 0]) := ((r04.other (by simp) _).other (by simp) _).later hG (by omega)
            have HBB : Hid (Below w.heap.size w wg) := ((hb4.setCell (by simp) _).setCell (by simp) _).trans (hG.mono (by omega))
            clear hG hown' hgrow x0 x1 x2 x3 e0 e1
            go_wp2
            go_roundw
            case rel => exact ⟨l + 1, by omega, by go_num, HO, HQ, HR0, HBB⟩
            case measure => simp [intOf]; omega
          · by_cases hc2 : q1 * p2 < p1 * q2
            · obtain ⟨bn1, bn2⟩ := best_more hsz hbo hc2
              have HLN : Hid (linksTo sh (l + 1) = linksTo sh l) := links_keep bn2
              have HBN : Hid (bestOf sh (l + 1) = some (q1, q2)) := bn1
              rw [show cmpI (p1 * q2) (q1 * p2) = 1 by unfold cmpI; rw [if_neg hc1, if_pos hc2]] at HCm
              clear hbo bn1 bn2 hsz hpf hsr' hqf hr1 hc1 hc2
              go_wp2_with fail
              refine HS1.out.mono ?_
              rintro e wr ⟨rfl, rfl⟩
              go_wp2_with fail
              refine (HS2.out _ hb.out).mono ?_
              rintro e w1 ⟨rfl, hw1⟩
              have hs1 : wr.heap.size ≤ w1.heap.size := hw1.size
              have hz1 : w.heap.size + 1 < w1.heap.size := by omega
              have r1 : Hid (RowAt w1 (w.heap.size + 1) 58 [.int .i64 q1, .int .i64 q2]) := hr1'.out.later hw1 hr1'.out.lt
              have r0 : Hid (RowAt w1 w.heap.size 58 [.int .i64 0, .int .i64 0]) := hr0.out.later hw1 hr0.out.lt
              have hb1 : Hid (Below w.heap.size w w1) := hb.out.trans (hw1.mono (by omega))
              have ho1 : Hid (w1.ownsRow (w.heap.size + 2) 3 1 (.slice a6 (linksTo sh l).length cap6) (linksTo sh l).length ((linksTo sh l).map (Value.int .i64))) := owns_later hw1 ho.out
              have d0 := r1.out.cell (i := 0) rfl
              have d1 := r1.out.cell (i := 1) rfl
              clear hw1
              go_wp2_with fail
              refine (HCm.out _).mono ?_
              rintro e w4 ⟨rfl, hw4⟩
              have hw4' : Below w1.heap.size w1 w4 := ((Below.refl _ _).alloc (Nat.le_refl _) _).trans (hw4.mono (by simp))
              have HO : Hid (w4.ownsRow (w.heap.size + 2) 3 1 (.slice a6 (linksTo sh l).length cap6) (linksTo sh (l + 1)).length ((linksTo sh (l + 1)).map (Value.int .i64))) := by rw [HLN.out]; exact owns_later hw4' ho1.out
              have HQ : Hid (RowAt w4 (w.heap.size + 1) 58 [.int .i64 (bestZ (bestOf sh (l + 1))).1, .int .i64 (bestZ (bestOf sh (l + 1))).2]) := by
                rw [HBN.out]
                exact r1.out.later hw4' hz1
              have HR0 : Hid (RowAt w4 w.heap.size 58 [.int .i64 0, .int .i64 0]) := r0.out.later hw4' r0.out.lt
              have HBB : Hid (Below w.heap.size w w4) := hb1.out.trans (hw4'.mono (by omega))
              clear hw4 hw4' d0 d1
              go_wp2
              go_roundw
              case rel => exact ⟨l + 1, by omega, by go_num, HO, HQ, HR0, HBB⟩
              case measure => simp [intOf]; omega
            · have hpq : (p1, p2) = (q1, q2) := val_inj' hpf hqf (Rat.le_antisymm ((cross (a := (p1, p2)) (b := (q1, q2)) (fault_pos hpf) (fault_pos hqf)).2 (by show p1 * q2 ≤ q1 * p2; omega)) ((cross (a := (q1, q2)) (b := (p1, p2)) (fault_pos hqf) (fault_pos hpf)).2 (by show q1 * p2 ≤ p1 * q2; omega)))
              obtain ⟨bn1, bn2⟩ := best_same (s := (q1, q2)) (by rw [hsz, hpq]) hbo
              have HLN : Hid (linksTo sh (l + 1) = linksTo sh l ++ [(l : Int)]) := links_same bn2
              have HBN : Hid (bestOf sh (l + 1) = some (q1, q2)) := bn1
              rw [show cmpI (p1 * q2) (q1 * p2) = 0 by unfold cmpI; rw [if_neg hc1, if_neg hc2]] at HCm
              clear hbo bn1 bn2 hsz hpf hsr' hqf hr1 hc1 hc2 hpq
              go_wp2_with fail
              refine HS1.out.mono ?_
              rintro e wr ⟨rfl, rfl⟩
              go_wp2_with fail
              refine (HS2.out _ hb.out).mono ?_
              rintro e w1 ⟨rfl, hw1⟩
              have hs1 : wr.heap.size ≤ w1.heap.size := hw1.size
              have hz1 : w.heap.size + 1 < w1.heap.size := by omega
              have r1 : Hid (RowAt w1 (w.heap.size + 1) 58 [.int .i64 q1, .int .i64 q2]) := hr1'.out.later hw1 hr1'.out.lt
              have r0 : Hid (RowAt w1 w.heap.size 58 [.int .i64 0, .int .i64 0]) := hr0.out.later hw1 hr0.out.lt
              have hb1 : Hid (Below w.heap.size w w1) := hb.out.trans (hw1.mono (by omega))
              have ho1 : Hid (w1.ownsRow (w.heap.size + 2) 3 1 (.slice a6 (linksTo sh l).length cap6) (linksTo sh l).length ((linksTo sh l).map (Value.int .i64))) := owns_later hw1 ho.out
              have d0 := r1.out.cell (i := 0) rfl
              have d1 := r1.out.cell (i := 1) rfl
              clear hw1
              go_wp2_with fail
              refine (HCm.out _).mono ?_
              rintro e w4 ⟨rfl, hw4⟩
              have hw4' : Below w1.heap.size w1 w4 := ((Below.refl _ _).alloc (Nat.le_refl _) _).trans (hw4.mono (by simp))
              have ho4 : Hid (w4.ownsRow (w.heap.size + 2) 3 1 (.slice a6 (linksTo sh l).length cap6) (linksTo sh l).length ((linksTo sh l).map (Value.int .i64))) := owns_later hw4' ho1.out
              have r4 : Hid (RowAt w4 (w.heap.size + 1) 58 [.int .i64 q1, .int .i64 q2]) := r1.out.later hw4' hz1
              have r04 : Hid (RowAt w4 w.heap.size 58 [.int .i64 0, .int .i64 0]) := r0.out.later hw4' r0.out.lt
              have hb4 : Hid (Below w.heap.size w w4) := hb1.out.trans (hw4'.mono (by omega))
              have hs4 : w1.heap.size < w4.heap.size := by have := hw4.size; simp at this; omega
              clear hw4 hw4' d0 d1
              go_wp2_with (at_builtin; go_must (refine wpList_append_own _ rfl (.tmp 55) (.tmp 57) 22 rfl (w.heap.size + 2) 3 k0 (.int .i64 0) 1 8 Tryz.underlying22 hKI hx0 hx1 hx2 rfl (by decide) _ _ _ rfl (ho4.out.alloc _) ⟨_, 0, none⟩ 1 1 [.int .i64 l] rfl rfl (one_new _ _ _ _ ?c1) (by intro u hu; simp at hu; subst hu; rfl) (by unfold maxLen; omega) (by omega) ?c2 ?_))
              case c1 => simp
              case c2 => simp; omega
              intro v' wg hown' hgrow _
              have hG := grown1 (B := w.heap.size + 2) (by omega) hgrow (fun k hk => (ho4.out.lt k hk).1)
              have HO : Hid (wg.ownsRow (w.heap.size + 2) 3 1 v' (linksTo sh (l + 1)).length ((linksTo sh (l + 1)).map (Value.int .i64))) := by
                rw [HLN.out]
                simpa [Hid] using hown'
              have HQ : Hid (RowAt wg (w.heap.size + 1) 58 [.int .i64 (bestZ (bestOf sh (l + 1))).1, .int .i64 (bestZ (bestOf sh (l + 1))).2]) := by
                rw [HBN.out]
                exact r4.out.later hG (by omega)
              have HR0 : Hid (RowAt wg w.heap.size 58 [.int .i64 0, .int .i64 0]) := r04.out.later hG (by omega)
              have HBB : Hid (Below w.heap.size w wg) := hb4.out.trans (hG.mono (by omega))
              clear hG hown' hgrow
              go_wp2
              go_roundw
              case rel => exact ⟨l + 1, by omega, by go_num, HO, HQ, HR0, HBB⟩
              case measure => simp [intOf]; omega
    · obtain rfl : l = caps.length := by omega
      obtain ⟨b1, b2⟩ := bst
      have hq1 : Hid (RowAt wr (w.heap.size + 1) 58 [.int .i64 b1, .int .i64 b2]) := by
        rw [HB.out] at hr1
        exact hr1
      have HI : Hid (IntsAt (fun b => w.heap.size ≤ b) wr u6 (linksTo sh caps.length)) := ints_of_owns (by have := HLl.out caps.length; omega) ho.out (fun g hg => by omega)
      have y0 := hq1.out.cell (i := 0) rfl
      have y1 := hq1.out.cell (i := 1) rfl
      have x0 := hr0.out.cell (i := 0) rfl
      have x1 := hr0.out.cell (i := 1) rfl
      have x2 := hr0.out.frozen 0
      have x3 := hr0.out.frozen 1
      have hs := hr0.out.set2 (.int .i64 b1) (.int .i64 b2)
      have t0 := hs.cell (i := 0) rfl
      have t1 := hs.cell (i := 1) rfl
      have HBB : Hid (Below w.heap.size w ((wr.setCell ⟨w.heap.size, 0, none⟩ (.int .i64 b1)).setCell ⟨w.heap.size, 1, none⟩ (.int .i64 b2))) := (hb.out.setCell (by simp) _).setCell (by simp) _
      have HI' : Hid (IntsAt (fun b => w.heap.size ≤ b) ((wr.setCell ⟨w.heap.size, 0, none⟩ (.int .i64 b1)).setCell ⟨w.heap.size, 1, none⟩ (.int .i64 b2)) u6 (linksTo sh caps.length)) := by
        have h2 : IntsAt (fun b => w.heap.size + 2 ≤ b) wr u6 (linksTo sh caps.length) := ints_of_owns (by have := HLl.out caps.length; omega) ho.out (fun g hg => hg)
        exact h2.keep (fun b hb' _ => (Below.heap_setCell _ _ _ _ (by simp; omega)).trans (Below.heap_setCell _ _ _ _ (by simp; omega))) (fun b hb' _ => by omega)
      obtain ⟨a6, cap6, rfl⟩ := owns_shape ho.out
      clear hs HI hr1
      go_wp2
      refine bodyPost_ret (v := .tuple #[.agg #[.int .i64 b1, .int .i64 b2], .slice a6 (linksTo sh caps.length).length cap6, .nilIface]) (by simp [results, Tryz.results125, go_sem, t0, t1]) rfl ⟨_, rfl, HI'.out, HBB.out⟩
end Fl
end Go.Proofs.YtpnmmmlckdkcdakGreatDoor

/- Package fill's closure in round, and the library's ContainsFunc with it. -/
namespace Go.Proofs.YtpnmmmlckdkcdakGreatDoor
namespace Fl
open Go.RowKit Fr Ns Ld
set_option linter.unusedSimpArgs false
set_option linter.unusedVariables false

theorem narrow_any {Q : Nat → Prop} (links : List Int) (x : Int) (gL : Nat) (lv : Value) (w : World) (hc : w.cell? ⟨gL, 0, none⟩ = some lv) (h : IntsAt Q w lv links) :
    Calls Tryz.prog 126 #[.int .i64 x, .pointer (some ⟨gL, 0, none⟩)] w fun e w' => e = .returned (.bool (inB links x)) ∧ w' = w := by
  have HC : Hid (Calls Tryz.prog 69 #[lv, .int .i64 x] w fun e w' => e = .returned (.bool (inB links x)) ∧ w' = w) := Contains_any links x lv w h
  obtain ⟨a, cap, rfl, _⟩ := h
  go_enter Tryz.func126, Tryz.ntmps126
  go_wp2_with fail
  refine HC.out.mono ?_
  rintro e w ⟨rfl, rfl⟩
  go_wp2
  go_ret
  exact ⟨rfl, rfl⟩

theorem anyI_snoc (l : List Int) (p : Int → Bool) (i : Nat) (h : i < l.length) : (l.take (i + 1)).any p = ((l.take i).any p || p (l.getD i 0)) := by
  rw [take_snoc l i h 0, List.any_append]
  simp

set_option maxHeartbeats 400000 in
theorem IndexN_any {Q R : Nat → Prop} (l links : List Int) (gL : Nat) (lv v : Value) (w : World) (h : IntsAt Q w v l) (hc : w.cell? ⟨gL, 0, none⟩ = some lv) (hl : IntsAt R w lv links) :
    Calls Tryz.prog 67 #[v, .func (.func 126) #[] #[.pointer (some ⟨gL, 0, none⟩)]] w fun e w' => ∃ j : Int, e = .returned (.int .i64 j) ∧ decide (0 ≤ j) = l.any (fun x => inB links x) ∧ w' = w := by
  have HN : Hid (∀ x : Int, Calls Tryz.prog 126 #[.int .i64 x, .pointer (some ⟨gL, 0, none⟩)] w fun e w' => e = .returned (.bool (inB links x)) ∧ w' = w) := fun x => narrow_any links x gL lv w hc hl
  obtain ⟨a, cap, rfl, ⟨hm, hm2⟩, h⟩ := h
  clear hc hl
  rcases h with rfl | ⟨b, off, rfl, h, hQ⟩
  · go_enter Tryz.func67, Tryz.ntmps67
    go_wp2
    go_loop [5, 8] (fun _ i => i = .int .i64 0) (fun _ _ => 0)
    case atStart => rfl
    case round =>
      subst hrel
      go_wp2
      go_ret
      exact ⟨_, rfl, by simp, rfl⟩
  · obtain ⟨H⟩ : Nonempty (Hid (∀ i, i < l.length → w.cell? ⟨b, off + i, none⟩ = some (.int .i64 (l.getD i 0)))) := ⟨h⟩
    clear h
    go_enter Tryz.func67, Tryz.ntmps67
    go_wp2
    go_loop [5, 8] (fun _ i => ∃ k : Nat, k ≤ l.length ∧ i = .int .i64 k ∧ Hid ((l.take k).any (fun x => inB links x) = false)) (fun _ i => l.length - (intOf i).toNat)
    case atStart => exact ⟨0, by omega, rfl, rfl⟩
    case round =>
      obtain ⟨k, hk, rfl, hn⟩ := hrel
      by_cases hlt : k < l.length
      · have hc : w.cell? ⟨b, off + k, none⟩ = some (.int .i64 (l.getD k 0)) := H.out k hlt
        have hs : Hid ((l.take (k + 1)).any (fun x => inB links x) = ((l.take k).any (fun x => inB links x) || inB links (l.getD k 0))) := anyI_snoc l _ k hlt
        have hme : Hid (l.getD k 0 ∈ l) := getD_mem l k hlt 0
        generalize l.getD k 0 = x at hc hs hme
        have HC : Hid (Calls Tryz.prog 126 #[.int .i64 x, .pointer (some ⟨gL, 0, none⟩)] w fun e w' => e = .returned (.bool (inB links x)) ∧ w' = w) := HN.out x
        cases hx : inB links x with
        | true =>
          have HR : Hid (l.any (fun x => inB links x) = true) := List.any_eq_true.2 ⟨x, hme.out, hx⟩
          rw [hx] at HC
          clear hx
          go_wp2_with fail
          refine HC.out.mono ?_
          rintro e w ⟨rfl, rfl⟩
          go_wp2
          go_ret
          exact ⟨_, rfl, by rw [HR.out]; simp, rfl⟩
        | false =>
          have HR : Hid ((l.take (k + 1)).any (fun x => inB links x) = false) := by show _ = _; rw [hs.out, hn.out, hx]; rfl
          rw [hx] at HC
          clear hx
          go_wp2_with fail
          refine HC.out.mono ?_
          rintro e w ⟨rfl, rfl⟩
          go_wp2
          go_round
          case rel => exact ⟨k + 1, by omega, by go_num, HR⟩
          case measure => simp [intOf]; omega
      · go_wp2
        go_ret
        refine ⟨_, rfl, ?_, rfl⟩
        have := hn.out
        rw [List.take_of_length_le (by omega)] at this
        rw [this]
        rfl

theorem ContainsN_any {Q R : Nat → Prop} (l links : List Int) (gL : Nat) (lv v : Value) (w : World) (h : IntsAt Q w v l) (hc : w.cell? ⟨gL, 0, none⟩ = some lv) (hl : IntsAt R w lv links) :
    Calls Tryz.prog 34 #[v, .func (.func 126) #[] #[.pointer (some ⟨gL, 0, none⟩)]] w fun e w' => e = .returned (.bool (l.any (fun x => inB links x))) ∧ w' = w := by
  have HI : Hid (Calls Tryz.prog 67 #[v, .func (.func 126) #[] #[.pointer (some ⟨gL, 0, none⟩)]] w fun e w' => ∃ j : Int, e = .returned (.int .i64 j) ∧ decide (0 ≤ j) = l.any (fun x => inB links x) ∧ w' = w) := IndexN_any l links gL lv v w h hc hl
  obtain ⟨a, cap, rfl, _⟩ := h
  go_enter Tryz.func34, Tryz.ntmps34
  go_wp2_with fail
  refine HI.out.mono ?_
  rintro e w ⟨j, rfl, hj, rfl⟩
  have HJ : Hid (decide (0 ≤ j) = l.any (fun x => inB links x)) := hj
  clear hj
  go_wp2
  go_ret
  exact ⟨Ns.ret_bool HJ.out, rfl⟩
end Fl
end Go.Proofs.YtpnmmmlckdkcdakGreatDoor

/- Package fill's round: the least share for all free flows over a link with it. -/
namespace Go.Proofs.YtpnmmmlckdkcdakGreatDoor
namespace Fl
open Go.RowKit Fr Ns Ld
set_option linter.unusedSimpArgs false
set_option linter.unusedVariables false

/-- nothing that lay there has turned but who is free, and the rates -/
def KeptBut (gf gr : Nat) (w u : World) : Prop := w.heap.size ≤ u.heap.size ∧ ∀ g, g < w.heap.size → g ≠ gf → g ≠ gr → u.heap[g]? = w.heap[g]?
theorem KeptBut.of_below {gf gr : Nat} {w u : World} (h : Below w.heap.size w u) : KeptBut gf gr w u := ⟨h.size, fun g hg _ _ => h.block g hg⟩
theorem KeptBut.trans {gf gr : Nat} {w u z : World} (h1 : KeptBut gf gr w u) (h2 : KeptBut gf gr u z) : KeptBut gf gr w z := ⟨Nat.le_trans h1.1 h2.1, fun g hg a b => (h2.2 g (Nat.lt_of_lt_of_le hg h1.1) a b).trans (h1.2 g hg a b)⟩
theorem KeptBut.cell {gf gr : Nat} {w u : World} (h : KeptBut gf gr w u) {g o : Nat} {x : Value} (hx : w.cell? ⟨g, o, none⟩ = some x) (h1 : g ≠ gf) (h2 : g ≠ gr) : u.cell? ⟨g, o, none⟩ = some x := by
  rw [World.cell?_of_block (w := w) (a := ⟨g, o, none⟩) (h.2 g (World.block_lt_of_cell? _ _ hx) h1 h2)]
  exact hx
/-- the struct's own part, and the net, stay -/
theorem FillW.again {caps : List Int} {paths : List (List Int)} {rate rate' : List (Int × Int)} {done done' : List Bool} {gF gf gr : Nat} {v : Value} {w u : World} (h : FillW caps paths rate done gF gf gr v w) (hF : gF ≠ gf ∧ gF ≠ gr) (hk : KeptBut gf gr w u)
    (h1 : RowAt u gf 4 (boolsV (freeL done'))) (h2 : RowAt u gr 58 (flat rate')) : FillW caps paths rate' done' gF gf gr v u := by
  obtain ⟨a1, cap1, a2, cap2, e, g1, g2, g3, g4⟩ := h
  exact ⟨a1, cap1, a2, cap2, e, g1.keep (hk.2 gF g1.lt hF.1 hF.2), g2.keep (fun b hb hlt => hk.2 b hlt hb.2.1 hb.2.2) (fun b hb _ => hb), h1, h2⟩
theorem FillW.kept {caps : List Int} {paths : List (List Int)} {rate : List (Int × Int)} {done : List Bool} {gF gf gr : Nat} {v : Value} {w : World} (h : FillW caps paths rate done gF gf gr v w) (hF : gF ≠ gf ∧ gF ≠ gr) :
    ∃ a1 cap1 a2 cap2, v = .agg #[.slice a1 caps.length cap1, .slice a2 paths.length cap2] ∧ (paths.length ≤ cap2 ∧ paths.length ≤ 9223372036854775807) ∧ (gF < w.heap.size ∧ gf < w.heap.size ∧ gr < w.heap.size) ∧
      Hid (∀ u, KeptBut gf gr w u → u.cell? ⟨gF, 1, none⟩ = some (.slice a2 paths.length cap2) ∧ u.cell? ⟨gF, 2, none⟩ = some (.slice (some ⟨gf, 0, none⟩) paths.length paths.length) ∧ u.cell? ⟨gF, 3, none⟩ = some (.slice (some ⟨gr, 0, none⟩) paths.length paths.length)) ∧
      Hid (∀ i, i < paths.length → ∃ b off x, a2 = some ⟨b, off, none⟩ ∧ b ≠ gf ∧ b ≠ gr ∧ ∀ u, KeptBut gf gr w u → u.cell? ⟨b, off + i, none⟩ = some x ∧ IntsAt (fun _ => True) u x (paths.getD i [])) := by
  obtain ⟨a1, cap1, a2, cap2, rfl, g1, g2, g3, g4⟩ := h
  obtain ⟨v1, v2, e, h1, h2⟩ := g2
  simp only [Value.agg.injEq, Array.mk.injEq, List.cons.injEq, and_true] at e
  obtain ⟨rfl, rfl⟩ := e
  obtain ⟨_, _, e, hm2, hc2⟩ := h2
  simp only [Value.slice.injEq] at e
  obtain ⟨rfl, _, rfl⟩ := e
  refine ⟨a1, cap1, a2, cap2, rfl, hm2, ⟨g1.lt, g3.lt, g4.lt⟩, fun u hu => ?_, fun i hi => ?_⟩
  · have := g1.keep (hu.2 gF g1.lt hF.1 hF.2)
    exact ⟨this.cell (i := 1) rfl, this.cell (i := 2) rfl, this.cell (i := 3) rfl⟩
  · rcases hc2 with rfl | ⟨b, off, rfl, hc, hQ⟩
    · simp at hi
    · obtain ⟨x, hx, hxi⟩ := hc i hi
      exact ⟨b, off, x, rfl, hQ.2.1, hQ.2.2, fun u hu => ⟨hu.cell hx hQ.2.1 hQ.2.2, hxi.keep (fun b hb hlt => hu.2 b hlt hb.2.1 hb.2.2) (fun _ _ _ => trivial)⟩⟩

set_option maxRecDepth 100000 in
set_option maxHeartbeats 8000000 in
theorem round_any (caps : List Int) (paths : List (List Int)) (rate : List (Int × Int)) (done : List Bool) (gF gf gr B : Nat) (v : Value) (w : World) (bst : Int × Int) (h : FillW caps paths rate done gF gf gr v w) (hF : gF ≠ gf ∧ gF ≠ gr) (hfr : gf ≠ gr) (hB : B ≤ gf ∧ B ≤ gr) (hld : done.length = paths.length) (hlr : rate.length = paths.length) (h6 : paths.length ≤ 6) (hc12 : caps.length ≤ 12)
    (hpos : ∀ p ∈ paths, ∀ x ∈ p, (0 : Int) ≤ x) (hLf : ∀ l, l < caps.length → ∀ k, k ≤ paths.length → faultP (linkTo caps paths rate done l k).1 = 0) (hRR : ∀ f, f < paths.length → dB done f = true → faultP (rP rate f) = 0)
    (hSR : ∀ l s, l < caps.length → shareOf caps paths rate done l = some s → faultP s = 0) (hbst : bestOf (shareOf caps paths rate done) caps.length = some bst) :
    Calls Tryz.prog 97 #[.pointer (some ⟨gF, 0, none⟩)] w fun e w' => ∃ y, e = .returned (.tuple #[y, .nilIface]) ∧ IntsAt (fun b => w.heap.size ≤ b) w' y (roundOf paths done (narAt (shareOf caps paths rate done) caps.length)) ∧
      FillW caps paths (setRate rate (roundOf paths done (narAt (shareOf caps paths rate done) caps.length)) bst) (setDone done (roundOf paths done (narAt (shareOf caps paths rate done) caps.length))) gF gf gr v w' ∧ KeptBut gf gr w w' ∧ Below B w w' := by
  have HNa : Hid (∃ y0 : Nat, Calls Tryz.prog 125 #[.pointer (some ⟨gF, 0, none⟩)] w fun e w' => ∃ y, e = .returned (.tuple #[.agg #[.int .i64 bst.1, .int .i64 bst.2], y, .nilIface]) ∧ IntsAt (fun b => w.heap.size ≤ b) w' y (linksTo (shareOf caps paths rate done) caps.length) ∧ Below w.heap.size w w') := ⟨0, narrowest_any caps paths rate done gF gf gr v w bst h hld hlr h6 hc12 hLf hRR hSR hbst⟩
  have HAg : Hid (∀ u rate' done', KeptBut gf gr w u → RowAt u gf 4 (boolsV (freeL done')) → RowAt u gr 58 (flat rate') → FillW caps paths rate' done' gF gf gr v u) := fun u r d a b c => h.again hF a b c
  have HRS : Hid (∀ k, k < paths.length → roundTo paths done (narAt (shareOf caps paths rate done) caps.length) (k + 1) = roundTo paths done (narAt (shareOf caps paths rate done) caps.length) k ++ (if (!dB done k && (paths.getD k []).any fun x => inB (linksTo (shareOf caps paths rate done) caps.length) x) = true then [(k : Int)] else [])) := fun k hk => by
    rw [any_links (fun x hx => hpos _ (getD_mem paths k hk []) x hx)]
    exact round_step paths done _ k
  have HRE : Hid (roundTo paths done (narAt (shareOf caps paths rate done) caps.length) paths.length = roundOf paths done (narAt (shareOf caps paths rate done) caps.length)) := roundTo_all _ _ _
  have HR0 : Hid (roundTo paths done (narAt (shareOf caps paths rate done) caps.length) 0 = []) := rfl
  have HRL : Hid (∀ k, (roundTo paths done (narAt (shareOf caps paths rate done) caps.length) k).length ≤ k) := fun k => roundTo_length _ _ _ k
  have HFy : Hid (∀ k, k < paths.length → dB (setDone done (roundTo paths done (narAt (shareOf caps paths rate done) caps.length) k)) k = dB done k) := fun k hk => free_yet (by omega)
  generalize roundOf paths done (narAt (shareOf caps paths rate done) caps.length) = rd at *
  generalize roundTo paths done (narAt (shareOf caps paths rate done) caps.length) = rt at *
  have hll := linksTo_length (shareOf caps paths rate done) caps.length
  have hl0 : 0 < (linksTo (shareOf caps paths rate done) caps.length).length := links_some hbst
  generalize linksTo (shareOf caps paths rate done) caps.length = links at *
  have Rf0 : Hid (RowAt w gf 4 (boolsV (freeL (setDone done (rt 0))))) := by rw [HR0.out, setDone_nil]; obtain ⟨_, _, _, _, _, _, _, h3, _⟩ := h; exact h3
  have Rr0 : Hid (RowAt w gr 58 (flat (setRate rate (rt 0) bst))) := by rw [HR0.out, setRate_nil]; obtain ⟨_, _, _, _, _, _, _, _, h4⟩ := h; exact h4
  obtain ⟨a1, cap1, a2, cap2, hv, ⟨hm2, hn2⟩, ⟨z1, z2, z3⟩, HF, HP⟩ := h.kept hF
  obtain ⟨hF1, hF2⟩ := hF
  obtain ⟨hB1, hB2⟩ := hB
  obtain ⟨k0, hKI, hx0, hx1, hx2⟩ := info_parts infoInt
  clear h hLf hRR hSR hbst hpos hv
  obtain ⟨_, HNa'⟩ := HNa.out
  have HNr := (show Hid (Calls Tryz.prog 125 #[.pointer (some ⟨gF, 0, none⟩)] w fun e w' => ∃ y, e = .returned (.tuple #[.agg #[.int .i64 bst.1, .int .i64 bst.2], y, .nilIface]) ∧ IntsAt (fun b => w.heap.size ≤ b) w' y links ∧ Below w.heap.size w w') from HNa')
  obtain ⟨b1, b2⟩ := bst
  have ql0 : ((links.length : Int) == 0) = false := beq_eq_false_iff_ne.2 (by omega)
  clear HNa HNa'
  go_enter Tryz.func97, Tryz.ntmps97
  go_wp2_with fail
  refine HNr.out.mono ?_
  rintro e w1 ⟨y, rfl, hy, hw1⟩
  have hs1 : w.heap.size ≤ w1.heap.size := hw1.size
  have K1 : KeptBut gf gr w ((w1.alloc (.cells #[.int .i64 b1, .int .i64 b2] 58)).alloc (.cells #[y] 22)) := KeptBut.of_below ((hw1.alloc hs1 _).alloc (by simp; omega) _)
  obtain ⟨g1, g2, g3⟩ := HF.out _ K1
  have HB1 : Hid (Below w.heap.size w ((w1.alloc (.cells #[.int .i64 b1, .int .i64 b2] 58)).alloc (.cells #[y] 22))) := (hw1.alloc hs1 _).alloc (by simp; omega) _
  have HLi : Hid (∀ u, KeptBut gf gr ((w1.alloc (.cells #[.int .i64 b1, .int .i64 b2] 58)).alloc (.cells #[y] 22)) u → IntsAt (fun _ => True) u y links ∧ u.cell? ⟨w1.heap.size + 1, 0, none⟩ = some y ∧ u.cell? ⟨w1.heap.size, 0, none⟩ = some (.int .i64 b1) ∧ u.cell? ⟨w1.heap.size, 1, none⟩ = some (.int .i64 b2)) := fun u hu => by
    have hy2 : IntsAt (fun b => w.heap.size ≤ b) ((w1.alloc (.cells #[.int .i64 b1, .int .i64 b2] 58)).alloc (.cells #[y] 22)) y links := hy.later (((Below.refl _ _).alloc (Nat.le_refl _) _).alloc (by simp) _)
    refine ⟨hy2.keep (fun b hb hlt => hu.2 b hlt (by omega) (by omega)) (fun _ _ _ => trivial), hu.cell (by simp) (by omega) (by omega), hu.cell (by simp) (by omega) (by omega), hu.cell (by simp) (by omega) (by omega)⟩
  have HKw : Hid (∀ u, KeptBut gf gr ((w1.alloc (.cells #[.int .i64 b1, .int .i64 b2] 58)).alloc (.cells #[y] 22)) u → KeptBut gf gr w u) := fun u hu => K1.trans hu
  have Rf1 : Hid (RowAt ((w1.alloc (.cells #[.int .i64 b1, .int .i64 b2] 58)).alloc (.cells #[y] 22)) gf 4 (boolsV (freeL (setDone done (rt 0))))) := Rf0.out.later HB1.out z2
  have Rr1 : Hid (RowAt ((w1.alloc (.cells #[.int .i64 b1, .int .i64 b2] 58)).alloc (.cells #[y] 22)) gr 58 (flat (setRate rate (rt 0) (b1, b2)))) := Rr0.out.later HB1.out z3
  have HBB : Hid (Below B w ((w1.alloc (.cells #[.int .i64 b1, .int .i64 b2] 58)).alloc (.cells #[y] 22))) := HB1.out.mono (by omega)
  obtain ⟨ay, capy, rfl, _⟩ := hy
  have hne1 : ¬ w1.heap.size = gf := by omega
  have hne2 : ¬ w1.heap.size = gr := by omega
  clear hw1 K1
  go_wp2
  go_loopw [8, 9, 10, 31] (fun s8 _ _ i wr => ∃ f : Nat, f ≤ paths.length ∧ i = .int .i64 f ∧ Hid (wr.ownsRow (w1.heap.size + 2) 3 1 s8 (rt f).length ((rt f).map (Value.int .i64))) ∧ Hid (RowAt wr gf 4 (boolsV (freeL (setDone done (rt f))))) ∧ Hid (RowAt wr gr 58 (flat (setRate rate (rt f) (b1, b2)))) ∧ Hid (KeptBut gf gr ((w1.alloc (.cells #[.int .i64 b1, .int .i64 b2] 58)).alloc (.cells #[.slice ay links.length capy] 22)) wr) ∧ Hid (Below B w wr)) (fun _ _ _ i _ => paths.length - (intOf i).toNat)
  case atStart => exact ⟨0, by omega, rfl, by rw [HR0.out]; exact World.ownsRow_nil _ _ _ _, Rf1, Rr1, ⟨Nat.le_refl _, fun _ _ _ _ => rfl⟩, HBB⟩
  case round =>
    obtain ⟨f, hf, rfl, ho, hrf, hrr, hke, hbb⟩ := hrel
    clear g1 g2 g3
    obtain ⟨g1, g2, g3⟩ := HF.out _ (HKw.out _ hke.out)
    obtain ⟨hli, l0, l1, l2⟩ := HLi.out _ hke.out
    have hsz : w1.heap.size + 2 ≤ wr.heap.size := by have := hke.out.1; simp at this; omega
    by_cases hlt : f < paths.length
    · obtain ⟨bp, op, x, rfl, hbp1, hbp2, hx⟩ := HP.out f hlt
      obtain ⟨cx, hxi⟩ := hx _ (HKw.out _ hke.out)
      have cf := hrf.out.cell (free_cell (show f < (setDone done (rt f)).length by rw [setDone_length]; omega))
      rw [HFy.out f hlt] at cf
      have hst := HRS.out f hlt
      have hrl := HRL.out f
      have HCo : Hid (Calls Tryz.prog 34 #[x, .func (.func 126) #[] #[.pointer (some ⟨w1.heap.size + 1, 0, none⟩)]] wr fun e w' => e = .returned (.bool ((paths.getD f []).any (fun x => inB links x))) ∧ w' = wr) := ContainsN_any _ links _ _ _ wr hxi l0 hli
      clear hx hli
      generalize paths.getD f [] = pf at *
      obtain ⟨ax, capx, rfl, _⟩ := hxi
      generalize pf.any (fun x => inB links x) = ib at *
      cases hd : dB done f with
      | true =>
        rw [hd] at cf hst
        have HN : Hid (rt (f + 1) = rt f) := by
          show _ = _
          rw [hst]
          simp
        clear hst hd
        go_wp2
        go_roundw
        case rel => exact ⟨f + 1, by omega, by go_num, by rw [HN.out]; exact ho, by rw [HN.out]; exact hrf, by rw [HN.out]; exact hrr, hke, hbb⟩
        case measure => simp [intOf]; omega
      | false =>
        rw [hd] at cf hst
        cases ib with
        | false =>
          have HN : Hid (rt (f + 1) = rt f) := by
            show _ = _
            rw [hst]
            simp
          clear hst hd
          go_wp2_with fail
          refine HCo.out.mono ?_
          rintro e wr ⟨rfl, rfl⟩
          go_wp2
          go_roundw
          case rel => exact ⟨f + 1, by omega, by go_num, by rw [HN.out]; exact ho, by rw [HN.out]; exact hrf, by rw [HN.out]; exact hrr, hke, hbb⟩
          case measure => simp [intOf]; omega
        | true =>
          have HN : Hid (rt (f + 1) = rt f ++ [(f : Int)]) := by
            show _ = _
            rw [hst]
            simp
          have cff := hrf.out.frozen f
          obtain ⟨e1, e2⟩ := flat_cells (rate := setRate rate (rt f) (b1, b2)) (m := f) (by rw [setRate_length]; omega)
          have cr0 := hrr.out.cell e1
          have cr1 := hrr.out.cell e2
          have cr2 := hrr.out.frozen (f * 2)
          have cr3 := hrr.out.frozen (f * 2 + 1)
          have n1 : ¬ gf = gF := fun e => hF1 e.symm
          have n2 : ¬ gr = gF := fun e => hF2 e.symm
          have n3 : ¬ gr = gf := fun e => hfr e.symm
          have n4 : ¬ gf = w1.heap.size := by omega
          have n5 : ¬ gr = w1.heap.size := by omega
          have hgf : gf < w1.heap.size + 2 := by omega
          have hgr : gr < w1.heap.size + 2 := by omega
          clear hst hd e1 e2
          go_wp2_with fail
          refine HCo.out.mono ?_
          rintro e wr ⟨rfl, rfl⟩
          go_wp2_with fail
          go_region
          have HRf : Hid (RowAt ((((wr.setCell ⟨gf, f, none⟩ (.bool false)).setCell ⟨gr, f * 2, none⟩ (.int .i64 b1)).setCell ⟨gr, f * 2 + 1, none⟩ (.int .i64 b2)).drew) gf 4 (boolsV (freeL (setDone done (rt (f + 1)))))) := by
            show RowAt _ _ _ _
            rw [HN.out, setDone_snoc (by omega), freeL_set, boolsV_set]
            exact ((hrf.out.set f (.bool false)).other (a := ⟨gr, f * 2, none⟩) n3 (.int .i64 b1)).other (a := ⟨gr, f * 2 + 1, none⟩) n3 (.int .i64 b2)
          have HRr : Hid (RowAt ((((wr.setCell ⟨gf, f, none⟩ (.bool false)).setCell ⟨gr, f * 2, none⟩ (.int .i64 b1)).setCell ⟨gr, f * 2 + 1, none⟩ (.int .i64 b2)).drew) gr 58 (flat (setRate rate (rt (f + 1)) (b1, b2)))) := by
            show RowAt _ _ _ _
            rw [HN.out, setRate_snoc (by omega), flat_set]
            exact ((hrr.out.other (a := ⟨gf, f, none⟩) hfr (.bool false)).set (f * 2) (.int .i64 b1)).set (f * 2 + 1) (.int .i64 b2)
          have HKe : Hid (∀ g, g ≠ gf → g ≠ gr → ((((wr.setCell ⟨gf, f, none⟩ (.bool false)).setCell ⟨gr, f * 2, none⟩ (.int .i64 b1)).setCell ⟨gr, f * 2 + 1, none⟩ (.int .i64 b2)).drew).heap[g]? = wr.heap[g]?) := fun g h1 h2 =>
            ((Below.heap_setCell _ ⟨gr, f * 2 + 1, none⟩ (.int .i64 b2) g h2).trans (Below.heap_setCell _ ⟨gr, f * 2, none⟩ (.int .i64 b1) g h2)).trans (Below.heap_setCell _ ⟨gf, f, none⟩ (.bool false) g h1)
          have hsz' : Hid ((((wr.setCell ⟨gf, f, none⟩ (.bool false)).setCell ⟨gr, f * 2, none⟩ (.int .i64 b1)).setCell ⟨gr, f * 2 + 1, none⟩ (.int .i64 b2)).drew.heap.size = wr.heap.size) := by simp [Hid]
          have HBw : Hid (Below B w ((((wr.setCell ⟨gf, f, none⟩ (.bool false)).setCell ⟨gr, f * 2, none⟩ (.int .i64 b1)).setCell ⟨gr, f * 2 + 1, none⟩ (.int .i64 b2)).drew)) := (((hbb.out.setCell hB1 _).setCell hB2 _).setCell hB2 _).drew
          have HOw : Hid (((((wr.setCell ⟨gf, f, none⟩ (.bool false)).setCell ⟨gr, f * 2, none⟩ (.int .i64 b1)).setCell ⟨gr, f * 2 + 1, none⟩ (.int .i64 b2)).drew).ownsRow (w1.heap.size + 2) 3 1 u8 (rt f).length ((rt f).map (Value.int .i64))) := owns_keep (fun g h1 h2 => HKe.out g (by omega) (by omega)) ho.out
          clear cff cr0 cr1 cr2 cr3 cf cx g1 g2 g3 l0 l1 l2
          generalize ((((wr.setCell ⟨gf, f, none⟩ (.bool false)).setCell ⟨gr, f * 2, none⟩ (.int .i64 b1)).setCell ⟨gr, f * 2 + 1, none⟩ (.int .i64 b2)).drew) = wq at *
          go_wp2_with (at_builtin; go_must (refine wpList_append_own _ rfl (.tmp 61) (.tmp 63) 22 rfl (w1.heap.size + 2) 3 k0 (.int .i64 0) 1 8 Tryz.underlying22 hKI hx0 hx1 hx2 rfl (by decide) _ _ _ rfl (HOw.out.alloc _) ⟨_, 0, none⟩ 1 1 [.int .i64 f] rfl rfl (one_new _ _ _ _ ?c1) (by intro u hu; simp at hu; subst hu; rfl) (by unfold maxLen; omega) (by omega) ?c2 ?_))
          case c1 => simp
          case c2 => have := hsz'.out; simp; omega
          intro v' wg hown' hgrow _
          have hG := grown1 (B := w1.heap.size + 2) (by have := hsz'.out; omega) hgrow (fun k hk => (HOw.out.lt k hk).1)
          have HO2 : Hid (wg.ownsRow (w1.heap.size + 2) 3 1 v' (rt (f + 1)).length ((rt (f + 1)).map (Value.int .i64))) := by
            rw [HN.out]
            simpa [Hid] using hown'
          have HRf2 : Hid (RowAt wg gf 4 (boolsV (freeL (setDone done (rt (f + 1)))))) := HRf.out.later hG hgf
          have HRr2 : Hid (RowAt wg gr 58 (flat (setRate rate (rt (f + 1)) (b1, b2)))) := HRr.out.later hG hgr
          have HKe2 : Hid (KeptBut gf gr ((w1.alloc (.cells #[.int .i64 b1, .int .i64 b2] 58)).alloc (.cells #[.slice ay links.length capy] 22)) wg) := by
            refine ⟨?_, fun g hg h1 h2 => ?_⟩
            · have e1 := hke.out.1
              have e2 := hG.size
              have e3 := hsz'.out
              omega
            · have hg' : g < w1.heap.size + 2 := by simpa using hg
              exact ((hG.block g hg').trans (HKe.out g h1 h2)).trans (hke.out.2 g hg h1 h2)
          have HBw2 : Hid (Below B w wg) := HBw.out.trans (hG.mono (by omega))
          clear hG hown' hgrow
          go_wp2
          go_roundw
          case rel => exact ⟨f + 1, by omega, by go_num, HO2, HRf2, HRr2, HKe2, HBw2⟩
          case measure => simp [intOf]; omega
    · obtain rfl : f = paths.length := by omega
      have hrl := HRL.out paths.length
      rw [HRE.out] at ho hrf hrr hrl
      have HI : Hid (IntsAt (fun b => w.heap.size ≤ b) wr u8 rd) := ints_of_owns (by omega) ho.out (fun g hg => by omega)
      have HW : Hid (FillW caps paths (setRate rate rd (b1, b2)) (setDone done rd) gF gf gr v wr) := HAg.out wr _ _ (HKw.out _ hke.out) hrf.out hrr.out
      have HK : Hid (KeptBut gf gr w wr) := HKw.out _ hke.out
      obtain ⟨a8, cap8, rfl⟩ := owns_shape ho.out
      go_wp2
      refine bodyPost_ret (v := .tuple #[.slice a8 rd.length cap8, .nilIface]) (by simp [results, Tryz.results97, go_sem]) rfl ⟨_, rfl, HI.out, HW.out, HK.out, hbb.out⟩
end Fl
end Go.Proofs.YtpnmmmlckdkcdakGreatDoor

/- Package fill's rise: round by round, till no flow is free. -/
namespace Go.Proofs.YtpnmmmlckdkcdakGreatDoor
namespace Fl
open Go.RowKit Fr Ns Ld
set_option linter.unusedSimpArgs false
set_option linter.unusedVariables false

theorem row_new (w : World) (a : Array Value) (T : TypeId) (g : Nat) (xs : List Value) (hg : g = w.heap.size) (hx : a.toList = xs) : RowAt (w.alloc (.cells a T (0, 0))) g T xs := by
  subst hg; subst hx; exact RowAt.new w a T
theorem RowAt.more {w w' : World} {g : Nat} {T : TypeId} {xs : List Value} (hb : Below w.heap.size w w') (h : RowAt w g T xs) : RowAt w' g T xs := h.later hb h.lt
theorem RowAt.drew {w : World} {g : Nat} {T : TypeId} {xs : List Value} (h : RowAt w g T xs) : RowAt w.drew g T xs := h
theorem RowAt.set4 {w : World} {g : Nat} {T : TypeId} {a b c d : Value} (h : RowAt w g T [a, b, c, d]) (x y z u : Value) : RowAt ((((w.setCell ⟨g, 0, none⟩ x).setCell ⟨g, 1, none⟩ y).setCell ⟨g, 2, none⟩ z).setCell ⟨g, 3, none⟩ u) g T [x, y, z, u] := by
  have := (((h.set 0 x).set 1 y).set 2 z).set 3 u
  simpa using this
theorem rounds_append {base : Nat} {w3 w13 : World} {v8 v' y : Value} {o : Obj} {acc : List (List Int)} {rd : List Int} {vs : List Value} (hv : ∀ i, i < acc.length → IntsAt (fun b => base ≤ b ∧ v8.ownBlock ≠ some b) w3 (vs.getD i undef) (acc.getD i [])) (hnew : IntsAt (fun b => base ≤ b ∧ v8.ownBlock ≠ some b) w3 y rd) (hvs : vs.length = acc.length)
    (hgrow : (w3.alloc o).grownBy w13 v8.ownBlock) (hat : v'.ownBlock = v8.ownBlock ∨ v'.ownBlock = some (w3.alloc o).heap.size) :
    ∀ i, i < (acc ++ [rd]).length → IntsAt (fun b => base ≤ b ∧ v'.ownBlock ≠ some b) w13 ((vs ++ [y]).getD i undef) ((acc ++ [rd]).getD i []) := by
  have hkeep : ∀ b, (base ≤ b ∧ v8.ownBlock ≠ some b) → b < w3.heap.size → w13.heap[b]? = w3.heap[b]? := by
    intro b hb' hlt
    have h1 := hgrow.block b (by simp; omega) (fun e => hb'.2 e.symm)
    rw [h1]
    exact ((Below.refl w3.heap.size w3).alloc (Nat.le_refl _) o).block b hlt
  have hQ : ∀ b, (base ≤ b ∧ v8.ownBlock ≠ some b) → b < w3.heap.size → (base ≤ b ∧ v'.ownBlock ≠ some b) := by
    intro b hb' hlt
    refine ⟨hb'.1, ?_⟩
    rcases hat with h | h
    · rw [h]; exact hb'.2
    · rw [h]
      simp
      omega
  exact ints_snoc hvs (fun i hi => (hv i hi).keep hkeep hQ) (hnew.keep hkeep hQ)
def lenV : Value → Nat
  | .slice _ n _ => n
  | _ => 0

set_option maxRecDepth 100000 in
set_option maxHeartbeats 8000000 in
/-- what Rise hands back: of a net that is right but may have more links -/
theorem rise_any (Q : Nat → Prop) (caps : List Int) (paths : List (List Int)) (v : Value) (w : World) (h : NetAt Q w v caps paths) (hg : Good caps paths) (hc6 : caps.length ≤ 12) :
  Calls Tryz.prog 66 #[v] w fun e w' => ∃ y z, e = .returned (.tuple #[y, z, .nilIface]) ∧
    FracsAt (fun b => w.heap.size ≤ b) w' y (fill caps paths).1 ∧ ListsAt (fun b => w.heap.size ≤ b) w' z (fill caps paths).2 ∧ Below w.heap.size w w' := by
  have HG : Hid (Good caps paths) := hg
  have hp6 : paths.length ≤ 6 := HG.out.2.2.1
  have hp1 : 1 ≤ paths.length := HG.out.2.2.2
  have HN0 : Hid (∀ u, Below w.heap.size w u → NetAt (fun b => b < w.heap.size) u v caps paths) := fun u hu => h.keep (fun b _ hlt => hu.block b hlt) (fun b _ hlt => hlt)
  obtain ⟨v1, v2, rfl, h1, h2⟩ := h
  obtain ⟨a1, cap1, rfl, ⟨hm1, hn1⟩, _⟩ := h1
  obtain ⟨a2, cap2, rfl, ⟨hm2, hn2⟩, _⟩ := h2
  have HMk : Hid (∀ (gF gf gr : Nat) (u : World) (rate : List (Int × Int)) (done : List Bool), w.heap.size ≤ gF → w.heap.size ≤ gf → w.heap.size ≤ gr → Below w.heap.size w u →
      RowAt u gF 153 [.slice a1 caps.length cap1, .slice a2 paths.length cap2, .slice (some ⟨gf, 0, none⟩) paths.length paths.length, .slice (some ⟨gr, 0, none⟩) paths.length paths.length] → RowAt u gf 4 (boolsV (freeL done)) → RowAt u gr 58 (flat rate) →
      FillW caps paths rate done gF gf gr (.agg #[.slice a1 caps.length cap1, .slice a2 paths.length cap2]) u) := fun gF gf gr u rate done x1 x2 x3 hu r1 r2 r3 =>
    ⟨a1, cap1, a2, cap2, rfl, r1, (HN0.out u hu).keep (fun _ _ _ => rfl) (fun b hb _ => by have : b < w.heap.size := hb; omega), r2, r3⟩
  obtain ⟨i0, hi, hz0, hz1, hz2⟩ := info_parts infoFrac
  obtain ⟨mI, hMI, hv0, hv1, hv2⟩ := info_parts infoInts
  obtain ⟨RC, hRC, hmk⟩ : ∃ RC : Array Value, Hid (RC.toList = flat (List.replicate paths.length (0, 0))) ∧ ∀ u : World, (Instr.makeSlice 24 (.int .i64 (paths.length : Int)) (.int .i64 (paths.length : Int))).run Tryz.prog u = .ok (.slice (some ⟨u.heap.size, 0, none⟩) paths.length paths.length) (u.alloc (.cells RC 58)) := by
    refine ⟨madeCells #[.int .i64 0, .int .i64 0] (paths.length * 2), made_fracs _, fun u => ?_⟩
    have hr := run_make (P := Tryz.prog) u 24 58 i0 (.agg #[.int .i64 0, .int .i64 0]) Tryz.underlying24 hi hz0 .i64 .i64 paths.length paths.length (by omega) (Int.le_refl _) (by rw [hz2]; omega) (by omega)
    simp only [Int.toNat_natCast, hz1] at hr
    exact hr
  have HRp : Hid (∀ (g : Nat) (u : World), RowAt u g 4 [.bool true] → Calls Tryz.prog 95 #[.slice (some ⟨g, 0, none⟩) 1 1, .int .i64 paths.length] u fun e w' => ∃ k, e = .returned (.slice (some ⟨k, 0, none⟩) paths.length paths.length) ∧ u.heap.size ≤ k ∧ RowAt w' k 4 (boolsV (List.replicate paths.length true)) ∧ Below u.heap.size u w') := fun g u hg => Repeat_any paths.length g u hp1 hp6 hg
  go_enter Tryz.func66, Tryz.ntmps66
  go_upto_region 2 with fail
  obtain ⟨w1, hw1⟩ : ∃ w1, w1 = w.alloc (.cells #[.slice a1 caps.length cap1, .slice a2 paths.length cap2] 37) := ⟨_, rfl⟩
  have g0 : w1.cell? ⟨w.heap.size, 0, none⟩ = some (.slice a1 caps.length cap1) := by rw [hw1]; simp
  have g1 : w1.cell? ⟨w.heap.size, 1, none⟩ = some (.slice a2 paths.length cap2) := by rw [hw1]; simp
  have hs1 : w.heap.size < w1.heap.size := by rw [hw1]; simp
  have HB1 : Hid (Below w.heap.size w w1) := by rw [hw1]; exact (Below.refl _ _).alloc (Nat.le_refl _) _
  have HSA : Hid (∀ u : World, Below w1.heap.size w1 u → u.cell? ⟨w.heap.size, 0, none⟩ = some (.slice a1 caps.length cap1) ∧ u.cell? ⟨w.heap.size, 1, none⟩ = some (.slice a2 paths.length cap2)) := fun u hu => ⟨cell_later hu g0, cell_later hu g1⟩
  have P1 : Hid (Below w1.heap.size w1 w1.drew) := (Below.refl _ _).drew
  rw [← hw1]
  clear hw1
  go_cut [6] (fun s7 wc => ∃ gF gf gr : Nat, s7 = .pointer (some ⟨gF, 0, none⟩) ∧
    Hid (RowAt wc gF 153 [.slice a1 caps.length cap1, .slice a2 paths.length cap2, .slice (some ⟨gf, 0, none⟩) paths.length paths.length, .slice (some ⟨gr, 0, none⟩) paths.length paths.length]) ∧ Hid (RowAt wc gf 4 (boolsV (List.replicate paths.length true))) ∧ Hid (RowAt wc gr 58 RC.toList) ∧ (gF ≠ gf ∧ gF ≠ gr ∧ gf ≠ gr) ∧ (w1.heap.size ≤ gF ∧ w1.heap.size ≤ gf ∧ w1.heap.size ≤ gr) ∧ Hid (Below w1.heap.size w1 wc))
  case first =>
    go_region_held3 (fun u => u.cell? ⟨w.heap.size, 0, none⟩ = some (.slice a1 caps.length cap1) ∧ u.cell? ⟨w.heap.size, 1, none⟩ = some (.slice a2 paths.length cap2))
      ((refine HSA.out _ ?_; repeat (first | with_reducible exact P1.out | with_reducible exact Hbr.out | with_reducible exact Below.refl _ _ | with_reducible refine Below.drew ?_ | with_reducible refine Bel.more ?_ (Nat.le_refl _) _ | with_reducible refine Below.setCell ?_ (by simp; try omega) _)))
      (first
        | (go_at_call 95; refine (HRp.out _ _ ?_).mono ?_; (repeat (first | ((with_reducible refine row_new _ _ _ _ _ ?_ ?_); (focus (simp; done)); (focus rfl)) | with_reducible refine RowAt.drew ?_ | with_reducible refine RowAt.alloc ?_ _)); rintro e wp ⟨k, rfl, hk1, hrk, hwp⟩; obtain ⟨hcp, hfp⟩ := bcell hwp; have hzp : ∀ n, n < _ → n < wp.heap.size := fun n h => Nat.lt_of_lt_of_le h hwp.size; have Hbr : Hid (Below w1.heap.size w1 wp) := (by refine Bel.call ?_ (Nat.le_refl _) hwp; repeat (first | with_reducible exact P1.out | with_reducible exact Below.refl _ _ | with_reducible refine Below.drew ?_ | with_reducible refine Bel.more ?_ (Nat.le_refl _) _)); have Hrk : Hid (RowAt wp k 4 (boolsV (List.replicate paths.length true))) := hrk; have hk2 := hrk.lt; have Hwp : Hid _ := hwp; have hsp := hwp.size; simp at hk1 hsp; clear hrk hwp; (first | (rcases Nat.lt_or_ge w1.heap.size wp.heap.size with y0 | y0; rotate_left; (exfalso; omega)) | skip); (first | (rcases Nat.lt_or_ge (w1.heap.size + 1) wp.heap.size with y1 | y1; rotate_left; (exfalso; omega)) | skip); (first | (rcases Nat.lt_or_ge (w1.heap.size + 1 + 1) wp.heap.size with y2 | y2; rotate_left; (exfalso; omega)) | skip)))
    all_goals
      go_wp2_with fail
      go_meet
      case rel =>
        apply Exists.intro
        refine ⟨k, ?_⟩
        apply Exists.intro
        refine ⟨rfl, ?_, ?_, ?_, ?_, ?_, ?_⟩
        · show RowAt _ _ _ _
          repeat (first | ((with_reducible refine row_new _ _ _ _ _ ?_ ?_); (focus (simp; done)); (focus rfl)) | with_reducible refine RowAt.set4 (a := .slice none 0 0) (b := .slice none 0 0) (c := .slice none 0 0) (d := .slice none 0 0) ?_ _ _ _ _ | with_reducible refine RowAt.drew ?_ | with_reducible refine RowAt.alloc ?_ _ | with_reducible refine RowAt.more Hwp.out ?_)
        · show RowAt _ _ _ _
          repeat (first | with_reducible exact Hrk.out | with_reducible refine RowAt.drew ?_ | with_reducible refine RowAt.alloc ?_ _ | with_reducible refine RowAt.other ?_ (by first | (simp; done) | (simp; omega)) _)
        · show RowAt _ _ _ _
          repeat (first | ((with_reducible refine row_new _ _ _ _ _ ?_ ?_); (focus (simp; done)); (focus rfl)) | with_reducible refine RowAt.other ?_ (by first | (simp; done) | (simp; omega)) _ | with_reducible refine RowAt.drew ?_ | with_reducible refine RowAt.alloc ?_ _ | with_reducible refine RowAt.more Hwp.out ?_)
        · refine ⟨?_, ?_, ?_⟩ <;> omega
        · refine ⟨?_, ?_, ?_⟩ <;> omega
        · show Below _ _ _
          repeat (first | with_reducible exact P1.out | with_reducible exact Hbr.out | with_reducible exact Below.refl _ _ | with_reducible refine Below.drew ?_ | with_reducible refine Bel.more ?_ (Nat.le_refl _) _ | with_reducible refine Below.setCell ?_ (by simp; try omega) _)
  case rest =>
    obtain ⟨gF, gf, gr, rfl, RF, Rf, Rr, ⟨n1, n2, n3⟩, ⟨l1, l2, l3⟩, hbc⟩ := hcut
    have Rr' : Hid (RowAt wc gr 58 (flat (List.replicate paths.length (0, 0)))) := by rw [← hRC.out]; exact Rr
    have Rf' : Hid (RowAt wc gf 4 (boolsV (freeL (List.replicate paths.length false)))) := by rw [freeL_start]; exact Rf
    have hzF : gF < wc.heap.size := RF.out.lt
    have hzf : gf < wc.heap.size := Rf.out.lt
    have hzr : gr < wc.heap.size := Rr.out.lt
    have HBc : Hid (Below w.heap.size w wc) := HB1.out.trans (hbc.out.mono (by omega))
    have P2 : Hid (FillAt caps paths (List.replicate paths.length (0, 0)) (List.replicate paths.length false) []) := fillAt_start HG.out
    have HRd : Hid (∀ (u : World) (rate : List (Int × Int)) (done : List Bool) (acc : List (List Int)), FillAt caps paths rate done acc → 0 < freeN paths done → Below w.heap.size w u →
        RowAt u gF 153 [.slice a1 caps.length cap1, .slice a2 paths.length cap2, .slice (some ⟨gf, 0, none⟩) paths.length paths.length, .slice (some ⟨gr, 0, none⟩) paths.length paths.length] → RowAt u gf 4 (boolsV (freeL done)) → RowAt u gr 58 (flat rate) →
        ∃ (rd : List Int) (rate' : List (Int × Int)) (done' : List Bool), FillAt caps paths rate' done' (acc ++ [rd]) ∧ rd.length ≤ 6 ∧
          Calls Tryz.prog 97 #[.pointer (some ⟨gF, 0, none⟩)] u fun e w' => ∃ y, e = .returned (.tuple #[y, .nilIface]) ∧ IntsAt (fun b => u.heap.size ≤ b) w' y rd ∧ RowAt w' gf 4 (boolsV (freeL done')) ∧ RowAt w' gr 58 (flat rate') ∧ KeptBut gf gr u w' ∧ Below w.heap.size u w') := by
      intro u rate done acc hP hz hu r1 r2 r3
      obtain ⟨hlr, hld, hLS, hRR, hSR, bst, hbst, hbf, hrne, hnext⟩ := fillAt_facts HG.out hP hz
      refine ⟨_, _, _, hnext, Nat.le_trans (roundTo_length _ _ _ paths.length) hp6, ?_⟩
      have hW := HMk.out gF gf gr u rate done (by omega) (by omega) (by omega) hu r1 r2 r3
      have hc := round_any caps paths rate done gF gf gr w.heap.size _ u bst hW ⟨n1, n2⟩ n3 ⟨by omega, by omega⟩ hld hlr hp6 (by omega) (fun p hp x hx => ((HG.out.2.1 p hp).2 x hx).1) (fun l hl k hk => by
        obtain ⟨j, _, e⟩ := linkTo_part caps paths rate done l k
        rw [e]
        exact (hLS l hl j).1) hRR (fun l s hl hs => (hSR l s hl hs).1) hbst
      refine hc.mono ?_
      rintro e w' ⟨y, rfl, hy, hw, hk, hb⟩
      obtain ⟨_, _, _, _, _, _, _, h3, h4⟩ := hw
      exact ⟨y, rfl, hy, h3, h4, hk, hb⟩
    have HCt : Hid (∀ (u : World) (done : List Bool), done.length = paths.length → RowAt u gf 4 (boolsV (freeL done)) → Calls Tryz.prog 96 #[.slice (some ⟨gf, 0, none⟩) paths.length paths.length, .bool true] u fun e w' => e = .returned (.bool (decide (freeN paths done ≠ 0))) ∧ w' = u) := fun u done hd hr => by
      have := ContainsB_any (freeL done) gf u hr (by rw [freeL_length]; omega)
      rw [free_any hd, freeL_length, hd] at this
      exact this
    have HEnd : Hid (∀ (rate : List (Int × Int)) (done : List Bool) (acc : List (List Int)), FillAt caps paths rate done acc → rate.length = paths.length ∧ done.length = paths.length ∧ acc.length ≤ paths.length ∧ (freeN paths done = 0 → fill caps paths = (rate, acc))) := fun rate done acc hP => by
      have hP' := hP
      obtain ⟨_, _, _, hi', _⟩ := hP'
      exact ⟨hi'.lr, hi'.ld, fillAt_acc HG.out hP, fun hz => fillAt_end hP hz⟩
    have x1 := RF.out.cell (i := 1) rfl
    have x2 := RF.out.cell (i := 2) rfl
    have x3 := RF.out.cell (i := 3) rfl
    obtain ⟨w2, rfl⟩ : ∃ w2, w2 = wc := ⟨_, rfl⟩
    clear Rr Rf hmk hRC HRp HN0 HSA P1 g0 g1
    go_wp2
    go_loopw [7, 8, 9] (fun s8 _ _ wr => ∃ (rate : List (Int × Int)) (done : List Bool) (acc : List (List Int)) (vs : List Value), lenV s8 = acc.length ∧ Hid (FillAt caps paths rate done acc) ∧ Hid (RowAt wr gF 153 [.slice a1 caps.length cap1, .slice a2 paths.length cap2, .slice (some ⟨gf, 0, none⟩) paths.length paths.length, .slice (some ⟨gr, 0, none⟩) paths.length paths.length]) ∧ Hid (RowAt wr gf 4 (boolsV (freeL done))) ∧ Hid (RowAt wr gr 58 (flat rate)) ∧
      Hid (wr.ownsRow w2.heap.size 22 1 s8 acc.length vs) ∧ Hid (∀ i, i < acc.length → IntsAt (fun b => w2.heap.size ≤ b ∧ Value.ownBlock s8 ≠ some b) wr (vs.getD i undef) (acc.getD i [])) ∧ Hid (Below w.heap.size w wr) ∧ Hid (w2.heap.size ≤ wr.heap.size)) (fun s8 _ _ _ => paths.length - lenV s8)
    case atStart => exact ⟨_, _, [], [], rfl, P2, RF, Rf', Rr', World.ownsRow_nil _ _ _ _, fun i hi => by simp at hi, HBc, Nat.le_refl _⟩
    case round =>
      obtain ⟨rate, done, acc, vs, hlen, hP, rF, rf, rr, ho, hv, hb, hsz⟩ := hrel
      obtain ⟨hlr, hld, hla, hend⟩ := HEnd.out _ _ _ hP.out
      clear x1 x2 x3
      have x1 := rF.out.cell (i := 1) rfl
      have x2 := rF.out.cell (i := 2) rfl
      have x3 := rF.out.cell (i := 3) rfl
      have HC1 : Hid (Calls Tryz.prog 96 #[.slice (some ⟨gf, 0, none⟩) paths.length paths.length, .bool true] wr fun e w' => e = .returned (.bool (decide (freeN paths done ≠ 0))) ∧ w' = wr) := HCt.out wr done hld rf.out
      obtain ⟨a8, cap8, rfl⟩ := owns_shape ho.out
      by_cases hz : freeN paths done = 0
      · have HE : Hid (fill caps paths = (rate, acc)) := hend hz
        have HY : Hid (FracsAt (fun b => w.heap.size ≤ b) wr (.slice (some ⟨gr, 0, none⟩) paths.length paths.length) rate) := by
          rw [← hlr]
          exact fracs_of_owns (base := gr) (by omega) (rr.out.owns (Nat.le_refl _) (by rw [flat_length]) (by unfold maxLen; omega)) (fun g hg => by omega)
        have hvl : vs.length = acc.length := by have := ho.out.1; omega
        have HZ : Hid (ListsAt (fun b => w.heap.size ≤ b) wr (.slice a8 acc.length cap8) acc) := lists_of_owns (base := w2.heap.size) (by omega) hvl ho.out (fun i hi => (hv.out i hi).keep (fun _ _ _ => rfl) (fun b hb' _ => by have := hb'.1; omega)) (fun g hg => by omega)
        rw [show decide (freeN paths done ≠ 0) = false by simp [hz]] at HC1
        clear hz hend
        go_wp2_with fail
        refine HC1.out.mono ?_
        rintro e wr ⟨rfl, rfl⟩
        go_wp2
        refine bodyPost_ret (v := .tuple #[.slice (some ⟨gr, 0, none⟩) paths.length paths.length, .slice a8 acc.length cap8, .nilIface]) (by simp [results, Tryz.results66, go_sem]) rfl ⟨_, _, rfl, ?_, ?_, hb.out⟩
        · rw [HE.out]; exact HY.out
        · rw [HE.out]; exact HZ.out
      · obtain ⟨rd, rate', done', hP', hrd6, hrc⟩ := HRd.out wr rate done acc hP.out (by omega) hb.out rF.out rf.out rr.out
        have HP' : Hid (FillAt caps paths rate' done' (acc ++ [rd])) := hP'
        have hla' : acc.length + 1 ≤ paths.length := by have := (HEnd.out _ _ _ hP').2.2.1; simpa using this
        have HRc : Hid (Calls Tryz.prog 97 #[.pointer (some ⟨gF, 0, none⟩)] wr fun e w' => ∃ y, e = .returned (.tuple #[y, .nilIface]) ∧ IntsAt (fun b => wr.heap.size ≤ b) w' y rd ∧ RowAt w' gf 4 (boolsV (freeL done')) ∧ RowAt w' gr 58 (flat rate') ∧ KeptBut gf gr wr w' ∧ Below w.heap.size wr w') := hrc
        rw [show decide (freeN paths done ≠ 0) = true by simp [hz]] at HC1
        clear hz hend hP' hrc
        go_wp2_with fail
        refine HC1.out.mono ?_
        rintro e wr ⟨rfl, rfl⟩
        go_wp2_with fail
        refine HRc.out.mono ?_
        rintro e w3 ⟨y, rfl, hy, r2, r3, hk, hb3⟩
        have hszr := hsz.out
        have hs3 := hk.1
        have R1 : RowAt w3 gF 153 [.slice a1 caps.length cap1, .slice a2 paths.length cap2, .slice (some ⟨gf, 0, none⟩) paths.length paths.length, .slice (some ⟨gr, 0, none⟩) paths.length paths.length] := rF.out.keep (hk.2 gF (by omega) n1 n2)
        have HO3 : Hid (w3.ownsRow w2.heap.size 22 1 (.slice a8 acc.length cap8) acc.length vs) := owns_keep (fun g h1 h2 => hk.2 g h2 (by omega) (by omega)) ho.out
        have hv3 : ∀ i, i < acc.length → IntsAt (fun b => w2.heap.size ≤ b ∧ Value.ownBlock (.slice a8 acc.length cap8) ≠ some b) w3 (vs.getD i undef) (acc.getD i []) := fun i hi => (hv.out i hi).keep (fun b hb' hlt => hk.2 b hlt (by have := hb'.1; omega) (by have := hb'.1; omega)) (fun b hb' _ => hb')
        have hy3 : IntsAt (fun b => w2.heap.size ≤ b ∧ Value.ownBlock (.slice a8 acc.length cap8) ≠ some b) w3 y rd := hy.keep (fun _ _ _ => rfl) (fun b hb' _ => ⟨by omega, fun e => by have := (ho.out.lt b e).2; omega⟩)
        have hvl : vs.length = acc.length := by have := ho.out.1; omega
        obtain ⟨ay, capy, hye, _⟩ := hy
        subst hye
        have hb3' : Below w.heap.size w w3 := hb.out.trans hb3
        clear hk hb3 x1 x2 x3
        go_wp2_with (at_builtin; go_must (refine wpList_append_own_at _ rfl (.tmp 30) (.tmp 32) 23 rfl w2.heap.size 22 mI (.slice none 0 0) 1 24 Tryz.underlying23 hMI hv0 hv1 hv2 rfl (by decide) _ _ _ rfl (HO3.out.alloc _) ⟨_, 0, none⟩ 1 1 [.slice ay rd.length capy] rfl rfl (one_new _ _ _ _ ?c1) (by intro u hu; simp at hu; subst hu; rfl) (by unfold maxLen; omega) (by omega) ?c2 ?_))
        case c1 => simp
        case c2 => simp; omega
        intro v' wg hown' hgrow _ hat
        have hG := grown1 (B := w2.heap.size) (by omega) hgrow (fun k hk => (HO3.out.lt k hk).1)
        have HV : Hid (∀ i, i < (acc ++ [rd]).length → IntsAt (fun b => w2.heap.size ≤ b ∧ Value.ownBlock v' ≠ some b) wg ((vs ++ [Value.slice ay rd.length capy]).getD i undef) ((acc ++ [rd]).getD i [])) := rounds_append hv3 hy3 hvl hgrow (by simpa using hat)
        have HOw : Hid (wg.ownsRow w2.heap.size 22 1 v' (acc ++ [rd]).length (vs ++ [Value.slice ay rd.length capy])) := by simpa [Hid] using hown'
        have HRF : Hid (RowAt wg gF 153 [.slice a1 caps.length cap1, .slice a2 paths.length cap2, .slice (some ⟨gf, 0, none⟩) paths.length paths.length, .slice (some ⟨gr, 0, none⟩) paths.length paths.length]) := R1.later hG hzF
        have HRf : Hid (RowAt wg gf 4 (boolsV (freeL done'))) := r2.later hG hzf
        have HRr : Hid (RowAt wg gr 58 (flat rate')) := r3.later hG hzr
        have HBg : Hid (Below w.heap.size w wg) := hb3'.trans (hG.mono (by omega))
        have HSg : Hid (w2.heap.size ≤ wg.heap.size) := by have := hG.size; show _ ≤ _; omega
        obtain ⟨a', c', rfl⟩ := owns_shape HOw.out
        clear hG hown' hgrow hat R1 r2 r3 hv3 hy3 hb3'
        go_wp2
        go_roundw
        case rel => exact ⟨rate', done', acc ++ [rd], vs ++ [Value.slice ay rd.length capy], rfl, HP', HRF, HRf, HRr, HOw, HV, HBg, HSg⟩
        case measure => simp [lenV]; omega
end Fl
end Go.Proofs.YtpnmmmlckdkcdakGreatDoor

/- Package fill's checked: a net that is right rises. -/
namespace Go.Proofs.YtpnmmmlckdkcdakGreatDoor
namespace Fl
open Go.RowKit Fr Ns Ld
set_option linter.unusedSimpArgs false
set_option linter.unusedVariables false

set_option maxRecDepth 100000 in
set_option maxHeartbeats 1000000 in
theorem checked_said (Q : Nat → Prop) (caps : List Int) (paths : List (List Int)) (v : Value) (w : World) (h : NetAt Q w v caps paths) :
  Calls Tryz.prog 33 #[v] w fun e w' => ∃ y z, e = .returned (.tuple #[y, z, errV (netE caps paths)]) ∧
    FracsAt (fun b => w.heap.size ≤ b) w' y (okL (netE caps paths) (fill caps paths).1) ∧ ListsAt (fun b => w.heap.size ≤ b) w' z (okL (netE caps paths) (fill caps paths).2) ∧ Below w.heap.size w w' := by
  have HCk : Hid (∀ u, Below w.heap.size w u → Calls Tryz.prog 18 #[v] u fun e w' => e = .returned (errV (netE caps paths)) ∧ Below u.heap.size u w') := fun u hu => check_said Q caps paths v u (h.later hu)
  by_cases hk : netE caps paths = 0
  · have HRi : Hid (∀ u, Below w.heap.size w u → Calls Tryz.prog 66 #[v] u fun e w' => ∃ y z, e = .returned (.tuple #[y, z, .nilIface]) ∧ FracsAt (fun b => u.heap.size ≤ b) w' y (fill caps paths).1 ∧ ListsAt (fun b => u.heap.size ≤ b) w' z (fill caps paths).2 ∧ Below u.heap.size u w') := fun u hu => rise_any Q caps paths v u (h.later hu) (good_of_net hk) (by have := (netE_0 hk).2.1; omega)
    rw [hk, errV_0] at HCk
    rw [hk, errV_0, okL_0, okL_0]
    obtain ⟨v1, v2, rfl, h1, h2⟩ := h
    obtain ⟨a1, cap1, rfl, _⟩ := h1
    obtain ⟨a2, cap2, rfl, _⟩ := h2
    generalize (fill caps paths).1 = lr at *
    generalize (fill caps paths).2 = ll at *
    clear hk
    go_enter Tryz.func33, Tryz.ntmps33
    go_wp2_with fail
    refine (HCk.out _ ((Below.refl _ _).alloc (Nat.le_refl _) _)).mono ?_
    rintro e w1 ⟨rfl, hw1⟩
    have g0 : w1.cell? ⟨w.heap.size, 0, none⟩ = some (.slice a1 caps.length cap1) := cell_later hw1 (by simp)
    have g1 : w1.cell? ⟨w.heap.size, 1, none⟩ = some (.slice a2 paths.length cap2) := cell_later hw1 (by simp)
    have HB1 : Hid (Below w.heap.size w w1) := ((Below.refl _ _).alloc (Nat.le_refl _) _).trans (hw1.mono (by simp))
    clear hw1
    go_wp2_with fail
    refine (HRi.out _ HB1.out).mono ?_
    rintro e w2 ⟨y, z, rfl, hy, hz, hw2⟩
    have hs1 := HB1.out.size
    have HY : Hid (FracsAt (fun b => w.heap.size ≤ b) w2 y lr) := hy.keep (fun _ _ _ => rfl) (fun b hb _ => by omega)
    have HZ : Hid (ListsAt (fun b => w.heap.size ≤ b) w2 z ll) := hz.keep (fun _ _ _ => rfl) (fun b hb _ => by omega)
    have HB2 : Hid (Below w.heap.size w w2) := HB1.out.trans (hw2.mono hs1)
    obtain ⟨ay, capy, rfl, _⟩ := hy
    obtain ⟨az, capz, rfl, _⟩ := hz
    clear hw2 hs1
    go_wp2
    refine bodyPost_ret (v := .tuple #[.slice ay lr.length capy, .slice az ll.length capz, .nilIface]) (by simp [results, Tryz.results33, go_sem]) rfl ⟨_, _, rfl, HY.out, HZ.out, HB2.out⟩
  · have HV : Hid (errV (netE caps paths) = .iface 65 (.int .i64 (netE caps paths))) := errV_ne hk
    have HK1 : Hid (okL (netE caps paths) (fill caps paths).1 = []) := okL_ne hk _
    have HK2 : Hid (okL (netE caps paths) (fill caps paths).2 = []) := okL_ne hk _
    rw [HV.out] at HCk
    rw [HV.out, HK1.out, HK2.out]
    generalize netE caps paths = ek at *
    clear hk
    obtain ⟨v1, v2, rfl, h1, h2⟩ := h
    obtain ⟨a1, cap1, rfl, _⟩ := h1
    obtain ⟨a2, cap2, rfl, _⟩ := h2
    go_enter Tryz.func33, Tryz.ntmps33
    go_wp2_with fail
    refine (HCk.out _ ((Below.refl _ _).alloc (Nat.le_refl _) _)).mono ?_
    rintro e w1 ⟨rfl, hw1⟩
    have HB1 : Hid (Below w.heap.size w w1) := ((Below.refl _ _).alloc (Nat.le_refl _) _).trans (hw1.mono (by simp))
    clear hw1
    go_wp2
    refine bodyPost_ret (v := .tuple #[.slice none 0 0, .slice none 0 0, .iface 65 (.int .i64 ek)]) (by simp [results, Tryz.results33, go_sem]) rfl ?_
    exact ⟨_, _, rfl, fracs_nil _ _, ⟨none, 0, rfl, ⟨Nat.le_refl _, by simp⟩, .inl rfl⟩, HB1.out⟩
end Fl
end Go.Proofs.YtpnmmmlckdkcdakGreatDoor

/- Package fill's Rates: what checked hands back. -/
namespace Go.Proofs.YtpnmmmlckdkcdakGreatDoor
namespace Fl
open Go.RowKit Fr Ns Ld
set_option linter.unusedSimpArgs false
set_option linter.unusedVariables false

set_option maxRecDepth 100000 in
theorem rates_said : RatesSaid := by
  intro Q caps paths v w h
  have HR : Hid (∀ u, Below w.heap.size w u → Calls Tryz.prog 33 #[v] u fun e w' => ∃ y z, e = .returned (.tuple #[y, z, errV (netE caps paths)]) ∧
    FracsAt (fun b => u.heap.size ≤ b) w' y (okL (netE caps paths) (fill caps paths).1) ∧ ListsAt (fun b => u.heap.size ≤ b) w' z (okL (netE caps paths) (fill caps paths).2) ∧ Below u.heap.size u w') := fun u hu => checked_said Q caps paths v u (h.later hu)
  obtain ⟨v1, v2, rfl, h1, h2⟩ := h
  obtain ⟨a1, cap1, rfl, _⟩ := h1
  obtain ⟨a2, cap2, rfl, _⟩ := h2
  generalize errV (netE caps paths) = ev at *
  generalize okL (netE caps paths) (fill caps paths).1 = lr at *
  generalize okL (netE caps paths) (fill caps paths).2 = ll at *
  go_enter Tryz.func16, Tryz.ntmps16
  go_wp2_with fail
  refine (HR.out _ ((Below.refl _ _).alloc (Nat.le_refl _) _)).mono ?_
  rintro e w1 ⟨y, z, rfl, hy, hz, hw1⟩
  have HY : Hid (FracsAt (fun b => w.heap.size ≤ b) w1 y lr) := hy.keep (fun _ _ _ => rfl) (fun b hb _ => by simp at hb; omega)
  have HB : Hid (Below w.heap.size w w1) := ((Below.refl _ _).alloc (Nat.le_refl _) _).trans (hw1.mono (by simp))
  obtain ⟨ay, capy, rfl, _⟩ := hy
  obtain ⟨az, capz, rfl, _⟩ := hz
  clear hw1
  go_wp2
  refine bodyPost_ret (v := .tuple #[.slice ay lr.length capy, ev]) (by simp [results, Tryz.results16, go_sem]) rfl ⟨_, rfl, HY.out, HB.out⟩
end Fl
end Go.Proofs.YtpnmmmlckdkcdakGreatDoor
