/- The library's Repeat of one bool, Index and Contains at bools; package fill's negative. -/
import Derived.Test.YtpnmmmlckdkcdakGreatDoorPlains
import Derived.Test.YtpnmmmlckdkcdakGreatDoorNetA
import Derived.Laws.CopyOwn
import Derived.Deep.RegionLaw
import Derived.OwnWalk
namespace Go.Proofs.YtpnmmmlckdkcdakGreatDoor
namespace Fl
open Go.RowKit Fr Ns Ld
set_option linter.unusedSimpArgs false
set_option linter.unusedVariables false

set_option maxRecDepth 100000 in
theorem Mul64_one (n : Nat) (w : World) (h1 : 1 ≤ n) (h6 : n ≤ 6) :
    Calls Tryz.prog 152 #[.int .u64 1, .int .u64 n] w fun e w' => e = .returned (.tuple #[.int .u64 0, .int .u64 n]) ∧ w' = w := by
  have hn : n = 1 ∨ n = 2 ∨ n = 3 ∨ n = 4 ∨ n = 5 ∨ n = 6 := by omega
  clear h1 h6
  rcases hn with rfl | rfl | rfl | rfl | rfl | rfl <;>
    (go_enter Tryz.func152, Tryz.ntmps152
     go_wp2
     exact bodyPost_ret (by simp [results, Tryz.results152, go_sem]; rfl) rfl ⟨rfl, rfl⟩)

set_option maxRecDepth 100000 in
theorem Mul_one (n : Nat) (w : World) (h1 : 1 ≤ n) (h6 : n ≤ 6) :
    Calls Tryz.prog 123 #[.int .u64 1, .int .u64 n] w fun e w' => e = .returned (.tuple #[.int .u64 0, .int .u64 n]) ∧ w' = w := by
  have HM : Hid (Calls Tryz.prog 152 #[.int .u64 1, .int .u64 n] w fun e w' => e = .returned (.tuple #[.int .u64 0, .int .u64 n]) ∧ w' = w) := Mul64_one n w h1 h6
  go_enter Tryz.func123, Tryz.ntmps123
  go_wp2_with fail
  refine HM.out.mono ?_
  rintro e w ⟨rfl, rfl⟩
  go_wp2
  exact bodyPost_ret (v := .tuple #[.int .u64 0, .int .u64 n]) (by simp [results, Tryz.results123, go_sem]) rfl ⟨rfl, rfl⟩

theorem FNeg_any (t b : Int) (w : World) (h : fault t b = 0) :
    Calls Tryz.prog 174 #[.agg #[.int .i64 t, .int .i64 b]] w fun e w' => e = .returned (.agg #[.int .i64 (-t), .int .i64 b]) ∧ Below w.heap.size w w' := by
  obtain ⟨h1, h2, h3, h4⟩ := fault_0 h
  clear h
  go_enter Tryz.func174, Tryz.ntmps174
  go_wp2
  refine bodyPost_ret (v := .agg #[.int .i64 (-t), .int .i64 b]) (by simp [results, Tryz.results174, go_sem]) rfl ⟨rfl, ?_⟩
  repeat (first | exact Below.refl _ _ | refine Below.setCell ?_ (by simp) _ | refine Below.alloc ?_ (by simp) _ | refine Below.drew ?_)

theorem any_snoc (l : List Bool) (i : Nat) (h : i < l.length) : (l.take (i + 1)).any id = ((l.take i).any id || l.getD i false) := by
  rw [take_snoc l i h false, List.any_append]
  simp

set_option maxHeartbeats 400000 in
theorem IndexB_any (l : List Bool) (g : Nat) (w : World) (h : RowAt w g 4 (boolsV l)) (hl : l.length ≤ 1000) :
    Calls Tryz.prog 124 #[.slice (some ⟨g, 0, none⟩) l.length l.length, .bool true] w fun e w' => ∃ j : Int, e = .returned (.int .i64 j) ∧ decide (0 ≤ j) = l.any id ∧ w' = w := by
  have H : Hid (∀ i, i < l.length → w.cell? ⟨g, i, none⟩ = some (.bool (l.getD i false))) := fun i hi => h.cell (bools_cell hi)
  clear h
  go_enter Tryz.func124, Tryz.ntmps124
  go_wp2
  go_loop [5, 8] (fun _ i => ∃ k : Nat, k ≤ l.length ∧ i = .int .i64 k ∧ Hid ((l.take k).any id = false)) (fun _ i => l.length - (intOf i).toNat)
  case atStart => exact ⟨0, by omega, rfl, rfl⟩
  case round =>
    obtain ⟨k, hk, rfl, hn⟩ := hrel
    by_cases hlt : k < l.length
    · have hc := H.out k hlt
      have hs : Hid ((l.take (k + 1)).any id = ((l.take k).any id || l.getD k false)) := any_snoc l k hlt
      have hme : Hid (l.getD k false ∈ l) := getD_mem l k hlt false
      generalize l.getD k false = x at hc hs hme
      cases x with
      | true =>
        have HR : Hid (l.any id = true) := List.any_eq_true.2 ⟨true, hme.out, rfl⟩
        go_wp2
        go_ret
        exact ⟨_, rfl, by rw [HR.out]; simp, rfl⟩
      | false =>
        have HR : Hid ((l.take (k + 1)).any id = false) := by show _ = _; rw [hs.out, hn.out]; rfl
        go_wp2
        go_round
        case rel => exact ⟨k + 1, by omega, by go_num, HR⟩
        case measure => simp [intOf]; omega
    · go_wp2
      go_ret
      refine ⟨_, rfl, ?_, rfl⟩
      have := hn.out
      rw [List.take_of_length_le (by omega)] at this
      rw [this]
      rfl

theorem ContainsB_any (l : List Bool) (g : Nat) (w : World) (h : RowAt w g 4 (boolsV l)) (hl : l.length ≤ 1000) :
    Calls Tryz.prog 96 #[.slice (some ⟨g, 0, none⟩) l.length l.length, .bool true] w fun e w' => e = .returned (.bool (l.any id)) ∧ w' = w := by
  have HI : Hid (Calls Tryz.prog 124 #[.slice (some ⟨g, 0, none⟩) l.length l.length, .bool true] w fun e w' => ∃ j : Int, e = .returned (.int .i64 j) ∧ decide (0 ≤ j) = l.any id ∧ w' = w) := IndexB_any l g w h hl
  go_enter Tryz.func96, Tryz.ntmps96
  go_wp2_with fail
  refine HI.out.mono ?_
  rintro e w ⟨j, rfl, hj, rfl⟩
  have HJ : Hid (decide (0 ≤ j) = l.any id) := hj
  clear hj
  go_wp2
  go_ret
  exact ⟨ret_bool HJ.out, rfl⟩

/-- the first k of n are true -/
def firstT (n k : Nat) : List Value := boolsV (List.replicate k true ++ List.replicate (n - k) false)
theorem firstT_length {n k : Nat} (h : k ≤ n) : (firstT n k).length = n := by simp [firstT, boolsV]; omega
theorem firstT_all (n : Nat) : firstT n n = boolsV (List.replicate n true) := by simp [firstT]
theorem firstT_cell {n k j : Nat} (hk : k ≤ n) (hj : j < k) : (firstT n k)[j]? = some (.bool true) := by
  unfold firstT boolsV
  rw [List.getElem?_map, List.getElem?_append_left (by simpa using hj), List.getElem?_replicate, if_pos hj]
  rfl
theorem firstT_splice {n k m : Nat} (hk : k + m ≤ n) : splice (firstT n k) k (List.replicate m (.bool true)) = firstT n (k + m) := by
  unfold splice firstT boolsV
  simp only [List.map_append, List.map_replicate, List.length_replicate]
  rw [List.take_left' (by simp), ← List.append_assoc, List.replicate_append_replicate, List.drop_append]
  congr 1
  simp
  omega

set_option maxRecDepth 100000 in
set_option maxHeartbeats 2000000 in
theorem Repeat_any (n g : Nat) (w : World) (h1 : 1 ≤ n) (h6 : n ≤ 6) (hg : RowAt w g 4 [.bool true]) :
    Calls Tryz.prog 95 #[.slice (some ⟨g, 0, none⟩) 1 1, .int .i64 n] w fun e w' => ∃ k, e = .returned (.slice (some ⟨k, 0, none⟩) n n) ∧ w.heap.size ≤ k ∧ RowAt w' k 4 (boolsV (List.replicate n true)) ∧ Below w.heap.size w w' := by
  have HM : Hid (Calls Tryz.prog 123 #[.int .u64 1, .int .u64 n] w fun e w' => e = .returned (.tuple #[.int .u64 0, .int .u64 n]) ∧ w' = w) := Mul_one n w h1 h6
  obtain ⟨j0, hJ, hy0, hy1, hy2⟩ := info_parts infoBool
  have hsz : (Tryz.prog.info? 4).map (·.size) = some 1 := by rw [hJ]; simp [hy1]
  have hc0 := hg.cell (i := 0) rfl
  have hu : IntKind.u64.wrap (n : Int) = n := by rw [IntKind.wrap_u64]; omega
  have hu1 : IntKind.i64.wrap (n : Int) = n := by rw [IntKind.wrap_i64]; omega
  go_enter Tryz.func95, Tryz.ntmps95
  go_wp2_with fail
  refine HM.out.mono ?_
  rintro e w ⟨rfl, rfl⟩
  go_wp2_with (at_make; go_must (refine wpList_make_full _ rfl _ _ 134 rfl w.heap.size 4 j0 (.bool false) 1 Tryz.underlying134 hJ hy0 hy1 .i64 .i64 _ _ n rfl rfl rfl rfl ?b2 ?b3 ?b4 ?_))
  case b2 => rw [hy2]; omega
  case b3 => unfold maxLen; omega
  case b4 => simp
  intro w1 hown hgrow
  have hown' : w1.ownsRow w.heap.size 4 1 (.slice (some ⟨w.heap.size, 0, none⟩) n n) n (madeCells #[.bool false] n).toList := by simpa using hown
  rw [made_bools] at hown'
  have R1 : RowAt w1 w.heap.size 4 (firstT n 0) := by
    have := RowAt.of_owns hown'
    simpa [firstT] using this
  have B1 : Below w.heap.size w w1 := (Below.refl _ _).grown hgrow (by simp) (by intro k hk; cases hk)
  have hc1 := (hg.later B1 hg.lt).cell (i := 0) rfl
  clear hown hgrow hown' hc0
  have hz : w.heap.size < w1.heap.size := R1.lt
  have S1 : Hid (splice (firstT n 0) 0 [.bool true] = firstT n 1) := firstT_splice (n := n) (k := 0) (m := 1) (by omega)
  obtain ⟨w2, hrun, R2, B2⟩ : ∃ w2, (Builtin.copy_ #[134, 134] 3 #[.slice (some ⟨w.heap.size, 0, none⟩) n n, .slice (some ⟨g, 0, none⟩) 1 1]).run Tryz.prog w1 = .ok (.int .i64 1) w2 ∧ Hid (RowAt w2 w.heap.size 4 (firstT n 1)) ∧ Hid (Below w.heap.size w w2) := by
    have hrun := run_copy_row (P := Tryz.prog) w1 134 134 3 4 w.heap.size 0 n n ⟨g, 0, none⟩ 1 1 (firstT n 0).toArray 4 [.bool true] Tryz.underlying134 hsz R1 (by simp; show 1 = min 1 n; omega) (by
      intro j v hj
      match j, hj with
      | 0, hj => simp at hj; subst hj; exact hc1) (by have := firstT_length (n := n) (k := 0) (by omega); simp [this]; omega) (by intro v hv; simp at hv; subst hv; rfl)
    refine ⟨_, hrun, ?_, below_setRow B1 (Nat.le_refl _) _⟩
    show RowAt _ _ _ _
    rw [← S1.out]
    have := setRow_heap w1 w.heap.size _ (splice (firstT n 0) 0 [.bool true]).toArray 4 (0, 0) R1
    simpa [splice, RowAt] using this
  clear R1 B1 hc1 hz
  go_wp2
  go_loopw [8] (fun s8 wr => ∃ k : Nat, 1 ≤ k ∧ k ≤ n ∧ s8 = .int .i64 k ∧ Hid (RowAt wr w.heap.size 4 (firstT n k)) ∧ Hid (Below w.heap.size w wr)) (fun s8 _ => n - (intOf s8).toNat)
  case atStart => exact ⟨1, by omega, by omega, rfl, R2, B2⟩
  case round =>
    obtain ⟨k, hk1, hkn, rfl, hr, hb⟩ := hrel
    by_cases hlt : k < n
    · obtain ⟨m, hm⟩ : ∃ m, m = Nat.min k (n - k) := ⟨_, rfl⟩
      have hm1 : 1 ≤ m := by rw [hm]; show 1 ≤ min k (n - k); omega
      have hm2 : k + m ≤ n := by rw [hm]; show k + min k (n - k) ≤ n; omega
      have S2 : splice (firstT n k) k (List.replicate m (.bool true)) = firstT n (k + m) := firstT_splice hm2
      obtain ⟨w3, hrun2, R3, B3⟩ : ∃ w3, (Builtin.copy_ #[134, 134] 3 #[.slice (some ⟨w.heap.size, k, none⟩) (n - k) (n - k), .slice (some ⟨w.heap.size, 0, none⟩) k n]).run Tryz.prog wr.drew = .ok (.int .i64 (m : Nat)) w3 ∧ Hid (RowAt w3 w.heap.size 4 (firstT n (k + m))) ∧ Hid (Below w.heap.size w w3) := by
        have hr' : RowAt wr.drew w.heap.size 4 (firstT n k) := hr.out
        have hrun := run_copy_row (P := Tryz.prog) wr.drew 134 134 3 4 w.heap.size k (n - k) (n - k) ⟨w.heap.size, 0, none⟩ k n (firstT n k).toArray 4 (List.replicate m (.bool true)) Tryz.underlying134 hsz hr' (by rw [List.length_replicate, hm]) (by
          intro j v hj
          rw [List.getElem?_replicate] at hj
          split at hj
          · rename_i hjm
            obtain rfl := Option.some.inj hj
            rw [add_addr, Nat.zero_add]
            have hkm : m ≤ k := by rw [hm]; exact Nat.min_le_left _ _
            exact hr'.cell (firstT_cell hkn (by omega))
          · cases hj) (by have := firstT_length hkn; simp [this]; omega) (by intro v hv; rw [List.mem_replicate] at hv; rw [hv.2]; rfl)
        rw [List.length_replicate] at hrun
        refine ⟨_, hrun, ?_, below_setRow hb.out.drew (Nat.le_refl _) _⟩
        show RowAt _ _ _ _
        rw [← S2]
        have := setRow_heap wr.drew w.heap.size _ (splice (firstT n k) k (List.replicate m (.bool true))).toArray 4 (0, 0) hr'
        simpa [splice, RowAt] using this
      clear S2
      have hne : ¬ n = k := by omega
      have hne' : ¬ k = n := by omega
      clear hrun
      go_wp2_with fail
      go_region
      go_wp2
      go_roundw
      case rel => exact ⟨k + m, by omega, by omega, by go_num, R3, B3⟩
      case measure => simp [intOf]; omega
    · obtain rfl : k = n := by omega
      have R3 : Hid (RowAt wr w.heap.size 4 (boolsV (List.replicate k true))) := by rw [← firstT_all]; exact hr
      clear hrun
      go_wp2
      go_ret
      exact ⟨_, rfl, Nat.le_refl _, R3.out, hb.out⟩
end Fl
end Go.Proofs.YtpnmmmlckdkcdakGreatDoor
