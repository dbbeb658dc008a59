/- What spec.LiveIds and impl.LiveIds answer. -/
import Derived.Test.YtgggmeceeehdcaaFreeWalks
namespace Go.Proofs.Ytgggmeceeehdcaa
open Go.RowKit
set_option linter.unusedVariables false

def liveL : List ObjD → Int → List Int
  | [], _ => []
  | o :: r, i => if o.live = true then idZ i o.gen :: liveL r (i + 1) else liveL r (i + 1)
/-- The ids of what is live, by slots. -/
def liveIds (H : HeapD) : List Int := liveL (H.objs.take 8) 0
theorem live_step (H : HeapD) (j : Nat) (h : j < H.objs.length) (h8 : j < 8) (o : ObjD) (ho : H.objs[j] = o) :
    liveL ((H.objs.take 8).drop j) (j : Int) = if o.live = true then idZ (j : Int) o.gen :: liveL ((H.objs.take 8).drop (j + 1)) ((j + 1 : Nat) : Int) else liveL ((H.objs.take 8).drop (j + 1)) ((j + 1 : Nat) : Int) := by
  have hl : j < (H.objs.take 8).length := by rw [List.length_take]; omega
  rw [List.drop_eq_getElem_cons hl, List.getElem_take, ho]; simp [liveL]
theorem live_end (H : HeapD) (j : Nat) (h : H.objs.length ≤ j ∨ 8 ≤ j) (i : Int) : liveL ((H.objs.take 8).drop j) i = [] := by
  rw [List.drop_eq_nil_of_le (by rw [List.length_take]; omega)]; rfl
theorem liveL_le (os : List ObjD) : ∀ i, (liveL os i).length ≤ os.length := by
  induction os with
  | nil => intro i; simp [liveL]
  | cons o r ih =>
    intro i
    unfold liveL
    have := ih (i + 1)
    split <;> simp <;> omega
theorem liveIds_le (H : HeapD) : (liveIds H).length ≤ 8 := by
  unfold liveIds
  refine Nat.le_trans (liveL_le _ _) ?_
  rw [List.length_take]; omega

theorem sLiveIds_calls (v : Value) (H : HeapD) (w : World) (h : RdH w v H) (hs : SmallH H) :
    Calls Try.prog 24 #[v] w fun e w' => ∃ u, e = .returned u ∧ ownI w' w.heap.size u (liveIds H) ∧ Below w.heap.size w w' := by
  obtain ⟨ao, co, aw, cw, ab, cb, sa, sc, rfl, ro, -, -, -⟩ := h
  have hn := hs.objs
  clear hs
  obtain ⟨W, hW⟩ : ∃ W, W = w.alloc (.cells #[.slice ao H.objs.length co, .slice aw H.weaks.length cw, .slice ab H.buffer.length cb, .slice sa H.sites.length sc] 27) := ⟨_, rfl⟩
  have BW : Below w.heap.size w W := by rw [hW]; exact (Below.refl _ _).alloc (Nat.le_refl _) _
  have hsW : W.heap.size = w.heap.size + 1 := by rw [hW]; simp
  have HR : Hid (RdO W ao H.objs) := rdO_later ro BW
  have hp : W.cell? ⟨w.heap.size, 0, none⟩ = some (.slice ao H.objs.length co) := by rw [hW, World.cell?_alloc_mark]; rfl
  have H0 : Hid (liveIds H = [] ++ liveL ((H.objs.take 8).drop 0) ((0 : Nat) : Int)) := by show _ = _; unfold liveIds; rw [List.drop_zero]; rfl
  have HS : Hid (∀ (j : Nat) (h : j < H.objs.length), j < 8 → ∀ o, H.objs[j] = o → liveL ((H.objs.take 8).drop j) (j : Int) = _) := fun j h h8 o ho => live_step H j h h8 o ho
  have HN : Hid (∀ (j : Nat), H.objs.length ≤ j ∨ 8 ≤ j → liveL ((H.objs.take 8).drop j) (j : Int) = []) := fun j h => live_end H j h _
  generalize liveIds H = Z at *
  obtain ⟨n, hnn⟩ : ∃ n, H.objs.length = n := ⟨_, rfl⟩
  have Hn : Hid (H.objs.length = n) := hnn
  rw [hnn] at hn hp hW ⊢
  clear ro hnn
  have O1 : ownI (W.alloc (.cells #[] 3)) W.heap.size (.slice (some ⟨W.heap.size, 0, none⟩) 0 0) [] := ownI_new _ _ (Nat.le_refl _)
  have B1 : Below W.heap.size W (W.alloc (.cells #[] 3)) := (Below.refl _ _).alloc (Nat.le_refl _) _
  have HP : Hid (∀ X, Below W.heap.size W X → X.cell? ⟨w.heap.size, 0, none⟩ = some (.slice ao n co)) := fun X hX => (hX.cell (p := ⟨w.heap.size, 0, none⟩) (by show w.heap.size < _; omega)).trans hp
  have HR2 : Hid (∀ X, Below W.heap.size W X → RdO X ao H.objs) := fun X hX => rdO_later HR.out hX
  have HsW : Hid (W.heap.size = w.heap.size + 1) := hsW
  clear HR hp hsW
  go_enter Try.func24, Try.ntmps24
  go_wp2
  rw [← hW]
  clear hW
  go_loopw [3, 4] (fun v i wr => ∃ (j : Nat) (P : List Int), j ≤ n ∧ j ≤ 8 ∧ i = .int .i64 j ∧ P.length ≤ j ∧ Hid (Z = P ++ liveL ((H.objs.take 8).drop j) (j : Int)) ∧ ownI wr W.heap.size v P ∧ Below W.heap.size W wr) (fun _ i _ => n - (intOf i).toNat)
  case atStart => exact ⟨0, [], by omega, by omega, rfl, by simp, H0, HsW.out ▸ O1, B1⟩
  case round =>
    obtain ⟨j, P, hj, hj8, rfl, hPl, HJ, hown, hb⟩ := hrel
    have hp := HP.out _ hb
    by_cases hlt : j < n
    · by_cases hlt8 : j < 8
      · have hj2 : j < H.objs.length := by have := Hn.out; omega
        obtain ⟨g, off, f, fc, rfl, -, hc, -⟩ := HR2.out _ hb j hj2
        obtain ⟨o, ho⟩ : ∃ o, H.objs[j] = o := ⟨_, rfl⟩
        have HD : Hid (_ = _) := HS.out j hj2 hlt8 o ho
        rw [ho] at hc
        obtain ⟨c0, c1, -⟩ := hc
        clear ho
        cases hlv : o.live with
        | false =>
          have HZ : Hid (Z = P ++ liveL ((H.objs.take 8).drop (j + 1)) ((j + 1 : Nat) : Int)) := by show _ = _; rw [HJ.out, HD.out, if_neg (by simp [hlv])]
          rw [hlv] at c0
          clear HD hlv
          generalize o.gen = og at *
          go_wp2
          go_roundw
          case rel => exact ⟨j + 1, P, by omega, by omega, by go_num, by omega, HZ, hown, hb⟩
          case measure => simp [intOf]; omega
        | true =>
          have HZ : Hid (Z = (P ++ [idZ (j : Int) o.gen]) ++ liveL ((H.objs.take 8).drop (j + 1)) ((j + 1 : Nat) : Int)) := by show _ = _; rw [HJ.out, HD.out, if_pos hlv]; simp
          have CID : Hid (∀ X, _) := fun X => sIdOf_calls (j : Int) o.gen X
          rw [hlv] at c0
          clear HD hlv
          generalize idZ (j : Int) o.gen = id at *
          generalize o.gen = og at *
          go_wp2_with fail
          refine (CID.out _).mono ?_
          rintro e w3 ⟨rfl, hw3⟩
          subst hw3
          go_wp2_with (at_builtin; refine wpList_appendI rfl _ _ rfl W.heap.size _ P rfl (ownI_alloc _ hown) ⟨w3.heap.size, 0, none⟩ [id] 1 1 rfl rfl ?hsrc ?hlen W (hb.alloc hb.size _) (Nat.le_refl _) ?_)
          case hsrc => exact src_int w3 id
          case hlen => rw [List.length_singleton]; omega
          · intro v4 w4 O4 B4
            go_wp2
            go_roundw
            case rel => exact ⟨j + 1, P ++ [id], by omega, by omega, by go_num, by rw [List.length_append, List.length_singleton]; omega, HZ, O4, B4⟩
            case measure => simp [intOf]; omega
      · obtain rfl : j = 8 := by omega
        have HZ : Hid (Z = P) := by show _ = _; rw [HJ.out, HN.out 8 (.inr (by omega)), List.append_nil]
        go_wp2
        go_ret
        exact ⟨_, rfl, HZ.out ▸ ownI_mono hown BW.size, BW.trans (hb.mono BW.size)⟩
    · obtain rfl : j = n := by omega
      have HZ : Hid (Z = P) := by show _ = _; rw [HJ.out, HN.out j (.inl (by have := Hn.out; omega)), List.append_nil]
      go_wp2
      go_ret
      exact ⟨_, rfl, HZ.out ▸ ownI_mono hown BW.size, BW.trans (hb.mono BW.size)⟩

theorem iLiveIds_calls (v : Value) (H : HeapD) (w : World) (h : RdH w v H) (hs : SmallH H) :
    Calls Try.prog 25 #[v] w fun e w' => ∃ u, e = .returned u ∧ ownI w' w.heap.size u (liveIds H) ∧ Below w.heap.size w w' := by
  obtain ⟨ao, co, aw, cw, ab, cb, sa, sc, rfl, ro, -, -, -⟩ := h
  have hn := hs.objs
  clear hs
  obtain ⟨W, hW⟩ : ∃ W, W = w.alloc (.cells #[.slice ao H.objs.length co, .slice aw H.weaks.length cw, .slice ab H.buffer.length cb, .slice sa H.sites.length sc] 27) := ⟨_, rfl⟩
  have BW : Below w.heap.size w W := by rw [hW]; exact (Below.refl _ _).alloc (Nat.le_refl _) _
  have HR : Hid (RdO W ao H.objs) := rdO_later ro BW
  have H0 : Hid (liveIds H = [] ++ liveL ((H.objs.take 8).drop 0) ((0 : Nat) : Int)) := by show _ = _; unfold liveIds; rw [List.drop_zero]; rfl
  have HS : Hid (∀ (j : Nat) (h : j < H.objs.length), j < 8 → ∀ o, H.objs[j] = o → liveL ((H.objs.take 8).drop j) (j : Int) = _) := fun j h h8 o ho => live_step H j h h8 o ho
  have HN : Hid (∀ (j : Nat) (i : Int), H.objs.length ≤ j ∨ 8 ≤ j → liveL ((H.objs.take 8).drop j) i = []) := fun j i h => live_end H j h i
  generalize liveIds H = Z at *
  have hex : ∃ g off, 0 < H.objs.length → ao = some ⟨g, off, none⟩ := by
    by_cases h0 : 0 < H.objs.length
    · obtain ⟨g, off, f, fc, ha, -⟩ := ro 0 h0
      exact ⟨g, off, fun _ => ha⟩
    · exact ⟨0, 0, fun h => absurd h h0⟩
  obtain ⟨g, off, ha⟩ := hex
  have HA : Hid (0 < H.objs.length → ao = some ⟨g, off, none⟩) := ha
  have CC : Hid (∀ X : World, _) := fun X => cellsOf_calls X ao H.objs.length co (.slice aw H.weaks.length cw) (.slice ab H.buffer.length cb) (.slice sa H.sites.length sc) hn g off ha ⟨_, _, _, _, _, _, _, _, _, rfl, rfl, rfl⟩
  obtain ⟨x, hx, hxs⟩ := cells_idxs g off H.objs.length
  have HX : Hid (∀ s : Nat, s < 8 → ∀ X : World, (Instr.index 51 (.agg x) (.int .i64 (s : Int))).run Try.prog X = .ok (.pointer (cellA g off H.objs.length s)) X) := hxs
  rw [hx] at CC
  clear ro hx hxs ha
  go_enter Try.func25, Try.ntmps25
  go_wp2_with fail
  rw [← hW]
  clear hW
  refine (CC.out _).mono ?_
  rintro e w1 ⟨rfl, b1⟩
  have HR1 : Hid (∀ X, Below w1.heap.size w1 X → RdO X ao H.objs) := fun X hX => rdO_later (rdO_later HR.out b1) hX
  have B1 := BW.trans (b1.mono BW.size)
  clear b1 CC HR BW
  go_wp2
  go_loopw [3, 8] (fun v i wr => ∃ (j : Nat) (P : List Int), j ≤ 8 ∧ i = .int .i64 j ∧ P.length ≤ j ∧ Hid (Z = P ++ liveL ((H.objs.take 8).drop j) (j : Int)) ∧ ownI wr w1.heap.size v P ∧ Below w1.heap.size w1 wr) (fun _ i _ => 8 - (intOf i).toNat)
  case atStart => exact ⟨0, [], by omega, rfl, by simp, H0, ownI_nil _ _, Below.refl _ _⟩
  case round =>
    obtain ⟨j, P, hj8, rfl, hPl, HJ, hown, hb⟩ := hrel
    by_cases hlt8 : j < 8
    · have hix := HX.out j hlt8
      by_cases hj2 : j < H.objs.length
      · obtain ⟨g', off', f, fc, ha', -, hc, -⟩ := HR1.out _ hb j hj2
        rw [HA.out (by omega)] at ha'
        obtain ⟨rfl, rfl⟩ : g = g' ∧ off = off' := by simpa using ha'
        have hA : cellA g off H.objs.length j = some ⟨g, off + j * 8, none⟩ := by unfold cellA; rw [if_pos hj2]
        rw [hA] at hix
        obtain ⟨o, ho⟩ : ∃ o, H.objs[j] = o := ⟨_, rfl⟩
        have HD : Hid (_ = _) := HS.out j hj2 hlt8 o ho
        rw [ho] at hc
        obtain ⟨c0, c1, -⟩ := hc
        clear ho ha'
        cases hlv : o.live with
        | false =>
          have HZ : Hid (Z = P ++ liveL ((H.objs.take 8).drop (j + 1)) ((j + 1 : Nat) : Int)) := by show _ = _; rw [HJ.out, HD.out, if_neg (by simp [hlv])]
          rw [hlv] at c0
          clear HD hlv
          generalize o.gen = og at *
          go_wp2
          go_roundw
          case rel => exact ⟨j + 1, P, by omega, by go_num, by omega, HZ, hown, hb⟩
          case measure => simp [intOf]; omega
        | true =>
          have HZ : Hid (Z = (P ++ [idZ (j : Int) o.gen]) ++ liveL ((H.objs.take 8).drop (j + 1)) ((j + 1 : Nat) : Int)) := by show _ = _; rw [HJ.out, HD.out, if_pos hlv]; simp
          have CID : Hid (∀ X, _) := fun X => iIdOf_calls (j : Int) o.gen X
          rw [hlv] at c0
          clear HD hlv
          generalize idZ (j : Int) o.gen = id at *
          generalize o.gen = og at *
          go_wp2_with fail
          refine (CID.out _).mono ?_
          rintro e w3 ⟨rfl, hw3⟩
          subst hw3
          go_wp2_with (at_builtin; refine wpList_appendI rfl _ _ rfl w1.heap.size _ P rfl (ownI_alloc _ hown) ⟨w3.heap.size, 0, none⟩ [id] 1 1 rfl rfl ?hsrc ?hlen w1 (hb.alloc hb.size _) (Nat.le_refl _) ?_)
          case hsrc => exact src_int w3 id
          case hlen => rw [List.length_singleton]; omega
          · intro v4 w4 O4 B4
            go_wp2
            go_roundw
            case rel => exact ⟨j + 1, P ++ [id], by omega, by go_num, by rw [List.length_append, List.length_singleton]; omega, HZ, O4, B4⟩
            case measure => simp [intOf]; omega
      · have hA : cellA g off H.objs.length j = none := by unfold cellA; rw [if_neg hj2]
        rw [hA] at hix
        have HZ : Hid (Z = P ++ liveL ((H.objs.take 8).drop (j + 1)) ((j + 1 : Nat) : Int)) := by show _ = _; rw [HJ.out, HN.out j _ (.inl (by omega)), HN.out (j + 1) _ (.inl (by omega))]
        go_wp2
        go_roundw
        case rel => exact ⟨j + 1, P, by omega, by go_num, by omega, HZ, hown, hb⟩
        case measure => simp [intOf]; omega
    · obtain rfl : j = 8 := by omega
      have HZ : Hid (Z = P) := by show _ = _; rw [HJ.out, HN.out 8 _ (.inr (by omega)), List.append_nil]
      go_wp2
      go_ret
      exact ⟨_, rfl, HZ.out ▸ ownI_mono hown B1.size, B1.trans (hb.mono B1.size)⟩

end Go.Proofs.Ytgggmeceeehdcaa
