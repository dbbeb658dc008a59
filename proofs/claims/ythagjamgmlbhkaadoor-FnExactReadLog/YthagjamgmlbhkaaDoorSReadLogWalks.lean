/- What spec.ReadLog answers, at every text of at most 2^20 bytes. -/
import Derived.Test.YthagjamgmlbhkaaDoorSSpotsWalks
import Derived.Test.YthagjamgmlbhkaaDoorOwnS
namespace Go.Proofs.YthagjamgmlbhkaaDoor
open Go.RowKit
set_option linter.unusedVariables false

theorem dropNe (l : List UInt8) (p : Nat) (hp : p < l.length) : l.drop p ≠ [] := by
  intro he
  have := congrArg List.length he
  rw [List.length_drop, List.length_nil] at this
  omega
theorem rg_none (l : List UInt8) (p : Nat) (out : List (List UInt8)) (hp : p < l.length) (h : rdF (l.drop p) = none) : rdG l.length (l.drop p) out = ([], 2) := by
  obtain ⟨f, hf⟩ : ∃ f, l.length = f + 1 := ⟨l.length - 1, by omega⟩
  rw [hf]; exact rdG_none f _ out (dropNe l p hp) h
theorem rg_seq (l : List UInt8) (p : Nat) (out : List (List UInt8)) (q : Nat) (t : List UInt8) (k : Nat) (hp : p < l.length) (h : rdF (l.drop p) = some (q, t, k)) (hq : ¬ q = out.length) : rdG l.length (l.drop p) out = ([], 3) := by
  obtain ⟨f, hf⟩ : ∃ f, l.length = f + 1 := ⟨l.length - 1, by omega⟩
  rw [hf]; exact rdG_seq f _ out q t k (dropNe l p hp) h hq
theorem rg_last (l : List UInt8) (p : Nat) (out : List (List UInt8)) (q : Nat) (k : Nat) (hp : p < l.length) (h : rdF (l.drop p) = some (q, [], k)) (hq : q = out.length) : rdG l.length (l.drop p) out = if p + k < l.length then ([], 5) else (out, 0) := by
  obtain ⟨f, hf⟩ : ∃ f, l.length = f + 1 := ⟨l.length - 1, by omega⟩
  have e := rdG_last f _ out q k (dropNe l p hp) h hq
  rw [← hf, List.length_drop] at e
  rw [e]
  by_cases hk : p + k < l.length
  · rw [if_pos hk, if_pos (by omega)]
  · rw [if_neg hk, if_neg (by omega)]
theorem rg_step (l : List UInt8) (p : Nat) (out : List (List UInt8)) (q : Nat) (t : List UInt8) (k : Nat) (hp : p < l.length) (h : rdF (l.drop p) = some (q, t, k)) (hq : q = out.length) (ht : t ≠ []) : rdG l.length (l.drop p) out = rdG l.length (l.drop (p + k)) (out ++ [t]) := by
  obtain ⟨f, hf⟩ : ∃ f, l.length = f + 1 := ⟨l.length - 1, by omega⟩
  have hk := rdF_pos _ _ _ _ h
  have e := rdG_step f _ out q t k (dropNe l p hp) h hq ht
  rw [← hf, List.drop_drop] at e
  rw [e, rdG_fuel f l.length _ _ (by rw [List.length_drop]; omega) (by rw [List.length_drop]; omega)]
theorem rg_end (l : List UInt8) (p : Nat) (out : List (List UInt8)) (hp : l.length ≤ p) : rdG l.length (l.drop p) out = ([], 4) := by rw [List.drop_eq_nil_of_le hp, rdG_nil]

theorem ret_vi {v : Value} {a b : Int} (h : a = b) : Ending.returned (.tuple #[v, .int .i64 a]) = .returned (.tuple #[v, .int .i64 b]) := by rw [h]
theorem head_no (l : List UInt8) (h : ¬ l.take 5 = magic) : rdL l = ([], 1) := by unfold rdL; rw [if_neg h]
theorem head_short (l : List UInt8) (h : l.length < 5) : ¬ l.take 5 = magic := by
  intro he
  have := congrArg List.length he
  rw [List.length_take] at this
  have e5 : magic.length = 5 := rfl
  omega

set_option maxHeartbeats 2000000 in
theorem sReadLog_calls (l : List UInt8) (w : World) (hs : l.length ≤ 1048576) :
    Calls Tryd.prog 23 #[.string (txt l)] w fun e w' => ∃ v, e = .returned (.tuple #[v, .int .i64 ((rdL l).2 : Int)]) ∧ ownS w' w.heap.size v (rdL l).1 ∧ Below w.heap.size w w' := by
  have hls : (txt l).size = l.length := rfl
  have hms : ({ data := #[72, 76, 79, 71, 1] } : ByteArray).size = 5 := rfl
  have HX : Hid ((txt l).extract 0 5 = txt (l.take 5)) := extract_to l 5
  have HT : Hid (_ = _) := magic_test l
  have O0 : Hid (ownS (w.alloc (.cells #[] 9)) w.heap.size (.slice (some ⟨w.heap.size, 0, none⟩) 0 0) []) := ownS_new _ _ (Nat.le_refl _)
  have B0 : Below w.heap.size w (w.alloc (.cells #[] 9)) := (Below.refl _ _).alloc (Nat.le_refl _) _
  by_cases h5 : l.length < 5
  · have HN : Hid (rdL l = ([], 1)) := head_no l (head_short l h5)
    generalize rdL l = R at *
    generalize l.length = N at *
    go_enter Tryd.func23, Tryd.ntmps23
    go_wp2_with fail
    refine (sMagic_calls _).mono ?_
    rintro e w1 ⟨rfl, rfl⟩
    go_wp2
    go_ret2
    exact ⟨_, by rw [HN.out]; rfl, by rw [HN.out]; exact O0.out, B0⟩
  · have h5a : (5 : Int) ≤ (l.length : Int) := by omega
    have hX := HX.out
    have hT := HT.out
    by_cases hm : l.take 5 = magic
    · have HS : Hid (rdL l = rdG l.length (l.drop 5) []) := by show _ = _; unfold rdL; rw [if_pos hm]
      have ST : Hid (∀ p out q t k, p < l.length → rdF (l.drop p) = some (q, t, k) → q = out.length → t ≠ [] → rdG l.length (l.drop p) out = rdG l.length (l.drop (p + k)) (out ++ [t])) := fun p out q t k => rg_step l p out q t k
      have SL : Hid (∀ p out q k, p < l.length → rdF (l.drop p) = some (q, [], k) → q = out.length → rdG l.length (l.drop p) out = if p + k < l.length then ([], 5) else (out, 0)) := fun p out q k => rg_last l p out q k
      have SQ : Hid (∀ p out q t k, p < l.length → rdF (l.drop p) = some (q, t, k) → ¬ q = out.length → rdG l.length (l.drop p) out = ([], 3)) := fun p out q t k => rg_seq l p out q t k
      have SN : Hid (∀ p out, p < l.length → rdF (l.drop p) = none → rdG l.length (l.drop p) out = ([], 2)) := fun p out => rg_none l p out
      have SE : Hid (∀ p out, l.length ≤ p → rdG l.length (l.drop p) out = ([], 4)) := fun p out => rg_end l p out
      have EX : Hid (∀ p, (txt l).extract p l.length = txt (l.drop p)) := extract_from l
      have CI : Hid (∀ p q t k X, rdF (l.drop p) = some (q, t, k) → _) := fun p q t k X h => sReadFrame_is (l.drop p) X (by rw [List.length_drop]; omega) q t k h
      have CN : Hid (∀ p X, rdF (l.drop p) = none → _) := fun p X h => sReadFrame_isnt (l.drop p) X (by rw [List.length_drop]; omega) h
      have RL : Hid (∀ p q t k, rdF (l.drop p) = some (q, t, k) → 6 ≤ k ∧ k ≤ l.length - p) := fun p q t k h => ⟨rdF_pos _ _ _ _ h, by have h2 := rdF_sound _ _ _ _ h; rw [List.length_drop] at h2; exact h2.2.2.1⟩
      rw [decide_eq_true hm] at hT
      clear hm HX HT
      generalize rdL l = R at *
      obtain ⟨N, hN⟩ : ∃ N, l.length = N := ⟨_, rfl⟩
      rw [hN] at hs hls h5 h5a HS ST SL SQ SN SE EX RL
      clear hN
      go_enter Tryd.func23, Tryd.ntmps23
      go_wp2_with fail
      refine (sMagic_calls _).mono ?_
      rintro e w1 ⟨rfl, rfl⟩
      obtain ⟨V, hV⟩ : ∃ V, w.alloc (.cells #[] 9) = V := ⟨_, rfl⟩
      have hVs : V.heap.size = w.heap.size + 1 := by rw [← hV]; simp
      rw [hV] at O0 B0 ⊢
      clear hV
      have O1 : ownS (V.alloc (.cells #[] 9)) (w.heap.size + 1) (.slice (some ⟨V.heap.size, 0, none⟩) 0 0) [] := ownS_new _ _ (by omega)
      rw [hVs] at O1
      have B1 : Below (w.heap.size + 1) V (V.alloc (.cells #[] 9)) := (Below.refl _ _).alloc (by omega) _
      have BW : Hid (∀ X, Below (w.heap.size + 1) V X → Below w.heap.size w X ∧ ownS X w.heap.size (.slice (some ⟨w.heap.size, 0, none⟩) 0 0) []) := fun X hX => ⟨B0.trans (hX.mono (by omega)), ownS_below O0.out hX (fun g hg => by simp [Value.ownBlock] at hg; omega)⟩
      clear B0
      go_wp2
      go_loopw [6, 7] (fun v x wr => ∃ (P : List (List UInt8)) (p : Nat), p ≤ N ∧ P.length ≤ p ∧ x = .int .i64 (p : Int) ∧ Hid (R = rdG N (l.drop p) P) ∧ ownS wr (w.heap.size + 1) v P ∧ Below (w.heap.size + 1) V wr) (fun _ x _ => N - (intOf x).toNat)
      case atStart => exact ⟨[], 5, by omega, by simp, rfl, HS, O1, B1⟩
      case round =>
        obtain ⟨P, p, hp, hPl, rfl, HP, hown, hb⟩ := hrel
        have hbs := hb.size
        by_cases hlt : p < N
        · have hx : (txt l).extract p N = txt (l.drop p) := EX.out p
          cases hr : rdF (l.drop p) with
          | none =>
            have HE : Hid (R = ([], 2)) := by show _ = _; rw [HP.out, SN.out p P hlt hr]
            have HC : Hid (∀ X, _) := fun X => CN.out p X hr
            clear hr
            go_wp2_with fail
            refine (HC.out _).mono ?_
            rintro e w3 ⟨rfl, b3⟩
            have B3 := hb.trans (b3.mono (by omega))
            go_wp2
            go_ret2
            exact ⟨_, by rw [HE.out]; rfl, by rw [HE.out]; exact (BW.out _ B3).2, (BW.out _ B3).1⟩
          | some x =>
            obtain ⟨q, t, k⟩ := x
            obtain ⟨hk6, hkl⟩ := RL.out p q t k hr
            have HC : Hid (∀ X, _) := fun X => CI.out p q t k X hr
            have qk : ((k : Int) == 0) = false := by rw [beq_eq_false_iff_ne]; omega
            obtain ⟨ao, cp, hv, -⟩ := ownS_read hown
            subst hv
            have HO : Hid (ownS wr (w.heap.size + 1) (.slice ao P.length cp) P) := hown
            clear hown
            by_cases hq : q = P.length
            · by_cases ht : t = []
              · subst ht
                have HE0 := HP.out.trans (SL.out p P q k hlt hr hq)
                have ht0 : txt [] = ⟨#[]⟩ := rfl
                by_cases hk2 : p + k < N
                · rw [if_pos hk2] at HE0
                  have HE : Hid (R = ([], 5)) := HE0
                  rw [hq, ht0] at HC
                  have hk3 : (p : Int) + (k : Int) < (N : Int) := by omega
                  clear hr HE0 hq ht0
                  generalize P.length = n at *
                  go_wp2_with fail
                  refine (HC.out _).mono ?_
                  rintro e w3 ⟨rfl, b3⟩
                  have B3 := hb.trans (b3.mono (by omega))
                  go_wp2
                  go_ret2
                  exact ⟨_, by rw [HE.out]; rfl, by rw [HE.out]; exact (BW.out _ B3).2, (BW.out _ B3).1⟩
                · rw [if_neg hk2] at HE0
                  have HE : Hid (R = (P, 0)) := HE0
                  rw [hq, ht0] at HC
                  have hk3 : (N : Int) ≤ (p : Int) + (k : Int) := by omega
                  clear hr HE0 hq ht0
                  obtain ⟨n, hn⟩ : ∃ n, P.length = n := ⟨_, rfl⟩
                  rw [hn] at HC HO hPl ⊢
                  clear hn
                  go_wp2_with fail
                  refine (HC.out _).mono ?_
                  rintro e w3 ⟨rfl, b3⟩
                  have B3 := hb.trans (b3.mono (by omega))
                  have HO3 : Hid (ownS w3 (w.heap.size + 1) (.slice ao n cp) P) := ownS_later HO.out b3
                  go_wp2
                  go_ret2
                  exact ⟨_, by rw [HE.out]; rfl, by rw [HE.out]; exact ownS_mono HO3.out (by omega), (BW.out _ B3).1⟩
              · have HE : Hid (R = rdG N (l.drop (p + k)) (P ++ [t])) := HP.out.trans (ST.out p P q t k hlt hr hq ht)
                have hz1 : ((txt t).toList == []) = false := by
                  rw [beq_eq_false_iff_ne]; unfold txt; rw [ByteArray.toList_mk]; exact ht
                rw [hq] at HC
                clear hr hq ht
                go_wp2_with fail
                refine (HC.out _).mono ?_
                rintro e w3 ⟨rfl, b3⟩
                have B3 := hb.trans (b3.mono (by omega))
                have O3 := ownS_later HO.out b3
                have hs3 := b3.size
                go_wp2_with (at_builtin; refine wpList_appendS rfl _ _ rfl (w.heap.size + 1) _ P rfl (ownS_alloc _ O3) ⟨w3.heap.size, 0, none⟩ [t] 1 1 rfl rfl ?hsrc ?hlen V (B3.alloc (by omega) _) (by omega) ?_)
                case hsrc => exact src_str w3 t
                case hlen => rw [List.length_singleton]; omega
                · intro v4 w4 O4 B4
                  go_wp2
                  go_roundw
                  case rel => exact ⟨P ++ [t], p + k, by omega, by rw [List.length_append, List.length_singleton]; omega, by go_num, HE, O4, B4⟩
                  case measure => simp [intOf]; omega
            · have HE : Hid (R = ([], 3)) := HP.out.trans (SQ.out p P q t k hlt hr hq)
              have hq2 : ((q : Int) == (P.length : Int)) = false := by rw [beq_eq_false_iff_ne]; omega
              clear hr hq
              generalize P.length = n at *
              go_wp2_with fail
              refine (HC.out _).mono ?_
              rintro e w3 ⟨rfl, b3⟩
              have B3 := hb.trans (b3.mono (by omega))
              go_wp2
              go_ret2
              exact ⟨_, by rw [HE.out]; rfl, by rw [HE.out]; exact (BW.out _ B3).2, (BW.out _ B3).1⟩
        · have HE : Hid (R = ([], 4)) := by show _ = _; rw [HP.out, SE.out p P (by omega)]
          go_wp2
          go_ret2
          exact ⟨_, by rw [HE.out]; rfl, by rw [HE.out]; exact (BW.out _ hb).2, (BW.out _ hb).1⟩
    · have HN : Hid (rdL l = ([], 1)) := head_no l hm
      rw [decide_eq_false hm] at hT
      clear hm HX HT
      generalize rdL l = R at *
      generalize l.length = N at *
      go_enter Tryd.func23, Tryd.ntmps23
      go_wp2_with fail
      refine (sMagic_calls _).mono ?_
      rintro e w1 ⟨rfl, rfl⟩
      go_wp2
      go_ret2
      exact ⟨_, by rw [HN.out]; rfl, by rw [HN.out]; exact O0.out, B0⟩

end Go.Proofs.YthagjamgmlbhkaaDoor
