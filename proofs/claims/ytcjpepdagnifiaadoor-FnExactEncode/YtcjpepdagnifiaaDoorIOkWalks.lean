/- What impl.namesOk, bufferOk, weakWrong and sameObj answer. -/
import Derived.Test.YtcjpepdagnifiaaDoorIEdgesWalks
import Derived.Test.YtcjpepdagnifiaaDoorHeapMath
namespace Go.Proofs.YtcjpepdagnifiaaDoor
open Go.RowKit
set_option linter.unusedVariables false

theorem mem_take {α : Type} (zs : List α) (i : Nat) (x : α) : x ∈ zs.take i ↔ ∃ k, ∃ (h : k < zs.length), k < i ∧ zs[k] = x := by
  constructor
  · intro h
    obtain ⟨k, hk, e⟩ := List.mem_iff_getElem.1 h
    rw [List.length_take] at hk
    exact ⟨k, by omega, by omega, by rw [List.getElem_take] at e; exact e⟩
  · rintro ⟨k, h1, h2, e⟩
    exact List.mem_iff_getElem.2 ⟨k, by rw [List.length_take]; omega, by rw [List.getElem_take]; exact e⟩

/-- Names as they are wanted: at most m of them, none shorter than l, no two alike. -/
def NamesIn (m l : Nat) (zs : List (List UInt8)) : Prop := zs.length ≤ m ∧ ∀ i (h : i < zs.length), (l ≤ zs[i].length ∧ zs[i].length ≤ 8) ∧ zs[i] ∉ zs.take i
/-- A heap's names as they are wanted, those behind the sixth too. -/
def NamesOk (zs : List (List UInt8)) : Prop := zs.length ≤ 6 ∧ ∀ i (h : i < zs.length), (1 ≤ zs[i].length ∧ zs[i].length ≤ 8) ∧ zs[i] ∉ zs.take i

theorem namesOk_calls (m l : Nat) (hm0 : m ≤ 400) (hl0 : l ≤ 8) (w : World) (a : Option Addr) (cap : Nat) (zs : List (List UInt8)) (h : RdS w a zs) (hcap : zs.length ≤ cap) (hn : zs.length ≤ 1048576) (hnm : ∀ z ∈ zs, z.length ≤ 1048576) (b : Bool) (hb : b = true ↔ NamesIn m l zs) :
    Calls Tryd.prog 79 #[.slice a zs.length cap, .int .i64 (m : Int), .int .i64 (l : Int)] w fun e w' => e = .returned (.bool b) ∧ w' = w := by
  have HNO : Hid (¬ NamesIn m l zs → b = false) := fun hn => by cases b with | false => rfl | true => exact absurd (hb.1 rfl) hn
  have HY : Hid (NamesIn m l zs → b = true) := hb.2
  clear hb
  by_cases h6 : m < zs.length
  · have hb0 := HNO.out (fun ok => by have := ok.1; omega)
    subst hb0
    clear h hnm
    go_enter Tryd.func79, Tryd.ntmps79
    go_wp2
    go_ret
    exact ⟨rfl, rfl⟩
  · have HA : Hid (RdS w a zs) := h
    have HM : Hid (∀ z ∈ zs, z.length ≤ 1048576) := hnm
    have h7 : zs.length ≤ m := by omega
    have HNX : Hid (∀ i (h : i < zs.length), ¬ ((l ≤ zs[i].length ∧ zs[i].length ≤ 8) ∧ zs[i] ∉ zs.take i) → b = false) := fun i hi hn => HNO.out (fun ok => hn (ok.2 i hi))
    have HY2 : Hid ((∀ i (h : i < zs.length), (l ≤ zs[i].length ∧ zs[i].length ≤ 8) ∧ zs[i] ∉ zs.take i) → b = true) := fun hh => HY.out ⟨h7, hh⟩
    have HTK : Hid (∀ j, j ≤ zs.length → (zs.take j).length = j) := fun j hj => by rw [List.length_take]; omega
    have HRT : Hid (∀ j, RdS w a (zs.take j)) := fun j i hi => by
      have hi2 : i < zs.length := by rw [List.length_take] at hi; omega
      obtain ⟨g', off', e1, e2, e3⟩ := HA.out i hi2
      exact ⟨g', off', e1, e2, by rw [List.getElem_take]; exact e3⟩
    obtain ⟨n, hnn⟩ : ∃ n, zs.length = n := ⟨_, rfl⟩
    have Hn : Hid (zs.length = n) := hnn
    rw [hnn] at hn hcap h7 h6 ⊢
    clear h hnm HNO HY hnn
    go_enter Tryd.func79, Tryd.ntmps79
    go_wp2
    go_loop [15] (fun i => ∃ j : Nat, j ≤ n ∧ i = .int .i64 j ∧ Hid (∀ i (h : i < zs.length), i < j → (l ≤ zs[i].length ∧ zs[i].length ≤ 8) ∧ zs[i] ∉ zs.take i)) (fun i => n - (intOf i).toNat)
    case atStart => exact ⟨0, by omega, rfl, fun i _ h => absurd h (by omega)⟩
    case round =>
      obtain ⟨j, hj, rfl, HJ⟩ := hrel
      by_cases hlt : j < n
      · have hj2 : j < zs.length := by have := Hn.out; omega
        obtain ⟨g, off, rfl, -, hc⟩ := HA.out j hj2
        have HX : Hid (¬ ((l ≤ zs[j].length ∧ zs[j].length ≤ 8) ∧ zs[j] ∉ zs.take j) → b = false) := HNX.out j hj2
        have HZ : Hid (((l ≤ zs[j].length ∧ zs[j].length ≤ 8) ∧ zs[j] ∉ zs.take j) → ∀ i (h : i < zs.length), i < j + 1 → (l ≤ zs[i].length ∧ zs[i].length ≤ 8) ∧ zs[i] ∉ zs.take i) := fun ho i hi hl => by
          rcases Nat.lt_or_ge i j with h3 | h3
          · exact HJ.out i hi h3
          · obtain rfl : i = j := by omega
            exact ho
        have hxl := HM.out _ (List.getElem_mem hj2)
        have htk := HTK.out j (by have := Hn.out; omega)
        have CH : Hid (∀ c, _) := fun c => hasStr_calls w (some ⟨g, off, none⟩) c (zs.take j) zs[j] (HRT.out j) (by rw [htk]; omega)
        rw [htk] at CH
        obtain ⟨x, hx⟩ : ∃ x, zs[j] = x := ⟨_, rfl⟩
        rw [hx] at hc HX HZ hxl CH
        clear hx htk
        have hsz : (txt x).size = x.length := rfl
        have i2 : (j : Int) ≤ (cap : Int) := by omega
        generalize hL : x.length = L at *
        by_cases hl8 : l ≤ L ∧ L ≤ 8
        · by_cases hm : x ∈ zs.take j
          · have hb0 := HX.out (fun hh => hh.2 hm)
            subst hb0
            rw [decide_eq_true hm] at CH
            go_wp2_with fail
            refine (within_yes (L : Int) (l : Int) 8 _ (by omega) (by omega)).mono ?_
            rintro e V ⟨rfl, hV⟩
            subst hV
            go_wp2_with fail
            refine (CH.out _).mono ?_
            rintro e V2 ⟨rfl, hV2⟩
            subst hV2
            go_wp2
            go_ret
            exact ⟨rfl, rfl⟩
          · have HFIN : Hid _ := HZ.out ⟨hl8, hm⟩
            rw [decide_eq_false hm] at CH
            go_wp2_with fail
            refine (within_yes (L : Int) (l : Int) 8 _ (by omega) (by omega)).mono ?_
            rintro e V ⟨rfl, hV⟩
            subst hV
            go_wp2_with fail
            refine (CH.out _).mono ?_
            rintro e V2 ⟨rfl, hV2⟩
            subst hV2
            go_wp2
            go_round
            case rel => exact ⟨j + 1, by omega, by go_num, HFIN⟩
            case measure => simp [intOf]; omega
        · have hb0 := HX.out (fun hh => hl8 hh.1)
          subst hb0
          go_wp2_with fail
          refine (within_no (L : Int) (l : Int) 8 _ (by omega)).mono ?_
          rintro e V ⟨rfl, hV⟩
          subst hV
          go_wp2
          go_ret
          exact ⟨rfl, rfl⟩
      · have ej : n ≤ j := by omega
        have hb1 := HY2.out (fun i hi => HJ.out i hi (by have := Hn.out; omega))
        subst hb1
        go_wp2
        go_ret
        exact ⟨rfl, rfl⟩

theorem sitesOk_calls (w : World) (a : Option Addr) (cap : Nat) (zs : List (List UInt8)) (h : RdS w a zs) (hcap : zs.length ≤ cap) (hn : zs.length ≤ 1048576) (hnm : ∀ z ∈ zs, z.length ≤ 1048576) (b : Bool) (hb : b = true ↔ NamesOk zs) :
    Calls Tryd.prog 79 #[.slice a zs.length cap, .int .i64 6, .int .i64 1] w fun e w' => e = .returned (.bool b) ∧ w' = w :=
  namesOk_calls 6 1 (by omega) (by omega) w a cap zs h hcap hn hnm b hb

/-- The ids kept aside, as they are wanted. -/
def BufOk (H : HeapD) : Prop := H.buffer.length ≤ 8 ∧ ∀ i (h : i < H.buffer.length), okB H i H.buffer[i]

end Go.Proofs.YtcjpepdagnifiaaDoor
