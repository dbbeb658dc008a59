/- What impl.sumBytes and impl.Crc answer, at every text of at most 2^21 bytes, where the table of sixteen lies as the program's text lays it. -/
import Derived.Test.YtcjpepdagnifiaaDoorRows
import Derived.Test.YtcjpepdagnifiaaDoorSCrcWalks
import Derived.WalkKit
import Derived.ProofKit
import Derived.Lib.LaidTab
namespace Go.Proofs.YtcjpepdagnifiaaDoor
open Go.RowKit
set_option linter.unusedVariables false

/-- The table's numbers, as the program's text lays them. -/
def tabZ : List Int := [0, 274646895, 549293790, 820201905, 1098587580, 1361435347, 1640403810, 1905808397, 2197175160, 2460548119, 2722870694, 2987750089, 3280807620, 3553878443, 3811616794, 4084100981]
theorem tabZ_at : ∀ r, r < 16 → tabZ.getD r 0 = ((tabv r : Nat) : Int) := by decide

/-- The table of sixteen lies in block 0. -/
def TabAt (w : World) : Prop := ∀ r, r < 16 → w.cell? ⟨1, r, none⟩ = some (.int .u32 ((tabv r : Nat) : Int))

set_option maxRecDepth 100000 in
theorem sumBytes_calls (c : Nat) (s : ByteArray) (w : World) (hc : c < 2 ^ 32) (hs : s.size ≤ 2097152) (ht : TabAt w) :
    Calls Tryd.prog 104 #[.int .u32 c, .string s] w fun e w' => e = .returned (.int .u32 (crcL s.data.toList c : Int)) ∧ w' = w := by
  have HT : Hid (TabAt w) := ht
  clear ht
  go_enter Tryd.func104, Tryd.ntmps104
  go_wp2
  go_loop [0, 8] (fun x i => ∃ k : Nat, k ≤ s.size ∧ i = .int .i64 k ∧ x = .int .u32 ((crcL (s.data.toList.take k) c : Nat) : Int)) (fun _ i => s.size - (intOf i).toNat)
  case atStart => exact ⟨0, Nat.zero_le _, rfl, rfl⟩
  case round =>
    obtain ⟨k, hk, rfl, rfl⟩ := hrel
    have hC := crcL_lt (s.data.toList.take k) c hc
    by_cases hlt : k < s.size
    · have HS : Hid (_ = _) := crc_take s k c hlt
      generalize crcL (s.data.toList.take k) c = C at *
      have hb := UInt8.toNat_lt s[k]
      have hx := xor_u32 C s[k].toNat hC (by omega)
      have hD := Nat.xor_lt_two_pow hC (byte_lt s[k])
      have HB : Hid (_ = _) := crcB_two C s[k]
      generalize C ^^^ s[k].toNat = D at *
      have h1 := and15_u32 D hD
      have t1 := HT.out (D % 16) (by omega)
      have x1 := look_u32 D hD
      have hE := stpN_lt 4 D hD
      generalize stpN 4 D = E at *
      have h2 := and15_u32 E hE
      have t2 := HT.out (E % 16) (by omega)
      have x2 := look_u32 E hE
      go_wp2
      go_round
      case rel => exact ⟨k + 1, by omega, by go_num, by rw [HS.out, HB.out]⟩
      case measure => simp [intOf]; omega
    · obtain rfl : k = s.size := by omega
      have HE : Hid (s.data.toList.take s.size = s.data.toList) := List.take_of_length_le (by rw [Array.length_toList]; exact Nat.le_refl _)
      go_wp2
      go_ret
      exact ⟨by rw [HE.out]; rfl, rfl⟩

theorem tab_of {w : World} (h : Lib.TabIs Tryd.prog w "loop.example/g01412/impl.sumTable" .u32 tabZ) : TabAt w := by
  intro r hr
  rw [← tabZ_at r hr]
  exact h.cell (by kernel_rfl) r hr
theorem tab_pos {w : World} (h : TabAt w) : 1 < w.heap.size := by
  have h0 := h 0 (by decide)
  simp only [World.cell?] at h0
  cases hh : w.heap[1]? with
  | none => rw [hh] at h0; simp at h0
  | some o => exact (Array.getElem?_eq_some_iff.1 hh).1
theorem tab_below {w w' : World} {X : Nat} (h : TabAt w) (hb : Below X w w') (hX : 1 < X) : TabAt w' :=
  fun r hr => (hb.cell (p := ⟨1, r, none⟩) hX).trans (h r hr)

theorem extract_list (s : ByteArray) (d p : Nat) : (s.extract d p).data.toList = (s.data.toList.take p).drop d := by
  have h := ByteArray.extract_mk s.data.toList d p
  rw [show (ByteArray.mk s.data.toList.toArray) = s from rfl] at h
  rw [h]
  show ((s.data.toList.drop d).take (p - d)) = _
  rw [List.drop_take]

theorem crc_piece (s : ByteArray) (d p : Nat) (h : d ≤ p) (c : Nat) : crcL (s.extract d p).data.toList (crcL (s.data.toList.take d) c) = crcL (s.data.toList.take p) c := by
  rw [extract_list, ← crcL_append]
  congr 1
  have e : s.data.toList.take d = (s.data.toList.take p).take d := by rw [List.take_take, Nat.min_eq_left h]
  rw [e, List.take_append_drop]

theorem width_pos (s : ByteArray) (pos : Nat) (h : pos < s.size) : 1 ≤ (Utf8.decode s pos).2 := by
  by_cases ha : (s[pos]'h).toNat < 128
  · rw [decode_ascii s pos h ha]
    exact Nat.le_refl _
  · exact (decode_high s pos h (by omega)).2

theorem iter_below (w : World) (s : ByteArray) (pos : Nat) : Below w.heap.size w (w.iter s pos) := (Below.refl _ _).alloc (Nat.le_refl _) _

set_option maxRecDepth 100000 in
theorem iCrc_calls (s : ByteArray) (w : World) (hs : s.size ≤ 2097152) (ht : TabAt w) :
    Calls Tryd.prog 91 #[.string s] w fun e w' => e = .returned (.int .i64 (crcV s.data.toList)) ∧ Below w.heap.size w w' := by
  have HT : Hid (∀ pos, TabAt (w.iter s pos)) := fun pos => tab_below ht (iter_below w s pos) (tab_pos ht)
  clear ht
  go_enter Tryd.func91, Tryd.ntmps91
  go_wp2
  go_loopw [3, 4] (fun x y wr => ∃ d pos : Nat, wr = w.iter s pos ∧ d ≤ pos ∧ d ≤ s.size ∧ y = .int .i64 d ∧ x = .int .u32 ((crcL (s.data.toList.take d) 4294967295 : Nat) : Int)) (fun _ _ wr => s.size - wr.iterPos w.heap.size)
  case atStart => exact ⟨0, 0, rfl, Nat.le_refl _, Nat.zero_le _, rfl, rfl⟩
  case round =>
    obtain ⟨d, pos, rfl, hd, hds, rfl, rfl⟩ := hrel
    have hC := crcL_lt (s.data.toList.take d) 4294967295 (by decide)
    by_cases hp : pos < s.size
    · have hnx : ∀ ty, (Instr.next (.pointer (some ⟨w.heap.size, 0, none⟩)) true ty).run Tryd.prog (w.iter s pos) = _ := fun ty => run_next_any w s pos ty hp
      have HP : Hid (_ = _) := crc_piece s d pos hd 4294967295
      have hwd := width_pos s pos hp
      have hsz : (s.extract d pos).size ≤ 2097152 := by rw [ByteArray.size_extract]; omega
      have hsl : ∀ v : World, (Instr.slice 9 (.string s) (some (.int .i64 (d : Int))) (some (.int .i64 (pos : Int))) none).run Tryd.prog v = .ok (.string (s.extract d pos)) v :=
        fun v => run_slice_string v 9 s .i64 .i64 (d : Int) (pos : Int) Tryd.underlying9 (by omega) (by omega) (by omega)
      go_wp2_with fail
      refine (sumBytes_calls _ _ _ hC hsz (HT.out _)).mono ?_
      rintro e w1 ⟨rfl, rfl⟩
      rw [HP.out]
      go_wp2
      go_roundw
      case rel => exact ⟨pos, _, rfl, by omega, by omega, rfl, rfl⟩
      case measure => simp; omega
    · have hnx : ∀ ty, (Instr.next (.pointer (some ⟨w.heap.size, 0, none⟩)) true ty).run Tryd.prog (w.iter s pos) = _ := fun ty => run_next_end w s pos ty hp
      have HP : Hid (_ = _) := crc_piece s d s.size hds 4294967295
      have HE : Hid (s.data.toList.take s.size = s.data.toList) := List.take_of_length_le (by rw [Array.length_toList]; exact Nat.le_refl _)
      have hsz : (s.extract d s.size).size ≤ 2097152 := by rw [ByteArray.size_extract]; omega
      have hV := crcL_lt s.data.toList 4294967295 (by decide)
      go_wp2_with fail
      refine (sumBytes_calls _ _ _ hC hsz (HT.out _)).mono ?_
      rintro e w1 ⟨rfl, rfl⟩
      rw [HP.out, HE.out]
      go_wp2
      go_ret
      exact ⟨rfl, iter_below _ _ _⟩

end Go.Proofs.YtcjpepdagnifiaaDoor
