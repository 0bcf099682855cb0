/- The document's Signs and Right of layer 9: they answer by the functions of 'PatS'; what lay in the world lies there still. Condition: texts of at most 2^16 bytes. -/
import Derived.Test.YtncljgpcloanfaaDoorQatR7
import Derived.Test.YtncljgpcloanfaaDoorQatS
import Derived.Test.YtncljgpcloanfaaDoorSignWalk
import Derived.Test.YtncljgpcloanfaaDoorValidRef
namespace Go.Proofs.YtncljgpcloanfaaDoor
open Go.RowKit Go.Lib

def cellI (c : Nat) : Value := .int .i64 (c : Int)
theorem info_int : (Tryd.prog.info? 3).map (fun i => (i.zero, i.size, i.bytes)) = some (some (.int .i64 0), 1, 8) := by kernel_rfl
/-- The value v is a row of the call's own (its block from 'base' on) that holds the numbers l. -/
def OwnsI (base : Nat) (w : World) (v : Value) (l : List Nat) : Prop := w.ownsRow base 3 1 v l.length (l.map cellI)
theorem OwnsI.nil (base : Nat) (w : World) : OwnsI base w (.slice none 0 0) [] := World.ownsRow_nil w base 3 1
theorem wpList_append_int {ops : Array Oper} {rest : List Oper} {o : Oper} {a : Act} {Q : Exit → Act → World → Prop} (w : World) (y : Int)
    (hgd : o.guard = none) (s x : Operand) (ho : o.op = .call { callee := .builtin .append, args := #[s, x], argTypes := #[32, 32] })
    (base : Nat) (v : Value) (l : List Nat) (c : Nat) (hy : y = (c : Int)) (hs : a.eval s = v) (hown : OwnsI base w v l)
    (hx : a.eval x = .slice (some ⟨w.heap.size, 0, none⟩) 1 1) (hlen : l.length ≤ 1048576) (hbase : base ≤ w.heap.size)
    (h : ∀ v' w', OwnsI base w' v' (l ++ [c]) → Below base w w' → wpList Tryd.prog ops Q rest (a.put o.dst v') w') : wpList Tryd.prog ops Q (o :: rest) a (w.alloc (.cells #[.int .i64 y] 3)) := by
  subst hy
  obtain ⟨i, hi, hz0, hz1, hz2⟩ := info_parts info_int
  have hown' : (w.alloc (.cells #[.int .i64 (c : Int)] 3)).ownsRow base 3 1 v l.length (l.map cellI) := World.ownsRow.alloc hown _
  refine wpList_append_own (P := Tryd.prog) _ hgd s x 32 ho base 3 i (.int .i64 0) 1 8 Tryd.underlying32 hi hz0 hz1 hz2 rfl (by decide) v l.length (l.map cellI) hs hown' ⟨w.heap.size, 0, none⟩ 1 1 [cellI c] hx rfl (cell_one_new _ _ _) (fun u hu => by simp at hu; subst hu; rfl) (by unfold maxLen; omega) (by omega) (by simp; omega) ?_
  intro v' w' h1 h2 _
  refine h v' w' ?_ (((Below.refl base w).alloc hbase _).trans (grown_below hown' h2 (by simp; omega)))
  simpa [OwnsI] using h1
/-- What such a row is to a reader. -/
theorem OwnsI.form {base : Nat} {w : World} {v : Value} {l : List Nat} (h : OwnsI base w v l) : (l = [] ∧ ∃ p c, v = .slice p 0 c) ∨ ∃ g cap, v = rowV g cap l ∧ base ≤ g ∧ g < w.heap.size ∧ ∀ i (h : i < l.length), w.cell? ⟨g, i, none⟩ = some (.int .i64 (l[i] : Nat)) := by
  rcases h.2 with ⟨h1, h2⟩ | ⟨g, cap, cur, h1, h2, h3, h4⟩
  · exact .inl ⟨List.eq_nil_of_length_eq_zero h2, none, 0, h1⟩
  · refine .inr ⟨g, cap, h1, h2, ?_, fun i hi => ?_⟩
    · rcases Nat.lt_or_ge g w.heap.size with h' | h'
      · exact h'
      · simp [Array.getElem?_eq_none h'] at h3
    · subst h1
      rw [World.ownsRow.cellAt h i (by omega)]
      simp [cellI, hi]
def cdF (s : ByteArray) (pos m : Nat) : Nat → Nat
  | 0 => bn s pos % m
  | j + 1 => cdF s pos m j * 64 + bn s (pos + (j + 1)) % 64
theorem cdF_le {s : ByteArray} {pos m : Nat} (hm : 0 < m) (h32 : m ≤ 32) : ∀ j, j ≤ 3 → cdF s pos m j ≤ 8388607 := by
  intro j hj
  have h0 : cdF s pos m 0 ≤ 31 := by have := Nat.mod_lt (bn s pos) hm; unfold cdF; omega
  rcases (show j = 0 ∨ j = 1 ∨ j = 2 ∨ j = 3 by omega) with rfl | rfl | rfl | rfl
  · omega
  · show cdF s pos m 0 * 64 + bn s (pos + 1) % 64 ≤ _; omega
  · show (cdF s pos m 0 * 64 + bn s (pos + 1) % 64) * 64 + bn s (pos + 2) % 64 ≤ _; omega
  · show ((cdF s pos m 0 * 64 + bn s (pos + 1) % 64) * 64 + bn s (pos + 2) % 64) * 64 + bn s (pos + 3) % 64 ≤ _; omega
/-- A sign of more than one byte: how many, and its number. -/
theorem wide_is {s : ByteArray} {pos : Nat} (hp : pos < s.size) (hn : ¬ NoSign s pos) : ((Utf8.decode s pos).2 = 1 ∧ (Utf8.decode s pos).1 = bn s pos) ∨ ∃ n m, (n = 2 ∧ m = 32 ∨ n = 3 ∧ m = 16 ∨ n = 4 ∧ m = 8) ∧ (Utf8.decode s pos).2 = n ∧ (Utf8.decode s pos).1 = cdF s pos m (n - 1) ∧ pos + n ≤ s.size := by
  have hw := width_le s pos hp
  unfold NoSign at hn
  rw [decode_bn] at hn hw ⊢
  rcases decodeN_shape (s.size - pos) (bn s pos) (bn s (pos + 1)) (bn s (pos + 2)) (bn s (pos + 3)) with ⟨_, e⟩ | ⟨_, _, _, _, e⟩ | ⟨_, _, _, _, _, _, e⟩ | ⟨_, _, _, _, _, _, _, e⟩ | e
  · rw [e]; exact .inl ⟨rfl, rfl⟩
  · rw [e] at hw ⊢
    exact .inr ⟨2, 32, .inl ⟨rfl, rfl⟩, rfl, rfl, hw⟩
  · rw [e] at hw ⊢
    refine .inr ⟨3, 16, .inr (.inl ⟨rfl, rfl⟩), rfl, ?_, hw⟩
    show _ = (bn s pos % 16 * 64 + bn s (pos + 1) % 64) * 64 + bn s (pos + 2) % 64
    simp only; omega
  · rw [e] at hw ⊢
    refine .inr ⟨4, 8, .inr (.inr ⟨rfl, rfl⟩), rfl, ?_, hw⟩
    show _ = ((bn s pos % 8 * 64 + bn s (pos + 1) % 64) * 64 + bn s (pos + 2) % 64) * 64 + bn s (pos + 3) % 64
    simp only; omega
  · rw [e] at hn; exact absurd ⟨rfl, rfl⟩ hn
theorem signs_at {s : ByteArray} {pos : Nat} (hp : pos < s.size) : signsL (s.data.toList.drop pos) = (Utf8.decode s pos).1 :: signsL (s.data.toList.drop (pos + (Utf8.decode s pos).2)) := by
  have hne : s.data.toList.drop pos ≠ [] := by
    intro e; have := congrArg List.length e; simp at this; omega
  rw [signs_step _ hne, decodeL_drop, List.drop_drop]
theorem index_p9 (s : ByteArray) (i : Int) (j : Nat) (h : i = j) (hj : j < s.size) (w : World) : (Instr.index 9 (.string s) (.int .i64 i)).run Tryd.prog w = .ok (.int .u8 (bn s j : Int)) w := by
  subst h
  rw [run_index_string _ _ _ _ _ Tryd.underlying9, dif_pos ⟨by omega, by omega⟩, ← bn_at s j hj]
  rfl

set_option maxHeartbeats 2000000 in
set_option maxRecDepth 100000 in
theorem refSigns_any (s : ByteArray) (w : World) (hs : s.size ≤ 65536) :
    Calls Tryd.prog 15 #[.string s] w fun e w' => ∃ v, e = .returned v ∧ OwnsI w.heap.size w' v (signsL s.data.toList) ∧ Below w.heap.size w w' := by
  go_enter Tryd.func15, Tryd.ntmps15
  go_wp2_with fail
  go_loopw [3, 4] (fun v i wr => ∃ (pos : Nat) (done : List Nat), pos ≤ s.size ∧ done.length ≤ pos ∧ i = .int .i64 pos ∧ Hid (signsL s.data.toList = done ++ signsL (s.data.toList.drop pos)) ∧ OwnsI w.heap.size wr v done ∧ Below w.heap.size w wr) (fun _ i _ => s.size - (intOf i).toNat)
  case atStart => exact ⟨0, [], Nat.zero_le _, Nat.le_refl _, rfl, by show _ = _; simp, OwnsI.nil _ _, Below.refl _ _⟩
  case round =>
    obtain ⟨pos, done, hp, hdl, rfl, hd, hown, hb⟩ := hrel
    rename World => wr
    have hsz := hb.size
    by_cases hlt : pos < s.size
    · have i1 : (pos : Int) < (s.size : Int) := by omega
      have HS := hide (fun w => sign_any s pos w (by omega) hlt)
      have E := hd.out
      rw [signs_at hlt] at E
      have hwd := Lib.decode_width_pos s pos hlt
      have hwl := width_le s pos hlt
      by_cases hn : NoSign s pos
      · rw [signAt_bad hn] at HS
        obtain ⟨n1, n2⟩ := hn
        rw [n1, n2] at E
        have E2 : Hid (signsL s.data.toList = (done ++ [65533]) ++ signsL (s.data.toList.drop (pos + 1))) := by show _ = _; rw [E]; simp
        clear hd E hwd hwl n1 n2
        go_wp2_with fail
        refine (HS.out _).mono ?_
        rintro e uu ⟨rfl, rfl⟩
        go_wp2_with (at_builtin; refine wpList_append_int uu _ rfl _ _ rfl w.heap.size _ _ 65533 rfl rfl hown rfl (by omega) (by omega) ?_; intro v' w' hown' hb')
        go_roundw
        case rel => exact ⟨pos + 1, done ++ [65533], by omega, by simp; omega, by go_num, E2, hown', hb.trans hb'⟩
        case measure => simp [intOf]; omega
      · have WD := wide_is hlt hn
        rw [signAt_ok hn] at HS
        have cb : (bn s pos : Int) ≤ 255 := by have := bn_lt s pos; omega
        have xb := fun w => index_p9 s (pos : Int) pos rfl hlt w
        clear hn hd
        generalize decide (65535 < (Utf8.decode s pos).1) = big at *
        rcases WD with ⟨w1, w2⟩ | ⟨n, m, hnm, w1, w2, w3⟩
        · rw [w1, w2] at E
          rw [w1] at HS
          have E2 : Hid (signsL s.data.toList = (done ++ [bn s pos]) ++ signsL (s.data.toList.drop (pos + 1))) := by show _ = _; rw [E]; simp
          clear E w1 w2 hwd hwl
          generalize bn s pos = b0 at *
          go_wp2_with fail
          refine (HS.out _).mono ?_
          rintro e uu ⟨rfl, rfl⟩
          go_wp2_with fail
          go_loop [7, 8] (fun c i => i = .int .i64 1 ∧ c = .int .i64 (b0 : Int)) (fun _ _ => 0)
          case atStart => exact ⟨rfl, rfl⟩
          case round =>
            obtain ⟨rfl, rfl⟩ := hrel
            go_wp2_with (at_builtin; refine wpList_append_int uu _ rfl _ _ rfl w.heap.size _ _ b0 rfl rfl hown rfl (by omega) (by omega) ?_; intro v' w' hown' hb')
            go_roundw
            case rel => exact ⟨pos + 1, done ++ [b0], by omega, by simp; omega, by go_num, E2, hown', hb.trans hb'⟩
            case measure => simp [intOf]; omega
        · rw [w1, w2] at E
          rw [w1] at HS
          have E2 : Hid (signsL s.data.toList = (done ++ [cdF s pos m (n - 1)]) ++ signsL (s.data.toList.drop (pos + n))) := by show _ = _; rw [E]; simp
          have CL := hide (fun j (hj : j ≤ 3) => cdF_le (s := s) (pos := pos) (m := m) (by omega) (by omega) j hj)
          have CS : Hid (∀ j, cdF s pos m (j + 1) = cdF s pos m j * 64 + bn s (pos + (j + 1)) % 64) := fun _ => rfl
          have C0 : Hid (cdF s pos m 0 = bn s pos % m) := rfl
          have XI := hide (fun j (hj : pos + j < s.size) w => index_p9 s ((pos : Int) + (j : Int)) (pos + j) (by omega) hj w)
          have BL := hide (fun j => bn_lt s j)
          clear E w1 w2 hwd hwl
          rcases hnm with ⟨rfl, rfl⟩ | ⟨rfl, rfl⟩ | ⟨rfl, rfl⟩
          · go_wp2_with fail
            refine (HS.out _).mono ?_
            rintro e uu ⟨rfl, rfl⟩
            go_wp2_with fail
            go_loop [7, 8] (fun c i => ∃ j : Nat, 1 ≤ j ∧ j ≤ 2 ∧ i = .int .i64 j ∧ c = .int .i64 (cdF s pos 32 (j - 1) : Nat)) (fun _ i => 2 - (intOf i).toNat)
            case atStart =>
              refine ⟨1, by omega, by omega, rfl, ?_⟩
              show _ = Value.int .i64 ((cdF s pos 32 0 : Nat) : Int)
              rw [C0.out]
              first | rfl | (congr 1; omega)
            case round =>
              obtain ⟨j, j1, j2, rfl, rfl⟩ := hrel
              by_cases hj : j < 2
              · have hjs : pos + j < s.size := by omega
                have x1 := fun w => XI.out j hjs w
                have k1 := CL.out (j - 1) (by omega)
                have k2 := BL.out (pos + j)
                have e1 := CS.out (j - 1)
                rw [show j - 1 + 1 = j by omega] at e1
                have RD : Hid (∀ x : Int, x = (cdF s pos 32 (j - 1) : Int) * 64 + (bn s (pos + j) : Int) % 64 → Value.int IntKind.i64 x = .int .i64 (cdF s pos 32 (j + 1 - 1) : Nat)) := fun x hx => by
                  rw [hx, show j + 1 - 1 = j by omega, e1]; congr 1
                have jj1 : 1 ≤ (j : Int) := by omega
                have jj2 : (j : Int) < 2 := by omega
                have kk1 : (cdF s pos 32 (j - 1) : Int) ≤ 8388607 := by omega
                have kk0 : 0 ≤ (cdF s pos 32 (j - 1) : Int) := by omega
                have kk2 : (bn s (pos + j) : Int) ≤ 255 := by omega
                have kk3 : 0 ≤ (bn s (pos + j) : Int) := by omega
                clear e1 CS CL C0 XI BL E2 k1 k2
                generalize (cdF s pos 32 (j - 1) : Int) = cc at *
                generalize (bn s (pos + j) : Int) = bb at *
                go_wp2_with fail
                go_round
                case rel => exact ⟨j + 1, by omega, by omega, by go_num, RD.out _ (by first | rfl | omega)⟩
                case measure => simp [intOf]; omega
              · obtain rfl : j = 2 := by omega
                clear CS CL C0 XI BL hj
                generalize cdF s pos 32 (2 - 1) = cc at *
                go_wp2_with (at_builtin; refine wpList_append_int uu _ rfl _ _ rfl w.heap.size _ _ cc rfl rfl hown rfl (by omega) (by omega) ?_; intro v' w' hown' hb')
                go_roundw
                case rel => exact ⟨pos + 2, done ++ [cc], by omega, by simp; omega, by go_num, E2, hown', hb.trans hb'⟩
                case measure => simp [intOf]; omega
          · go_wp2_with fail
            refine (HS.out _).mono ?_
            rintro e uu ⟨rfl, rfl⟩
            go_wp2_with fail
            go_loop [7, 8] (fun c i => ∃ j : Nat, 1 ≤ j ∧ j ≤ 3 ∧ i = .int .i64 j ∧ c = .int .i64 (cdF s pos 16 (j - 1) : Nat)) (fun _ i => 3 - (intOf i).toNat)
            case atStart =>
              refine ⟨1, by omega, by omega, rfl, ?_⟩
              show _ = Value.int .i64 ((cdF s pos 16 0 : Nat) : Int)
              rw [C0.out]
              first | rfl | (congr 1; omega)
            case round =>
              obtain ⟨j, j1, j2, rfl, rfl⟩ := hrel
              by_cases hj : j < 3
              · have hjs : pos + j < s.size := by omega
                have x1 := fun w => XI.out j hjs w
                have k1 := CL.out (j - 1) (by omega)
                have k2 := BL.out (pos + j)
                have e1 := CS.out (j - 1)
                rw [show j - 1 + 1 = j by omega] at e1
                have RD : Hid (∀ x : Int, x = (cdF s pos 16 (j - 1) : Int) * 64 + (bn s (pos + j) : Int) % 64 → Value.int IntKind.i64 x = .int .i64 (cdF s pos 16 (j + 1 - 1) : Nat)) := fun x hx => by
                  rw [hx, show j + 1 - 1 = j by omega, e1]; congr 1
                have jj1 : 1 ≤ (j : Int) := by omega
                have jj2 : (j : Int) < 3 := by omega
                have kk1 : (cdF s pos 16 (j - 1) : Int) ≤ 8388607 := by omega
                have kk0 : 0 ≤ (cdF s pos 16 (j - 1) : Int) := by omega
                have kk2 : (bn s (pos + j) : Int) ≤ 255 := by omega
                have kk3 : 0 ≤ (bn s (pos + j) : Int) := by omega
                clear e1 CS CL C0 XI BL E2 k1 k2
                generalize (cdF s pos 16 (j - 1) : Int) = cc at *
                generalize (bn s (pos + j) : Int) = bb at *
                go_wp2_with fail
                go_round
                case rel => exact ⟨j + 1, by omega, by omega, by go_num, RD.out _ (by first | rfl | omega)⟩
                case measure => simp [intOf]; omega
              · obtain rfl : j = 3 := by omega
                clear CS CL C0 XI BL hj
                generalize cdF s pos 16 (3 - 1) = cc at *
                go_wp2_with (at_builtin; refine wpList_append_int uu _ rfl _ _ rfl w.heap.size _ _ cc rfl rfl hown rfl (by omega) (by omega) ?_; intro v' w' hown' hb')
                go_roundw
                case rel => exact ⟨pos + 3, done ++ [cc], by omega, by simp; omega, by go_num, E2, hown', hb.trans hb'⟩
                case measure => simp [intOf]; omega
          · go_wp2_with fail
            refine (HS.out _).mono ?_
            rintro e uu ⟨rfl, rfl⟩
            go_wp2_with fail
            go_loop [7, 8] (fun c i => ∃ j : Nat, 1 ≤ j ∧ j ≤ 4 ∧ i = .int .i64 j ∧ c = .int .i64 (cdF s pos 8 (j - 1) : Nat)) (fun _ i => 4 - (intOf i).toNat)
            case atStart =>
              refine ⟨1, by omega, by omega, rfl, ?_⟩
              show _ = Value.int .i64 ((cdF s pos 8 0 : Nat) : Int)
              rw [C0.out]
              first | rfl | (congr 1; omega)
            case round =>
              obtain ⟨j, j1, j2, rfl, rfl⟩ := hrel
              by_cases hj : j < 4
              · have hjs : pos + j < s.size := by omega
                have x1 := fun w => XI.out j hjs w
                have k1 := CL.out (j - 1) (by omega)
                have k2 := BL.out (pos + j)
                have e1 := CS.out (j - 1)
                rw [show j - 1 + 1 = j by omega] at e1
                have RD : Hid (∀ x : Int, x = (cdF s pos 8 (j - 1) : Int) * 64 + (bn s (pos + j) : Int) % 64 → Value.int IntKind.i64 x = .int .i64 (cdF s pos 8 (j + 1 - 1) : Nat)) := fun x hx => by
                  rw [hx, show j + 1 - 1 = j by omega, e1]; congr 1
                have jj1 : 1 ≤ (j : Int) := by omega
                have jj2 : (j : Int) < 4 := by omega
                have kk1 : (cdF s pos 8 (j - 1) : Int) ≤ 8388607 := by omega
                have kk0 : 0 ≤ (cdF s pos 8 (j - 1) : Int) := by omega
                have kk2 : (bn s (pos + j) : Int) ≤ 255 := by omega
                have kk3 : 0 ≤ (bn s (pos + j) : Int) := by omega
                clear e1 CS CL C0 XI BL E2 k1 k2
                generalize (cdF s pos 8 (j - 1) : Int) = cc at *
                generalize (bn s (pos + j) : Int) = bb at *
                go_wp2_with fail
                go_round
                case rel => exact ⟨j + 1, by omega, by omega, by go_num, RD.out _ (by first | rfl | omega)⟩
                case measure => simp [intOf]; omega
              · obtain rfl : j = 4 := by omega
                clear CS CL C0 XI BL hj
                generalize cdF s pos 8 (4 - 1) = cc at *
                go_wp2_with (at_builtin; refine wpList_append_int uu _ rfl _ _ rfl w.heap.size _ _ cc rfl rfl hown rfl (by omega) (by omega) ?_; intro v' w' hown' hb')
                go_roundw
                case rel => exact ⟨pos + 4, done ++ [cc], by omega, by simp; omega, by go_num, E2, hown', hb.trans hb'⟩
                case measure => simp [intOf]; omega
    · obtain rfl : pos = s.size := by omega
      have E := hd.out
      rw [List.drop_eq_nil_of_le (by simp), signs_nil, List.append_nil] at E
      rw [← E] at hown
      clear hd E
      go_wp2_with fail
      go_ret
      exact ⟨_, rfl, hown, hb⟩

end Go.Proofs.YtncljgpcloanfaaDoor
