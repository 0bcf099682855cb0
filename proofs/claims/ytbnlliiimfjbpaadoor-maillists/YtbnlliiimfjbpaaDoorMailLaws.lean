/- The walks of stage 7's laws: each returns true, and what lay in the world lies there still. Condition: the tables that the program's road names. -/
import Derived.Test.YtbnlliiimfjbpaaDoorMailProg
import Derived.Test.YtbnlliiimfjbpaaDoorMailRef3
namespace Go.Proofs.YtbnlliiimfjbpaaDoor
open Go.RowKit

theorem mwake_1 : addrL (⟨#[97, 46, 98, 64, 99, 45, 100, 46, 101]⟩ : ByteArray).data.toList = true := by decide +kernel
theorem mwake_2 : addrL (⟨#[97, 64, 45, 98]⟩ : ByteArray).data.toList = false := by decide +kernel
theorem mwake_3 : addrL (⟨#[97, 64, 98]⟩ : ByteArray).data.toList = true := by decide +kernel
theorem mwake_4 : listL (⟨#[97, 64, 98, 44, 32, 99, 64, 100]⟩ : ByteArray).data.toList = true := by decide +kernel
theorem mwake_5 : listL (⟨#[97, 64, 98, 44, 44, 99, 64, 100]⟩ : ByteArray).data.toList = false := by decide +kernel
theorem mwake_6 : cleanM (⟨#[32, 97, 32, 44, 32, 98]⟩ : ByteArray).data.toList = [97, 44, 98] := by decide +kernel
theorem mwake_7 : trimM (⟨#[32, 97, 10]⟩ : ByteArray).data.toList = [97] := by decide +kernel
set_option maxHeartbeats 1000000 in
theorem longM_no (s : ByteArray) (w : World) (h : s.size ≤ 8192) :
    Calls Tryd.prog 8 #[.string s] w fun e w' => e = .returned (.bool false) ∧ w' = w := by
  have d : decide ((8192 : Int) < (s.size : Int)) = false := decide_eq_false (by omega)
  go_enter Tryd.func8, Tryd.ntmps8
  go_wp2_with fail
  go_ret
  first | exact ⟨rfl, rfl⟩ | exact ⟨ret_bool d, rfl⟩
set_option maxHeartbeats 1000000 in
theorem longM_yes (s : ByteArray) (w : World) (h : 8192 < s.size) :
    Calls Tryd.prog 8 #[.string s] w fun e w' => e = .returned (.bool true) ∧ w' = w := by
  have d : decide ((8192 : Int) < (s.size : Int)) = true := decide_eq_true (by omega)
  go_enter Tryd.func8, Tryd.ntmps8
  go_wp2_with fail
  go_ret
  first | exact ⟨rfl, rfl⟩ | exact ⟨ret_bool d, rfl⟩

set_option maxHeartbeats 2000000 in
set_option maxRecDepth 100000 in
theorem address_walk (s : ByteArray) (w : World) (hT : MailTabs w) :
    Calls Tryd.prog 3 #[.string s] w fun e w' => e = .returned (.bool true) ∧ Below w.heap.size w w' := by
  have H1 := hide (fun w' (b : Below w.heap.size w w') => mailAddr_any ⟨#[97, 46, 98, 64, 99, 45, 100, 46, 101]⟩ w' (by decide) (hT.below b))
  rw [mwake_1] at H1
  have H2 := hide (fun w' (b : Below w.heap.size w w') => mailAddr_any ⟨#[97, 64, 45, 98]⟩ w' (by decide) (hT.below b))
  rw [mwake_2] at H2
  by_cases h : s.size ≤ 8192
  · have H3 := hide (fun w' (b : Below w.heap.size w w') => mailAddr_any s w' (by omega) (hT.below b))
    have H4 := hide (fun w' => refAddr_any s w' (by omega))
    have HL := hide (fun w' => longM_no s w' h)
    clear hT h
    generalize addrL s.data.toList = c at *
    go_enter Tryd.func3, Tryd.ntmps3
    go_wp2_with fail
    refine (H1.out _ (Below.refl _ _)).mono ?_
    rintro e v1 ⟨rfl, b1⟩
    go_wp2_with fail
    refine (H2.out _ b1).mono ?_
    rintro e v2 ⟨rfl, b2⟩
    have b2 := chain b1 b2
    go_wp2_with fail
    refine (HL.out _).mono ?_
    rintro e uu ⟨rfl, rfl⟩
    go_wp2_with fail
    refine (H3.out _ b2).mono ?_
    rintro e v3 ⟨rfl, b3⟩
    have b3 := chain b2 b3
    go_wp2_with fail
    refine (H4.out _).mono ?_
    rintro e v4 ⟨rfl, b4⟩
    have b4 := chain b3 b4
    go_wp2_with fail
    go_ret
    exact ⟨rfl, b4⟩
  · have HL := hide (fun w' => longM_yes s w' (by omega))
    clear hT h
    go_enter Tryd.func3, Tryd.ntmps3
    go_wp2_with fail
    refine (H1.out _ (Below.refl _ _)).mono ?_
    rintro e v1 ⟨rfl, b1⟩
    go_wp2_with fail
    refine (H2.out _ b1).mono ?_
    rintro e v2 ⟨rfl, b2⟩
    have b2 := chain b1 b2
    go_wp2_with fail
    refine (HL.out _).mono ?_
    rintro e uu ⟨rfl, rfl⟩
    go_wp2_with fail
    go_ret
    exact ⟨rfl, b2⟩

set_option maxHeartbeats 2000000 in
set_option maxRecDepth 100000 in
theorem lists_walk (s : ByteArray) (w : World) (hT : MailTabs w) :
    Calls Tryd.prog 4 #[.string s] w fun e w' => e = .returned (.bool true) ∧ Below w.heap.size w w' := by
  have H1 := hide (fun w' (b : Below w.heap.size w w') => mailList_any ⟨#[97, 64, 98, 44, 32, 99, 64, 100]⟩ w' (by decide) (hT.below b))
  rw [mwake_4] at H1
  have H2 := hide (fun w' (b : Below w.heap.size w w') => mailList_any ⟨#[97, 64, 98, 44, 44, 99, 64, 100]⟩ w' (by decide) (hT.below b))
  rw [mwake_5] at H2
  by_cases h : s.size ≤ 8192
  · have H3 := hide (fun w' (b : Below w.heap.size w w') => mailList_any s w' (by omega) (hT.below b))
    have H4 := hide (fun w' => refList_any s w' (by omega))
    have HL := hide (fun w' => longM_no s w' h)
    clear hT h
    generalize listL s.data.toList = c at *
    go_enter Tryd.func4, Tryd.ntmps4
    go_wp2_with fail
    refine (H1.out _ (Below.refl _ _)).mono ?_
    rintro e v1 ⟨rfl, b1⟩
    go_wp2_with fail
    refine (H2.out _ b1).mono ?_
    rintro e v2 ⟨rfl, b2⟩
    have b2 := chain b1 b2
    go_wp2_with fail
    refine (HL.out _).mono ?_
    rintro e uu ⟨rfl, rfl⟩
    go_wp2_with fail
    refine (H3.out _ b2).mono ?_
    rintro e v3 ⟨rfl, b3⟩
    have b3 := chain b2 b3
    go_wp2_with fail
    refine (H4.out _).mono ?_
    rintro e v4 ⟨rfl, b4⟩
    have b4 := chain b3 b4
    go_wp2_with fail
    go_ret
    exact ⟨rfl, b4⟩
  · have HL := hide (fun w' => longM_yes s w' (by omega))
    clear hT h
    go_enter Tryd.func4, Tryd.ntmps4
    go_wp2_with fail
    refine (H1.out _ (Below.refl _ _)).mono ?_
    rintro e v1 ⟨rfl, b1⟩
    go_wp2_with fail
    refine (H2.out _ b1).mono ?_
    rintro e v2 ⟨rfl, b2⟩
    have b2 := chain b1 b2
    go_wp2_with fail
    refine (HL.out _).mono ?_
    rintro e uu ⟨rfl, rfl⟩
    go_wp2_with fail
    go_ret
    exact ⟨rfl, b2⟩

theorem clean_size {s : ByteArray} (h : s.size ≤ 8192) : (txt (cleanM s.data.toList)).size ≤ 100000 := by
  have h1 := join_take_le (splitL 44 s.data.toList) (splitL 44 s.data.toList).length
  have h2 := split_sum 44 s.data.toList
  have h3 := split_count 44 s.data.toList
  have hl : s.data.toList.length = s.size := by simp
  rw [List.take_length] at h1
  rw [txt_size]
  unfold cleanM
  omega
theorem trim_size {s : ByteArray} (h : s.size ≤ 8192) : (txt (trimM s.data.toList)).size ≤ 100000 := by
  have h1 := stripL_le (noBrL s.data.toList)
  have h2 := endsP_le [] (by decide) s.data.toList 0
  have hl : s.data.toList.length = s.size := by simp
  rw [txt_size]
  unfold trimM
  unfold noBrL at h1 ⊢
  omega

set_option maxHeartbeats 2000000 in
set_option maxRecDepth 100000 in
theorem mcleans_walk (s : ByteArray) (w : World) (hT : MailTabs w) :
    Calls Tryd.prog 5 #[.string s] w fun e w' => e = .returned (.bool true) ∧ Below w.heap.size w w' := by
  have H1 := hide (fun w' (b : Below w.heap.size w w') => mailClean_any ⟨#[32, 97, 32, 44, 32, 98]⟩ w' (by decide) (hT.below b))
  rw [mwake_6] at H1
  have H1 : Hid (∀ w', Below w.heap.size w w' → Calls Tryd.prog 12 #[.string ⟨#[32, 97, 32, 44, 32, 98]⟩] w' fun e w'' => e = .returned (.string ⟨#[97, 44, 98]⟩) ∧ Below w'.heap.size w' w'') := H1
  have H2 := hide (fun w' (b : Below w.heap.size w w') => mailTrim_any ⟨#[32, 97, 10]⟩ w' (by decide) (hT.below b))
  rw [mwake_7] at H2
  have H2 : Hid (∀ w', Below w.heap.size w w' → Calls Tryd.prog 13 #[.string ⟨#[32, 97, 10]⟩] w' fun e w'' => e = .returned (.string ⟨#[97]⟩) ∧ Below w'.heap.size w' w'') := H2
  by_cases h : s.size ≤ 8192
  · have HL := hide (fun w' => longM_no s w' h)
    have H3 := hide (fun w' (b : Below w.heap.size w w') => mailClean_any s w' (by omega) (hT.below b))
    have H4 := hide (fun w' (b : Below w.heap.size w w') => mailTrim_any s w' (by omega) (hT.below b))
    have H5 := hide (fun w' => refCleanM_any s w' (by omega))
    have H6 := hide (fun w' => refTrim_any s w' (by omega))
    have H7 := hide (fun w' (b : Below w.heap.size w w') => mailClean_any (txt (cleanM s.data.toList)) w' (clean_size h) (hT.below b))
    rw [txt_data, cleanM_again] at H7
    have H8 := hide (fun w' (b : Below w.heap.size w w') => mailTrim_any (txt (trimM s.data.toList)) w' (trim_size h) (hT.below b))
    rw [txt_data, trimM_again] at H8
    generalize txt (trimM s.data.toList) = t at *
    by_cases hc : cleanM s.data.toList = []
    · rw [hc] at H3 H5 H7
      have z0 : (txt ([] : List UInt8)).size = 0 := rfl
      clear hc hT h
      generalize txt ([] : List UInt8) = c at *
      go_enter Tryd.func5, Tryd.ntmps5
      go_wp2_with fail
      refine (H1.out _ (Below.refl _ _)).mono ?_
      rintro e v1 ⟨rfl, b1⟩
      go_wp2_with fail
      refine (H2.out _ b1).mono ?_
      rintro e v2 ⟨rfl, b2⟩
      have b2 := chain b1 b2
      go_wp2_with fail
      refine (HL.out _).mono ?_
      rintro e uu ⟨rfl, rfl⟩
      go_wp2_with fail
      refine (H3.out _ b2).mono ?_
      rintro e v3 ⟨rfl, b3⟩
      have b3 := chain b2 b3
      go_wp2_with fail
      refine (H4.out _ b3).mono ?_
      rintro e v4 ⟨rfl, b4⟩
      have b4 := chain b3 b4
      go_wp2_with fail
      refine (H5.out _).mono ?_
      rintro e v5 ⟨rfl, b5⟩
      have b5 := chain b4 b5
      go_wp2_with fail
      refine (H6.out _).mono ?_
      rintro e v6 ⟨rfl, b6⟩
      have b6 := chain b5 b6
      go_wp2_with fail
      refine (H7.out _ b6).mono ?_
      rintro e v7 ⟨rfl, b7⟩
      have b7 := chain b6 b7
      go_wp2_with fail
      refine (H8.out _ b7).mono ?_
      rintro e v8 ⟨rfl, b8⟩
      have b8 := chain b7 b8
      go_wp2_with fail
      go_ret
      exact ⟨rfl, b8⟩
    · have z0 : (0 : Int) < ((txt (cleanM s.data.toList)).size : Int) := by
        rw [txt_size]
        have := List.length_pos_iff.2 hc
        omega
      have z1 : (((txt (cleanM s.data.toList)).size : Int) == 0) = false := by rw [beq_eq_false_iff_ne]; omega
      have H9 := hide (fun w' (b : Below w.heap.size w w') => mailList_any (txt (cleanM s.data.toList)) w' (clean_size h) (hT.below b))
      rw [txt_data, cleanM_list hc] at H9
      have H10 := hide (fun w' (b : Below w.heap.size w w') => mailList_any s w' (by omega) (hT.below b))
      clear hc hT h
      generalize txt (cleanM s.data.toList) = c at *
      generalize listL s.data.toList = l at *
      go_enter Tryd.func5, Tryd.ntmps5
      go_wp2_with fail
      refine (H1.out _ (Below.refl _ _)).mono ?_
      rintro e v1 ⟨rfl, b1⟩
      go_wp2_with fail
      refine (H2.out _ b1).mono ?_
      rintro e v2 ⟨rfl, b2⟩
      have b2 := chain b1 b2
      go_wp2_with fail
      refine (HL.out _).mono ?_
      rintro e uu ⟨rfl, rfl⟩
      go_wp2_with fail
      refine (H3.out _ b2).mono ?_
      rintro e v3 ⟨rfl, b3⟩
      have b3 := chain b2 b3
      go_wp2_with fail
      refine (H4.out _ b3).mono ?_
      rintro e v4 ⟨rfl, b4⟩
      have b4 := chain b3 b4
      go_wp2_with fail
      refine (H5.out _).mono ?_
      rintro e v5 ⟨rfl, b5⟩
      have b5 := chain b4 b5
      go_wp2_with fail
      refine (H6.out _).mono ?_
      rintro e v6 ⟨rfl, b6⟩
      have b6 := chain b5 b6
      go_wp2_with fail
      refine (H7.out _ b6).mono ?_
      rintro e v7 ⟨rfl, b7⟩
      have b7 := chain b6 b7
      go_wp2_with fail
      refine (H8.out _ b7).mono ?_
      rintro e v8 ⟨rfl, b8⟩
      have b8 := chain b7 b8
      go_wp2_with fail
      refine (H9.out _ b8).mono ?_
      rintro e v9 ⟨rfl, b9⟩
      have b9 := chain b8 b9
      go_wp2_with fail
      refine (H10.out _ b9).mono ?_
      rintro e v10 ⟨rfl, b10⟩
      have b10 := chain b9 b10
      go_wp2_with fail
      go_ret
      exact ⟨rfl, b10⟩
  · have HL := hide (fun w' => longM_yes s w' (by omega))
    clear hT h
    go_enter Tryd.func5, Tryd.ntmps5
    go_wp2_with fail
    refine (H1.out _ (Below.refl _ _)).mono ?_
    rintro e v1 ⟨rfl, b1⟩
    go_wp2_with fail
    refine (H2.out _ b1).mono ?_
    rintro e v2 ⟨rfl, b2⟩
    have b2 := chain b1 b2
    go_wp2_with fail
    refine (HL.out _).mono ?_
    rintro e uu ⟨rfl, rfl⟩
    go_wp2_with fail
    go_ret
    exact ⟨rfl, b2⟩

theorem take_all_next {ws : List (List UInt8)} {j : Nat} (h : j < ws.length) : (ws.take (j + 1)).all labelL = ((ws.take j).all labelL && labelL ws[j]) := by
  rw [take_one h, List.all_append]; simp
theorem txt_self (s : ByteArray) : txt s.data.toList = s := rfl
theorem at_free {u : ByteArray} (h : ∀ j (hj : j < u.size), ¬ u[j] = 64) : (64 : UInt8) ∉ u.data.toList := by
  intro m
  obtain ⟨j, hj, e⟩ := List.getElem_of_mem m
  have hj' : j < u.size := by simpa using hj
  have : u[j] = u.data.toList[j]'hj := by simp; rfl
  exact h j hj' (by rw [this]; exact e)

set_option maxHeartbeats 2000000 in
set_option maxRecDepth 100000 in
theorem mparts_walk (u k : ByteArray) (w : World) (hT : MailTabs w) :
    Calls Tryd.prog 6 #[.string u, .string k] w fun e w' => e = .returned (.bool true) ∧ Below w.heap.size w w' := by
  have H1 := hide (fun w' (b : Below w.heap.size w w') => mailAddr_any ⟨#[97, 64, 98]⟩ w' (by decide) (hT.below b))
  rw [mwake_3] at H1
  by_cases hu : 8192 < u.size
  · have HL := hide (fun w' => longM_yes u w' hu)
    clear hT hu
    go_enter Tryd.func6, Tryd.ntmps6
    go_wp2_with fail
    refine (H1.out _ (Below.refl _ _)).mono ?_
    rintro e v1 ⟨rfl, b1⟩
    go_wp2_with fail
    refine (HL.out _).mono ?_
    rintro e uu ⟨rfl, rfl⟩
    go_wp2_with fail
    go_ret
    exact ⟨rfl, b1⟩
  by_cases hk : 8192 < k.size
  · have HL := hide (fun w' => longM_no u w' (by omega))
    have HL2 := hide (fun w' => longM_yes k w' hk)
    clear hT hu hk
    go_enter Tryd.func6, Tryd.ntmps6
    go_wp2_with fail
    refine (H1.out _ (Below.refl _ _)).mono ?_
    rintro e v1 ⟨rfl, b1⟩
    go_wp2_with fail
    refine (HL.out _).mono ?_
    rintro e uu ⟨rfl, rfl⟩
    go_wp2_with fail
    refine (HL2.out _).mono ?_
    rintro e uu ⟨rfl, rfl⟩
    go_wp2_with fail
    go_ret
    exact ⟨rfl, b1⟩
  have HL := hide (fun w' => longM_no u w' (by omega))
  have HL2 := hide (fun w' => longM_no k w' (by omega))
  have hu' : u.size ≤ 8192 := by omega
  have hk' : k.size ≤ 8192 := by omega
  have z64 : (⟨#[64]⟩ : ByteArray).size = 1 := rfl
  have z97 : (⟨#[64, 97]⟩ : ByteArray).size = 2 := rfl
  have za : (⟨#[97, 64]⟩ : ByteArray).size = 2 := rfl
  have HU := hide (fun w' (b : Below w.heap.size w w') => mailAddr_any (u ++ ⟨#[64, 97]⟩) w' (by rw [ByteArray.size_append]; omega) (hT.below b))
  have HF := hide (fun w' (b : Below w.heap.size w w') => mailAddr_any (u ++ ⟨#[64]⟩ ++ k) w' (by rw [ByteArray.size_append, ByteArray.size_append]; omega) (hT.below b))
  have HP := hide (fun (p : List UInt8) w' (b : Below w.heap.size w w') (h : p.length ≤ 8192) => mailAddr_any (⟨#[97, 64]⟩ ++ txt p) w' (by rw [ByteArray.size_append, txt_size]; omega) (hT.below b))
  have EU : Hid ((u ++ ⟨#[64, 97]⟩).data.toList = u.data.toList ++ [64, 97]) := by show _ = _; simp
  have EF : Hid ((u ++ ⟨#[64]⟩ ++ k).data.toList = u.data.toList ++ 64 :: k.data.toList) := by show _ = _; simp
  have EP : Hid (∀ p : List UInt8, (⟨#[97, 64]⟩ ++ txt p).data.toList = 97 :: 64 :: p) := fun p => by simp [txt]
  have HS := hide (fun w' => refSplit_any k 46 w' (by omega))
  have hls : k.data.toList.length = k.size := by simp
  have hne := split_ne 46 k.data.toList
  have hcnt := split_count 46 k.data.toList
  rw [hls] at hcnt
  have hmem := hide (fun p hp => Nat.le_trans (split_mem (c := 46) (l := k.data.toList) (p := p) hp) (show k.data.toList.length ≤ 8192 by omega))
  have hfree := hide (fun p hp => split_free (c := 46) k.data.toList p hp)
  have q1 := fun w => run_string_add_sum (P := Tryd.prog) w u ⟨#[64, 97]⟩ (by omega)
  have q2 := fun w => run_string_add_sum (P := Tryd.prog) w u ⟨#[64]⟩ (by omega)
  have q3 := fun w => run_string_add_sum (P := Tryd.prog) w (u ++ ⟨#[64]⟩) k (by rw [ByteArray.size_append]; omega)
  have AF := hide (fun (h : ∀ j (hj : j < u.size), ¬ u[j] = 64) => (⟨addr_user (at_free h), addr_at k.data.toList (at_free h)⟩ : addrL (u.data.toList ++ [64, 97]) = userOk u.data.toList ∧ addrL (u.data.toList ++ 64 :: k.data.toList) = (userOk u.data.toList && (splitL 46 k.data.toList).all labelL)))
  clear hT hu hk hls
  go_enter Tryd.func6, Tryd.ntmps6
  go_wp2_with fail
  refine (H1.out _ (Below.refl _ _)).mono ?_
  rintro e v1 ⟨rfl, b1⟩
  go_wp2_with fail
  refine (HL.out _).mono ?_
  rintro e uu ⟨rfl, rfl⟩
  go_wp2_with fail
  refine (HL2.out _).mono ?_
  rintro e uu ⟨rfl, rfl⟩
  go_wp2_with fail
  go_loop [19] (fun v => ∃ j : Nat, v = .int .i64 j ∧ j ≤ u.size ∧ Hid (∀ m (hm : m < u.size), m < j → ¬ u[m] = 64)) (fun v => u.size - (intOf v).toNat)
  case atStart => exact ⟨0, rfl, by omega, fun m _ h => by omega⟩
  case round =>
    obtain ⟨j, rfl, hj, hS⟩ := hrel
    by_cases hlt : j < u.size
    · by_cases h64 : u[j] = 64
      · have n1 : ((u[j].toNat : Int) == 64) = true := by rw [h64]; rfl
        clear hS h64
        go_wp2_with fail
        go_ret
        exact ⟨rfl, b1⟩
      · have hN : Hid (∀ m (hm : m < u.size), m < j + 1 → ¬ u[m] = 64) := fun m hm h => by
          rcases Nat.lt_or_ge m j with g | g
          · exact hS.out m hm g
          · obtain rfl : m = j := by omega
            exact h64
        have n0 : ¬ (u[j].toNat : Int) = 64 := fun e => h64 (byte_eq (b := 64) e)
        have n1 : ((u[j].toNat : Int) == 64) = false := by simpa using n0
        clear hS h64 n0
        go_wp2_with fail
        go_round
        case rel => exact ⟨j + 1, by go_num, by omega, hN⟩
        case measure => simp [intOf]; omega
    · obtain rfl : j = u.size := by omega
      obtain ⟨a1, a2⟩ := AF.out (fun m hm => hS.out m hm hm)
      have HU := HU.out
      rw [EU.out, a1] at HU
      have HU := hide HU
      have HF := HF.out
      rw [EF.out, a2] at HF
      have HF := hide HF
      clear a1 a2 hS AF EU EF hlt hj
      generalize userOk u.data.toList = ok at *
      generalize splitL 46 k.data.toList = ws at *
      generalize u ++ ⟨#[64]⟩ ++ k = s3 at *
      generalize u ++ ⟨#[64]⟩ = s2 at *
      generalize u ++ ⟨#[64, 97]⟩ = s1 at *
      go_wp2_with fail
      refine (HU.out _ b1).mono ?_
      rintro e v2 ⟨rfl, b2⟩
      have b2 := chain b1 b2
      go_wp2_with fail
      refine (HS.out _).mono ?_
      rintro e w1 ⟨v, rfl, hv, b3⟩
      have b3 := chain b2 b3
      obtain ⟨g, cap, rfl, hg, hcells⟩ := row_form hv hne
      have HC := hide hcells
      clear hcells hv HS
      go_wp2_with fail
      go_loopw [6, 33] (fun a i wr => ∃ j : Nat, j ≤ ws.length ∧ i = .int .i64 j ∧ a = .bool (ok && (ws.take j).all labelL) ∧ Below w1.heap.size w1 wr) (fun _ i _ => ws.length - (intOf i).toNat)
      case atStart => exact ⟨0, Nat.zero_le _, rfl, by simp, Below.refl _ _⟩
      case round =>
        obtain ⟨j, hj, rfl, rfl, hb⟩ := hrel
        rename World => wr
        by_cases hjl : j < ws.length
        · have hc := (hb.cell (p := ⟨g, j, none⟩) hg).trans (HC.out j hjl)
          have E := hide (take_all_next hjl)
          have hp := hmem.out ws[j] (List.getElem_mem _)
          have HA := hide (HP.out ws[j] wr (chain b3 hb) hp)
          rw [EP.out, addr_host (hfree.out ws[j] (List.getElem_mem _))] at HA
          have q4 := fun w => run_string_add_sum (P := Tryd.prog) w ⟨#[97, 64]⟩ (txt ws[j]) (by rw [txt_size]; omega)
          have j1 : (j : Int) < (ws.length : Int) := by omega
          cases ha : (ok && (ws.take j).all labelL) with
          | true =>
            have RD : Hid (Value.bool (labelL ws[j]) = .bool (ok && (ws.take (j + 1)).all labelL)) := by
              show _ = _
              rw [E.out, ← Bool.and_assoc, ha, Bool.true_and]
            clear E ha HP EP hmem hfree HC hp
            generalize labelL ws[j] = lb at *
            generalize ⟨#[97, 64]⟩ ++ txt ws[j] = t2 at *
            generalize txt ws[j] = t at *
            go_wp2_with fail
            refine HA.out.mono ?_
            rintro e u1 ⟨rfl, c1⟩
            go_wp2_with fail
            go_roundw
            case rel => exact ⟨j + 1, by omega, by go_num, RD.out, hb.trans (c1.mono hb.size)⟩
            case measure => simp [intOf]; omega
          | false =>
            have RD : Hid (Value.bool false = .bool (ok && (ws.take (j + 1)).all labelL)) := by
              show _ = _
              rw [E.out, ← Bool.and_assoc, ha, Bool.false_and]
            clear E ha HP EP hmem hfree HC hp HA q4
            generalize txt ws[j] = t at *
            go_wp2_with fail
            go_roundw
            case rel => exact ⟨j + 1, by omega, by go_num, RD.out, hb⟩
            case measure => simp [intOf]; omega
        · obtain rfl : j = ws.length := by omega
          have b4 := chain b3 hb
          rw [List.take_length]
          clear HP EP hmem hfree HC hjl
          generalize (ok && ws.all labelL) = r at *
          go_wp2_with fail
          refine (HF.out _ b4).mono ?_
          rintro e v5 ⟨rfl, b5⟩
          have b5 := chain b4 b5
          go_wp2_with fail
          go_ret
          exact ⟨rfl, b5⟩

end Go.Proofs.YtbnlliiimfjbpaaDoor
