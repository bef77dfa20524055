package tests

import (
	"strings"
	"testing"

	"loop.example/g01244/impl"
)

var machineTexts = []string{
	"2:0a1a", "2:1a0a", "3:0a1a2a", "3:2a0a1a", "3:1a2a0a", "3:0a2a1a", "3:2a1a0a", "3:1a0a2a",
	"2:0a1a,1a0b", "3:0a1a2a,1a2a0b", "2:1c0b,1b0c,0a1a", "2:0a1a,0a1c,1a0b", "2:0a1a,1a0a,0b1d,0b1e,0a1c",
	"3:0a1a2a,1a2a0a,0b1c2d,2a0a1a", "3:0a1a2a,1a0a2b,2a1c0a,0d2a1a", "2:0a1b,1a0b",
	"2:0b1c,1d0e,0f1g,1h0i,0j1k,1l0m,0n1o,1p0a,0a1a,0b1b,0c1c,0d1d,1e0e,1f0f,1g0g,1h0p",
	"3:0b1c2p,1d2e0o,0f1g2n,1h2i0m,0j1k2l,1l0m2k,0n1o2j,1p0a2i,0a2a1h,0b2b1g,0c2c1f,0d2d1e,2e1e0d,2f1f0c,2g0g1b,2h0p1a",
}

var noMachineTexts = []string{
	"", "2", ":", "2:", "3:", "2:,", "0:", "1:0a", "1:", "4:0a1a2a3a", "4:0a1a", "9:0a1a", "a:0a1a", "02:0a1a", "-2:0a1a", "+2:0a1a", "22:0a1a",
	"2;0a1a", "2 0a1a", "20a1a", ":0a1a", "0a1a", "2::0a1a", "2:0a1a:", "2:0a1a,", "2:,0a1a", "2:0a1a,,0a1a", "2:0a1a;0a1a", "2:0a1a0a1a", "2:0a1a 0a1a",
	" 2:0a1a", "2:0a1a ", "2: 0a1a", "2:0a1a, 0a1a", "2:0a1a\n", "\n2:0a1a", "2:0a1a\x00",
	"2:0a", "2:0a1", "2:0a1a2a", "3:0a1a", "3:0a1a2", "3:0a1a2a,0a1a", "2:0a1a,0a1a2a", "3:0a1a2a0a", "2:a0a1", "2:01aa",
	"2:0a0a", "2:1a1a", "2:0a2a", "2:2a0a", "3:0a1a1a", "3:0a0a2a", "3:2a1a2a", "3:0a1a3a", "2:0a/a", "2:0a:a", "2:\x000a1", "2:0a\xb1a",
	"2:0a1b", "2:0b1a", "2:0a1a,0c1a", "2:0a1a,0a1c", "3:0a1a2b", "2:0q1a", "2:0A1a", "2:0a1A", "2:0`1a", "2:001a", "2:0\xe11a", "2:0a1P",
	"2:" + strings.Repeat("0a1a,", 15) + "0a1q",
	"2:" + strings.Repeat("0a1a,", 16) + "0a1a",
	"3:" + strings.Repeat("0a1a2a,", 16) + "0a1a2a",
	"2:" + strings.Repeat("0a1a,", 16),
	"2:" + strings.Repeat("0a1a,", 100000) + "0a1a",
	"3:" + strings.Repeat(",", 100000),
	strings.Repeat("2:0a1a", 1000),
	"\u0662:0a1a", "2:\uff10a1a",
}

func TestConstants(t *testing.T) {
	codes := []int64{impl.ErrNone, impl.ErrInvalid, impl.ErrRange, impl.ErrLimit, impl.ErrNotFound, impl.ErrState, impl.ErrSyntax}
	for want, code := range codes {
		if code != int64(want) {
			t.Errorf("the error code %d is %d", want, code)
		}
	}
	if impl.MaxStates != 16 || impl.MaxWord != 40 || impl.MaxLevel != 5 {
		t.Errorf("limits %d, %d, %d", impl.MaxStates, impl.MaxWord, impl.MaxLevel)
	}
}

func TestIsMachine(t *testing.T) {
	for _, m := range manyMachines() {
		if !impl.IsMachine(m) {
			t.Errorf("IsMachine(%v) = false", m)
		}
	}
	for name, m := range badMachines() {
		if impl.IsMachine(m) {
			t.Errorf("%s: IsMachine(%v) = true", name, m)
		}
	}
}

// TestIsMachineEveryEntry sets each entry of a machine to each byte: the entries that are not used
// must be 0, and all others in their range.
func TestIsMachineEveryEntry(t *testing.T) {
	for _, text := range []string{"2:0a1a,1a0b", "3:0a1a2a,1a2a0b,2c1a0b"} {
		m := parse(t, text)
		for q := range int64(16) {
			for x := range int64(3) {
				used := q < m.States && x < m.Letters
				for b := range 256 {
					next, out := m, m
					next.Next[q][x] = byte(b)
					out.Out[q][x] = byte(b)
					if want := b == 0 || used && int64(b) < m.States; impl.IsMachine(next) != want {
						t.Errorf("%s: Next[%d][%d] = %d: not %v", text, q, x, b, want)
					}
					if want := out == m; impl.IsMachine(out) != want {
						t.Errorf("%s: Out[%d][%d] = %d: not %v", text, q, x, b, want)
					}
				}
			}
		}
	}
}

func TestMachineTextAndBack(t *testing.T) {
	for _, text := range machineTexts {
		m := parse(t, text)
		if !impl.IsMachine(m) {
			t.Errorf("ParseMachine(%q) = %v: no machine", text, m)
		}
		if got, code := impl.MachineText(m); got != text || code != impl.ErrNone {
			t.Errorf("MachineText of %q = %q, %d", text, got, code)
		}
	}
	for _, m := range manyMachines() {
		text, code := impl.MachineText(m)
		sameCode(t, "MachineText", code, impl.ErrNone)
		if back, code := impl.ParseMachine(text); back != m || code != impl.ErrNone {
			t.Errorf("ParseMachine(%q) = %v, %d, not %v", text, back, code, m)
		}
	}
}

func TestParseMachineEntries(t *testing.T) {
	m := parse(t, "3:2b0c1a,0a1b2c,1c0b2a")
	want := impl.Machine{
		Letters: 3,
		States:  3,
		Next:    [16][3]byte{{1, 2, 0}, {0, 1, 2}, {2, 1, 0}},
		Out:     [16][3]byte{{2, 0, 1}, {0, 1, 2}, {1, 0, 2}},
	}
	if m != want {
		t.Errorf("ParseMachine = %v", m)
	}
}

func TestMachineTextErrors(t *testing.T) {
	for name, m := range badMachines() {
		if text, code := impl.MachineText(m); text != "" || code != impl.ErrInvalid {
			t.Errorf("%s: MachineText = %q, %d", name, text, code)
		}
	}
}

func TestParseMachineErrors(t *testing.T) {
	for _, text := range noMachineTexts {
		if m, code := impl.ParseMachine(text); m != (impl.Machine{}) || code != impl.ErrSyntax {
			t.Errorf("ParseMachine(%.40q) = %v, %d", text, m, code)
		}
	}
}

// TestParseMachineChangedTexts changes one byte of a text: what is parsed then must have just the
// changed text.
func TestParseMachineChangedTexts(t *testing.T) {
	for _, text := range []string{"2:0a1a,1a0b", "3:0a1a2a,1a2a0b"} {
		for i := range len(text) {
			for b := range 256 {
				changed := []byte(text)
				changed[i] = byte(b)
				m, code := impl.ParseMachine(string(changed))
				if code == impl.ErrNone {
					if back, _ := impl.MachineText(m); back != string(changed) {
						t.Errorf("ParseMachine(%q) has the text %q", changed, back)
					}
				} else if code != impl.ErrSyntax || m != (impl.Machine{}) {
					t.Errorf("ParseMachine(%q) = %v, %d", changed, m, code)
				}
			}
			cut := text[:i]
			if m, code := impl.ParseMachine(cut); code == impl.ErrNone && (i != 6 && i != 8 || m.States != 1) {
				t.Errorf("ParseMachine(%q) = %v", cut, m)
			}
		}
	}
}
