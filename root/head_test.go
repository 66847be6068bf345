package root_test

import (
	"math"
	"strings"
	"testing"

	"palinode/api"
	"palinode/root"
)

// zeros is so many zero bytes.
func zeros(n int) string { return strings.Repeat("\x00", n) }

// head is a header that must be had.
func head(t *testing.T, seq, size int) string {
	t.Helper()
	b, err := root.Head(seq, size)
	if err != nil {
		t.Fatalf("Head(%d, %d): %v", seq, size, err)
	}
	return b
}

// reads checks what ReadHead answers.
func reads(t *testing.T, b string, wantSeq, wantSize int, want error) {
	t.Helper()
	seq, size, err := root.ReadHead(b)
	if seq != wantSeq || size != wantSize || err != want {
		t.Errorf("ReadHead(%x) = %d, %d, %v; want %d, %d, %v", b, seq, size, err, wantSeq, wantSize, want)
	}
}

// P6.2: headers and their bytes.
func TestHeads(t *testing.T) {
	for _, c := range []struct {
		seq, size           int
		seqBytes, sizeBytes string
	}{
		{1, 0, "\x00\x00\x00\x00\x00\x00\x01", "\x00\x00"},
		{5, 14, "\x00\x00\x00\x00\x00\x00\x05", "\x00\x0e"},
		{255, 255, "\x00\x00\x00\x00\x00\x00\xff", "\x00\xff"},
		{256, 256, "\x00\x00\x00\x00\x00\x01\x00", "\x01\x00"},
		{0x123456789abc, 0x123, "\x00\x12\x34\x56\x78\x9a\xbc", "\x01\x23"},
		{0x1cba9876543210, 511, "\x1c\xba\x98\x76\x54\x32\x10", "\x01\xff"},
		{1 << 48, 1, "\x01\x00\x00\x00\x00\x00\x00", "\x00\x01"},
		{api.MaxNumber, 512, "\x1f\xff\xff\xff\xff\xff\xff", "\x02\x00"},
	} {
		want := "PL" + c.seqBytes + c.sizeBytes + zeros(45) + c.seqBytes + "E"
		if b, err := root.Head(c.seq, c.size); b != want || err != nil {
			t.Errorf("Head(%d, %d) = %x, %v; want %x", c.seq, c.size, b, err, want)
		}
		reads(t, want, c.seq, c.size, nil)
	}
}

// P6.2, P6: Head takes a seq from 1 to MaxNumber and a size from 0 to 512.
func TestHeadOutOfRange(t *testing.T) {
	refused := func(seq, size int) {
		t.Helper()
		if b, err := root.Head(seq, size); b != "" || err != api.ErrArg {
			t.Errorf("Head(%d, %d) = %x, %v; want ErrArg", seq, size, b, err)
		}
	}
	for _, seq := range append(beyond, 0) {
		for _, size := range []int{-1, 0, 1, 512, 513} {
			refused(seq, size)
		}
	}
	for _, size := range append(beyond, 513, 514, 1<<16, 1<<16+5, 1<<32, math.MinInt+512) {
		for _, seq := range []int{0, 1, 5, api.MaxNumber} {
			refused(seq, size)
		}
	}
}

// P6.2, P6.3: every size, and seqs of all lengths, come back.
func TestHeadBackAndForth(t *testing.T) {
	for size := range 513 {
		reads(t, head(t, 3, size), 3, size, nil)
	}
	for seq := 1; seq <= api.MaxNumber; seq += seq/5 + 1 {
		b := head(t, seq, 300)
		if len(b) != api.Sector {
			t.Fatalf("a header of %d bytes", len(b))
		}
		reads(t, b, seq, 300, nil)
	}
}

// P6.2: a header has 64 bytes, and that is told ahead of what they are.
func TestReadHeadSize(t *testing.T) {
	b := head(t, 5, 14)
	for size := range 64 {
		reads(t, b[:size], 0, 0, api.ErrShort)
		reads(t, zeros(size), 0, 0, api.ErrShort)
	}
	for _, size := range []int{65, 66, 128, 1 << 16} {
		reads(t, b+zeros(size-64), 0, 0, api.ErrLong)
		reads(t, zeros(size-64)+b, 0, 0, api.ErrLong)
		reads(t, zeros(size), 0, 0, api.ErrLong)
	}
	reads(t, b+b, 0, 0, api.ErrLong)
	reads(t, zeros(64), 0, 0, api.ErrForm)
	reads(t, strings.Repeat("\xff", 64), 0, 0, api.ErrForm)
}

// P6.2: a header with any byte changed is none, unless the byte is one of the size and leaves it within its limit.
func TestReadHeadEveryByte(t *testing.T) {
	for _, c := range []struct{ seq, size int }{{1, 0}, {5, 14}, {256, 256}, {0x123456789abc, 511}, {api.MaxNumber, 512}} {
		b := []byte(head(t, c.seq, c.size))
		for at := range b {
			was := b[at]
			for i := range 256 {
				b[at] = byte(i)
				size := int(b[9])<<8 | int(b[10])
				if b[at] == was || (at == 9 || at == 10) && size <= 512 {
					reads(t, string(b), c.seq, size, nil)
				} else {
					reads(t, string(b), 0, 0, api.ErrForm)
				}
			}
			b[at] = was
		}
	}
}

// P6.2: numbers that no Head has are no header's, though all else is as it should be.
func TestReadHeadOutOfRange(t *testing.T) {
	of := func(seq, size string) string { return "PL" + seq + size + zeros(45) + seq + "E" }
	for _, seq := range []string{
		"\x00\x00\x00\x00\x00\x00\x00", "\x20\x00\x00\x00\x00\x00\x00", "\x20\x00\x00\x00\x00\x00\x01", "\x3f\xff\xff\xff\xff\xff\xff",
		"\x80\x00\x00\x00\x00\x00\x01", "\xff\xff\xff\xff\xff\xff\xff",
	} {
		for _, size := range []string{"\x00\x00", "\x00\x0e", "\x02\x00", "\x02\x01"} {
			reads(t, of(seq, size), 0, 0, api.ErrForm)
		}
	}
	for _, size := range []string{"\x02\x01", "\x02\xff", "\x03\x00", "\x10\x00", "\x80\x00", "\xff\xff"} {
		reads(t, of("\x00\x00\x00\x00\x00\x00\x05", size), 0, 0, api.ErrForm)
		reads(t, of("\x1f\xff\xff\xff\xff\xff\xff", size), 0, 0, api.ErrForm)
	}
	reads(t, of("\x00\x00\x00\x00\x00\x00\x05", "\x02\x00"), 5, 512, nil)
}

// P6.2: two headers of different seqs are no header when the one ends as the other begins.
func TestReadHeadTwoSeqs(t *testing.T) {
	one, two := head(t, 5, 14), head(t, 6, 14)
	reads(t, one[:32]+two[32:], 0, 0, api.ErrForm)
	reads(t, two[:32]+one[32:], 0, 0, api.ErrForm)
}

// P6.3: a header that was torn over another one, or over zero bytes, is one of the two, or none.
func TestTorn(t *testing.T) {
	seqs := []int{1, 2, 5, 7, 255, 256, 257, 512, 65535, 65536, 1<<32 + 1, 0x123456789abc, 0x1cba9876543210, 1 << 48, 1<<48 + 1, 1 << 52, api.MaxNumber - 256, api.MaxNumber - 1, api.MaxNumber}
	for _, newSeq := range seqs {
		for _, newSize := range []int{0, 14, 256, 511, 512} {
			over := head(t, newSeq, newSize)
			for cut := range api.Sector {
				reads(t, over[:cut]+zeros(64)[cut:], 0, 0, api.ErrForm)
			}
			for _, oldSeq := range seqs {
				for _, oldSize := range []int{0, 1, 255, 300, 512} {
					if oldSeq != newSeq {
						tears(t, over, head(t, oldSeq, oldSize))
					}
				}
			}
		}
	}
}

// tears checks what becomes of a header that another one is torn over, wherever it is torn.
func tears(t *testing.T, over, under string) {
	t.Helper()
	for cut := range api.Sector + 1 {
		b := over[:cut] + under[cut:]
		seq, size, err := root.ReadHead(b)
		if err == nil {
			if b != over && b != under {
				t.Fatalf("%x over %x, torn behind byte %d: %d, %d", over, under, cut, seq, size)
			}
			if got, err := root.Head(seq, size); got != b || err != nil {
				t.Fatalf("ReadHead(%x) = %d, %d; Head of these is %x, %v", b, seq, size, got, err)
			}
		} else if err != api.ErrForm || b == over || b == under {
			t.Fatalf("%x over %x, torn behind byte %d: %v", over, under, cut, err)
		}
	}
}

// P6.2, P6.3: whatever the fuzzer finds (without it, the seeds): what is read is written as the same bytes, and what is written is read as the same numbers.
func FuzzHead(f *testing.F) {
	one, _ := root.Head(5, 14)
	two, _ := root.Head(api.MaxNumber, 512)
	f.Add("", 0, 0)
	f.Add(one, 1, 0)
	f.Add(two, api.MaxNumber, 512)
	f.Add(one[:60]+two[60:], api.MaxNumber+1, 513)
	f.Fuzz(func(t *testing.T, b string, seq, size int) {
		gotSeq, gotSize, err := root.ReadHead(b)
		if err == nil && head(t, gotSeq, gotSize) != b || err != nil && (gotSeq != 0 || gotSize != 0) {
			t.Errorf("ReadHead(%x) = %d, %d, %v", b, gotSeq, gotSize, err)
		}
		written, err := root.Head(seq, size)
		if seq < 1 || seq > 1<<53-1 || size < 0 || size > 512 {
			if written != "" || err != api.ErrArg {
				t.Errorf("Head(%d, %d) = %x, %v", seq, size, written, err)
			}
			return
		}
		reads(t, written, seq, size, nil)
	})
}
