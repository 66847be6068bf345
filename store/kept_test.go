package store

import (
	"strconv"
	"testing"

	"palinode/api"
	"palinode/disk"
)

// P17.3, P17.4: of tables that are gone, of snapshots that were let go of and of work that is done nothing is kept, which no call tells.
func TestNothingIsKeptForNothing(t *testing.T) {
	for _, sectors := range []int{240, 1500} {
		d, err := disk.New(sectors)
		if err != nil {
			t.Fatal(err)
		}
		s, err := Format(d)
		if err != nil {
			t.Fatal(err)
		}
		for i := range 120 {
			held := s.Snap()
			s.Write([]api.Change{{Key: "a" + strconv.Itoa(i%9), Value: strconv.Itoa(i)}, {Key: "b" + strconv.Itoa(i)}})
			s.Want()
			s.Step()
			s.Step()
			if !s.Free(held) || len(s.held) != 0 || s.work != nil {
				t.Fatalf("%d snapshots and work %v are kept", len(s.held), s.work)
			}
			if len(s.tables) != len(s.version.Tables) {
				t.Fatalf("%d tables are kept, the version has %d", len(s.tables), len(s.version.Tables))
			}
		}
		if s.memory.Len() > 0 == (sectors > 240) {
			t.Errorf("%d entries are in memory", s.memory.Len())
		}
	}
}
