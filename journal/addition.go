package journal

import (
	"mainline/api"
	"mainline/disk"
)

// addition is a record that comes onto a disk, with its frame at the end.
type addition struct {
	disk *disk.Disk
	end  int
	body string
}

// steps returns the calls of the disk that add the record. The mark alone makes the frame of it, and is within one sector: it is written after the whole body survives, and there is nothing between with the mark and without it.
func (a addition) steps() []func() api.Errno {
	return []func() api.Errno{a.writeBody, a.disk.Sync, a.writeMark, a.disk.Sync}
}

// writeBody writes the body, and a blank at the new end, where a mark may be left of what was written there before a power failure.
func (a addition) writeBody() api.Errno {
	return a.disk.Write(a.end+len(mark), a.body+blank)
}

func (a addition) writeMark() api.Errno {
	return a.disk.Write(a.end, mark)
}

// behind returns the offset behind the frame.
func (a addition) behind() int {
	return a.end + len(mark) + len(a.body)
}
