package disk

import "freshet/api"

func rightName(name string) bool {
	return 1 <= len(name) && len(name) <= api.MaxName
}

func rightWrite(w api.Write) bool {
	if !rightName(w.Name) {
		return false
	}
	switch w.Kind {
	case api.WriteAppend:
		return w.To == ""
	case api.WriteRename:
		return rightName(w.To) && w.Data == ""
	case api.WriteRemove:
		return w.To == "" && w.Data == ""
	}
	return false
}

func rightFiles(l []api.File) bool {
	if len(l) > api.MaxFiles {
		return false
	}
	for i, f := range l {
		if !rightName(f.Name) || i > 0 && l[i-1].Name >= f.Name {
			return false
		}
	}
	return true
}

// rightWaits follows the writes from right files on, since at no time may there be too many files.
func rightWaits(files []api.File, l []api.Write) bool {
	if len(l) > api.MaxWaits {
		return false
	}
	v := look(files)
	for _, w := range l {
		if !rightWrite(w) {
			return false
		}
		v.apply(w)
		if v.tooMany() {
			return false
		}
	}
	return true
}
